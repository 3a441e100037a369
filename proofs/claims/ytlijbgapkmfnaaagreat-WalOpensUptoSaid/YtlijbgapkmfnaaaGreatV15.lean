/-
  Part 15 of what the laws of stage 6 rest on: contracts of the functions that they call, and what these rest on.
-/
import Derived.Deep.DeepCutAuto
import Derived.Deep.CutBlock
import Derived.Deep.RegionHeld3
import Derived.Test.YtlijbgapkmfnaaaGreatV3
import Derived.Test.YtlijbgapkmfnaaaGreatV6
import Derived.Test.YtlijbgapkmfnaaaGreatV9
import Derived.Test.YtlijbgapkmfnaaaGreatV10
import Derived.Test.YtlijbgapkmfnaaaGreatV11
import Derived.Test.YtlijbgapkmfnaaaGreatV12
import Derived.Test.YtlijbgapkmfnaaaGreatV13
import Derived.Test.YtlijbgapkmfnaaaGreatV14
import Derived.Test.YtlijbgapkmfnaaaGreatV1
set_option linter.unusedVariables false
set_option linter.unusedSimpArgs false
namespace Go.Proofs.YtlijbgapkmfnaaaGreat
open Go.RowKit Go.Maps Cr
def OfT (R : Rc) (N : Nat) (B : Bool) (q : Option Addr) (m c : Nat) (ys : List Int) (v : Value) : Prop := ∃ pb nb cb pa na ca, v = .tuple #[.agg #[.int .i64 R.k, .int .u64 R.t, .int .u64 R.p, .int .u64 R.x, .int .i64 R.g, .int .i64 R.o, .slice pb nb cb, .slice pa na ca], .int .i64 (N : Int), .bool B] ∧ ∀ U, Byt U q m c ys → Byt U pb nb cb R.b ∧ Byt U pa na ca R.a
def OfG (R : Rc) (q : Option Addr) (m c : Nat) (ys : List Int) (cs : Array Value) : Prop := ∃ pb nb cb pa na ca, cs = #[.int .i64 R.k, .int .u64 R.t, .int .u64 R.p, .int .u64 R.x, .int .i64 R.g, .int .i64 R.o, .slice pb nb cb, .slice pa na ca] ∧ ∀ U, Byt U q m c ys → Byt U pb nb cb R.b ∧ Byt U pa na ca R.a
def OfA (R : Rc) (q : Option Addr) (m c : Nat) (ys : List Int) (v : Value) : Prop := ∃ cs, v = .agg cs ∧ OfG R q m c ys cs
theorem OfG.size {R : Rc} {q : Option Addr} {m c : Nat} {ys : List Int} {cs : Array Value} (h : OfG R q m c ys cs) : cs.size = 8 := by
 obtain ⟨_, _, _, _, _, _, rfl, _⟩ := h
 rfl
theorem OfG.one {R : Rc} {q : Option Addr} {m c : Nat} {ys : List Int} {cs : Array Value} (h : OfG R q m c ys cs) : cs.all (·.oneCell') = true := by
 obtain ⟨_, _, _, _, _, _, rfl, _⟩ := h
 simp [Value.oneCell']
def zrec : Array Value := #[.int .i64 0, .int .u64 0, .int .u64 0, .int .u64 0, .int .i64 0, .int .i64 0, .slice none 0 0, .slice none 0 0]
theorem size_rec : (Tryz.prog.info? TR).map (·.size) = some 8 := by kernel_rfl
def InO (y z d : Nat) (T : TypeId) (ZS : Array Value) (Pr : Array Value → Prop) (w0 : World) (l : Nat → Bool) (a : Act) (W : World) : Prop :=
 Gr w0 W ∧ (l y = true → ∃ k, a.tmps.getD d undef = .pointer (some ⟨k, 0, none⟩) ∧ w0.heap.size ≤ k ∧ cond (l z) (∃ cs, Pr cs ∧ Blk W k T cs) (Blk W k T ZS))
section
variable {y z d : Nat} {T : TypeId} {ZS : Array Value} {Pr : Array Value → Prop} {w0 W W' : World} {l : Nat → Bool} {a : Act}
theorem InO.start (h : l y = false) (g : Gr w0 W) : InO y z d T ZS Pr w0 l a W := ⟨g, fun e => by rw [h] at e; cases e⟩
theorem InO.other (h : InO y z d T ZS Pr w0 l a W) (i : Nat) (h1 : y ≠ i) (h2 : z ≠ i) {x : Option Nat} (hx : x ≠ some d) (v : Value) (g : Gr W W') : InO y z d T ZS Pr w0 (Flow.upd l i) (a.put x v) W' := by
 unfold InO
 rw [Flow.upd_other l h1, Flow.upd_other l h2, Flow.getD_put_other hx]; refine ⟨Gr.trans h.1 g, fun e => ?_⟩; obtain ⟨k, hk1, hk2, hk3⟩ := h.2 e; refine ⟨k, hk1, hk2, ?_⟩
 cases hz : l z
 ·
  rw [hz] at hk3
  exact Blk.gr hk3 g
 ·
  rw [hz] at hk3
  obtain ⟨cs, h5, h6⟩ := hk3; exact ⟨cs, h5, h6.gr g⟩
theorem InO.alloc (h : InO y z d T ZS Pr w0 l a W) (hyz : z ≠ y) (hz : l z = false) (hd : d < a.tmps.size) : InO y z d T ZS Pr w0 (Flow.upd l y) (a.put (some d) (.pointer (some ⟨W.heap.size, 0, none⟩))) (W.alloc (.cells ZS T)) := by
 unfold InO
 rw [Flow.upd_other l hyz, hz, Flow.getD_put_same hd]; exact ⟨Gr.trans h.1 ((Gr.refl W).alloc (Nat.le_refl _) _), fun _ => ⟨W.heap.size, rfl, h.1.size, Blk.new _ _ _⟩⟩
theorem InO.store (h : InO y z d T ZS Pr w0 l a W) (hyz : y ≠ z) {k : Nat} (hk : a.tmps.getD d undef = .pointer (some ⟨k, 0, none⟩)) (hw : w0.heap.size ≤ k) {x : Option Nat} (hx : x ≠ some d) (v : Value) (hb : ∃ cs, Pr cs ∧ Blk W' k T cs) (hg : Below w0.heap.size w0 W') : InO y z d T ZS Pr w0 (Flow.upd l z) (a.put x v) W' := by
 unfold InO
 rw [Flow.upd_other l hyz, Flow.upd_same, Flow.getD_put_other hx]; exact ⟨hg, fun _ => ⟨k, hk, hw, hb⟩⟩
theorem InO.post (h : InO y z d T ZS Pr w0 l a W) (hy : l y = true) (hz : l z = true) : Gr w0 W ∧ ∃ k, a.tmps.getD d undef = .pointer (some ⟨k, 0, none⟩) ∧ w0.heap.size ≤ k ∧ ∃ cs, Pr cs ∧ Blk W k T cs := by
 obtain ⟨k, h1, h2, h3⟩ := h.2 hy
 rw [hz] at h3
 exact ⟨h.1, k, h1, h2, h3⟩
end
theorem OwnB.front {w : World} {B tB : Nat} {p : Option Addr} {n c : Nat} {xs : List Int} (h : OwnB w B tB (.slice p n c) xs) (k : Nat) (hk : k ≤ n) : OwnB w B tB (.slice p k c) (xs.take k) := by
 obtain ⟨hby, hn⟩ := h.byt; refine ⟨⟨by simp, ?_⟩, h.small.take k⟩
 rcases h.row.2 with ⟨h0, hn0⟩ | ⟨g, cap, cur, h0, hb, hg, r1, r2, r3, r4⟩
 ·
  simp only [Value.slice.injEq] at h0
  obtain ⟨rfl, rfl, rfl⟩ := h0
  obtain rfl : k = 0 := by omega
  exact .inl ⟨rfl, by simp⟩
 ·
  simp only [Value.slice.injEq] at h0
  obtain ⟨rfl, hn2, rfl⟩ := h0
  have hl : (xs.take k).length = k := by rw [List.length_take]; omega
  refine .inr ⟨g, c, cur, by rw [hl], hb, hg, by rw [hl]; omega, r2, r3, ?_⟩; rw [hl, Nat.mul_one, List.map_take, ← r4, List.take_take, Nat.mul_one]
  congr 1
  omega
theorem cut_front {w : World} {B tB : Nat} {p : Option Addr} {n c : Nat} {xs : List Int} (h : OwnB w B tB (.slice p n c) xs) (k : Nat) (hk : k ≤ n) (W : World) : (Instr.slice TBs (.slice p n c) none (some (.int .i64 (k : Int))) none).run Tryz.prog W = .ok (.slice p k c) W := by
 obtain ⟨hby, _⟩ := h.byt; have hc := hby.cap; rw [run_slice_h W TBs p n c under_bs .i64 (k : Int) (by omega) (by omega), size_bs]
 rcases h.row.2 with ⟨h0, _⟩ | ⟨g, cap, cur, h0, _⟩
 ·
  cases h0
  simp [sliced]
 ·
  cases h0
  simp [sliced, Addr.add]
def SlRoo (b : Nat) (fr : Nat) (pB : Option Addr) (m0 : Nat) (cB : Nat) (e : Nat) (J : Nat) (q2 : Option Addr) (M2 : Nat) (C2 : Nat) (Rr : Rc) (N : Nat) (Bb : Bool) (zs : List Int) (slot : Nat) (v : Value) (_ : World) : Prop :=
 match slot with
 | 22 => v = .int .i64 (N : Int)
 | 23 => v = .bool Bb
 | 111 => v = .pointer (some ⟨b, 0, none⟩)
 | 112 => v = .pointer (some ⟨b, 0, none⟩)
 | 113 => v = .pointer (some ⟨b, 5, none⟩)
 | 114 => v = .slice pB m0 cB
 | 115 => v = .int .u64 (e : Int)
 | 116 => v = .pointer (some ⟨b, 0, none⟩)
 | 117 => v = .pointer (some ⟨b, 0, none⟩)
 | 118 => v = .pointer (some ⟨b, 4, none⟩)
 | 119 => v = .int .u64 (fr : Int)
 | 120 => v = .int .u64 (J : Int)
 | 121 => v = .int .i64 (J : Int)
 | 122 => v = .slice q2 M2 C2
 | 123 => v = .int .u64 (e : Int)
 | 126 => v = .int .i64 (N : Int)
 | 127 => v = .bool Bb
 | 110 => OfT Rr N Bb q2 M2 C2 zs v
 | 124 => OfT Rr N Bb q2 M2 C2 zs v
 | 125 => OfA Rr q2 M2 C2 zs v
 | _ => True
def RetRO (r : Value) (s : St) (nn : Int) (n : Nat) (g : Int) (ep tl : Nat) (w : World) (e : Ending) (w' : World) : Prop :=
 (opOk s n ep tl = false ∧ e = .returned (.tuple #[.pointer none, .slice none 0 0, .int .i64 4]) ∧ Gr w w') ∨
 (opOk s n ep tl = true ∧ ∃ b v L q m c fr ys, e = .returned (.tuple #[.pointer (some ⟨b, 0, none⟩), v, .int .i64 0]) ∧ OwnR ShL w' w.heap.size TLd v L ∧ L.map LX3 = logT tl (opX s n ep tl) ∧ RlAt w' b r q m c fr ys (opL s nn (n : Int) g ep tl) ∧ (∀ k, lgS b q k → w.heap.size ≤ k) ∧ Gr w w' ∧ ys.length ≤ 20000)
theorem ro_wrap {i : Nat} (h : i + 1 ≤ 80) : wrap64 ((i : Int) + 1) = ((i + 1 : Nat) : Int) := by unfold wrap64; omega
structure RoAt (w wr : World) (LB X : Nat) (r : Value) (n ep tl fr : Nat) (vB : Value) (ys : List Int) : Prop where
 blk : Blk wr LB TLr #[r, .int .i64 (n : Int), .int .u64 ep, .int .u64 tl, .int .u64 fr, vB, .int .u64 0, .int .i64 0, .bool false]
 own : OwnB wr X 5 vB ys
 gr : Gr w wr
 sz : X ≤ wr.heap.size
set_option maxRecDepth 100000 in
set_option maxHeartbeats 4000000 in
theorem rOpen_any {G : Nat → Prop} {s : St} (D : Nat) (r : Value) (nn g : Int) (n ep tl : Nat) (w : World) (hr : r = .pointer (some ⟨D, 0, none⟩)) (hrf : Rf w G r s) (hm : mayL nn (n : Int) g = true) (hl : n ≤ 80) (ht : tl ≤ 4611686018427387904) (he : 1 ≤ ep) (he2 : ep ≤ 4611686018427387904) (hn2 : 3 + n ≤ s.ls.length) :
  Calls Tryz.prog 53 #[r, .int .i64 (n : Int), .int .u64 (tl : Int), .int .u64 (ep : Int)] w (RetRO r s nn n g ep tl w) := by
 obtain ⟨T, hT⟩ : ∃ T, T = tl / 232 := ⟨_, rfl⟩; obtain ⟨fr, hfr⟩ : ∃ fr, fr = T * 232 := ⟨_, rfl⟩; obtain ⟨A, hA⟩ : ∃ A, A = tl % 232 := ⟨_, rfl⟩
 obtain ⟨LS, hLS⟩ : ∃ LS, LS = if 0 < tl % 232 then 0 else ep - 1 := ⟨_, rfl⟩
 have hin := may_in hm
 have hw0 : (tl : Int) / 232 = (T : Int) := by omega
 have hw1 : IntKind.u64.wrap ((T : Int) * 232) = (fr : Int) := by rw [IntKind.wrap_u64]; omega
 have hw2 : (tl : Int) % 232 = (A : Int) := by omega
 have hw3 : IntKind.i64.wrap (A : Int) = (A : Int) := IntWalk.i64_in _ (by omega)
 have hw4 : IntKind.u64.wrap ((ep : Int) - 1) = ((ep - 1 : Nat) : Int) := by rw [IntKind.wrap_u64]; omega
 have hw5 : IntKind.u64.wrap (T : Int) = (T : Int) := by rw [IntKind.wrap_u64]; omega
 have HRf := Lib.hid hrf; have HNum : Hid (T = tl / 232 ∧ fr = T * 232 ∧ A = tl % 232 ∧ LS = (if 0 < tl % 232 then 0 else ep - 1) ∧ A < 232) := Lib.hid ⟨hT, hfr, hA, hLS, by omega⟩; have HPar : Hid (mayL nn (n : Int) g = true ∧ 1 ≤ ep ∧ ep ≤ 4611686018427387904 ∧ tl ≤ 4611686018427387904 ∧ 3 + n ≤ s.ls.length ∧ 16 ≤ n ∧ n ≤ 80) := Lib.hid ⟨hm, he, he2, ht, hn2, by omega, hl⟩; subst hr; obtain ⟨W1, hW1⟩ : ∃ W1, W1 = w.alloc (.cells #[.pointer (some ⟨D, 0, none⟩), .int .i64 (n : Int), .int .u64 ep, .int .u64 tl, .int .u64 fr, .slice none 0 0, .int .u64 0, .int .i64 0, .bool false] TLr) := ⟨_, rfl⟩; have HB1 : Hid (RoAt w W1 w.heap.size (w.heap.size + 1) (.pointer (some ⟨D, 0, none⟩)) n ep tl fr (.slice none 0 0) []) := Lib.hid (by rw [hW1]; exact ⟨Blk.new _ _ _, OwnB.nil _ _ _, Gr.new _ _, by simp⟩); have HW1 : Hid (w.alloc (.cells #[.pointer (some ⟨D, 0, none⟩), .int .i64 (n : Int), .int .u64 ep, .int .u64 tl, .int .u64 fr, .slice none 0 0, .int .u64 0, .int .i64 0, .bool false] 82) = W1) := Lib.hid hW1.symm; clear hrf hm hin hT hfr hA hLS hW1 hn2 hl ht he2
 go_enter Tryz.func53, Tryz.ntmps53
 go_upto_if 37 with fail
 rw [HW1.out]
 go_cut [13] (fun s13 wc => s13 = .int .u64 (LS : Int) ∧ W1 = wc)
 case first =>
  by_cases h0 : A = 0
  ·
   have t0 : ((A : Int) == 0) = true := by simp [h0]
   have HL : Hid (LS = ep - 1) := Lib.hid (by have h1 := HNum.out.2.2.2.1; have h2 := HNum.out.2.2.1; rw [h1, if_neg (by omega)]); clear h0; go_wp2_with fail
   go_meet
   exact ⟨by rw [HL.out], rfl⟩
  ·
   have t0 : ((A : Int) == 0) = false := by
    have : ¬ (A : Int) = 0 := by omega
    simpa using this
   have HL : Hid (LS = 0) := Lib.hid (by have h1 := HNum.out.2.2.2.1; have h2 := HNum.out.2.2.1; rw [h1, if_pos (by omega)]); clear h0; go_wp2_with fail
   go_meet
   exact ⟨by rw [HL.out]; rfl, rfl⟩
 case rest =>
  obtain ⟨rfl, rfl⟩ := hcut
  go_upto_block 0 with fail
  go_cut [13] from 14 to 101 (fun s13 wc => Hid (∃ vB ys, RoAt w wc w.heap.size (w.heap.size + 1) (.pointer (some ⟨D, 0, none⟩)) n ep tl fr vB ys ∧ (opB s n ep tl = ys ∨ (ys = [] ∧ (opB s n ep tl).length < A))))
  case first =>
   obtain ⟨rd, hrd⟩ : ∃ rd : Nat → List Int, rd = fun i => secN (s.nw i) := ⟨_, rfl⟩
   have HRD : Hid (∀ i, rd i = secN (s.nw i)) := Lib.hid fun i => by rw [hrd]
   have HOp : Hid (opB s n ep tl = foundL rd n ep n T LS) := Lib.hid (by unfold opB; rw [hrd, HNum.out.1, HNum.out.2.2.2.1])
   have hq1 : (fr : Int) / 232 = (T : Int) := by have := HNum.out.2.1; omega
   have hq0 : IntKind.u64.wrap (n : Int) = (n : Int) := by have := HPar.out; rw [IntKind.wrap_u64]; omega
   clear hrd hw0 hw1 hw2 hw3 hw4 he; go_wp2_with fail
   go_loopw [13, 14] (fun lv iv wr => ∃ (i ls : Nat) (vB : Value) (ys : List Int), i ≤ n ∧ iv = .int .i64 (i : Int) ∧ lv = .int .u64 (ls : Int) ∧ Hid (RoAt w wr w.heap.size (w.heap.size + 1) (.pointer (some ⟨D, 0, none⟩)) n ep tl fr vB ys ∧ ys.length = 232 * i) ∧ Hid (opB s n ep tl = ys ++ foundL rd n ep (n - i) (T + i) ls)) (fun _ iv _ => n - (intOf iv).toNat)
   case atStart => exact ⟨0, LS, _, [], Nat.zero_le _, rfl, rfl, Lib.hid ⟨HB1.out, rfl⟩, Lib.hid (by rw [HOp.out]; rfl)⟩
   case round =>
    obtain ⟨i, ls, vB, ys, hi, rfl, rfl, ho, hf⟩ := hrel
    by_cases hlt : i < n
    ·
     obtain ⟨k, hk⟩ : ∃ k, k = T + i := ⟨_, rfl⟩; obtain ⟨M, hM⟩ : ∃ M, M = k % n := ⟨_, rfl⟩; obtain ⟨I, hI⟩ : ∃ I, I = 3 + M := ⟨_, rfl⟩
     have hMn : M < n := by rw [hM]; exact Nat.mod_lt _ (by omega)
     have hp := HPar.out; have hn := HNum.out
     have hq2 : IntKind.u64.wrap (i : Int) = (i : Int) := by rw [IntKind.wrap_u64]; omega
     have hq3 : IntKind.u64.wrap ((T : Int) + (i : Int)) = (k : Int) := by rw [IntKind.wrap_u64]; omega
     have hq4 : (k : Int) % (n : Int) = (M : Int) := by rw [hM]; exact (Int.natCast_emod _ _).symm
     have hq5 : IntKind.i64.wrap (M : Int) = (M : Int) := IntWalk.i64_in _ (by omega)
     have hq6 : IntKind.i64.wrap (3 + (M : Int)) = (I : Int) := by rw [IntWalk.i64_in _ (by omega)]; omega
     have hq7 : 3 + (M : Int) = (I : Int) := by omega
     have hq8 : IntKind.i64.wrap (I : Int) = (I : Int) := IntWalk.i64_in _ (by omega)
     have hn0 : ((n : Int) == 0) = false := by
      have : ¬ (n : Int) = 0 := by omega
      simpa using this
     obtain ⟨X, hX⟩ : ∃ X, X = secN (s.nw I) := ⟨_, rfl⟩
     have HRd : Hid (Calls Tryz.prog 43 #[.pointer (some ⟨D, 0, none⟩), .int .i64 (I : Int)] wr fun e w' => e = .returned (.agg (sec (Sx X))) ∧ Gr wr w') := Lib.hid (by
      rw [hX, Sx_secN]
      exact refRead_any wr (HRf.out.gr ho.out.1.gr) I (by omega))
     have HXs : Hid (IsSec X) := Lib.hid (by rw [hX]; exact secN_sec _); have HUn := Lib.hid (fun W => runsector_any HXs.out k W (by omega))
     have HFd : Hid (foundL rd n ep (n - i) (T + i) ls = if okX X = true ∧ numX X = k ∧ epX X ≤ ep ∧ ls ≤ epX X then bytX X ++ (if manyX X < 232 then [] else foundL rd n ep (n - i - 1) (k + 1) (epX X)) else []) := Lib.hid (by
      rw [← hk, show n - i = (n - i - 1) + 1 by omega]
      show (if okX (rd (3 + k % n)) = true ∧ numX (rd (3 + k % n)) = k ∧ epX (rd (3 + k % n)) ≤ ep ∧ ls ≤ epX (rd (3 + k % n)) then _ else _) = _
      rw [← hM, ← hI, HRD.out, ← hX]
      simp only [Nat.add_sub_cancel])
     have HKI : Hid (k = T + i ∧ i < n) := Lib.hid ⟨hk, hlt⟩; have b4 := ho.out.1.blk.c9.2.2.2.2.1; clear hk hM hI hMn hp hn hX; go_wp2_with fail; refine HRd.out.mono ?_; rintro e W2 ⟨rfl, g2⟩; have HO2 : Hid (RoAt w W2 w.heap.size (w.heap.size + 1) (.pointer (some ⟨D, 0, none⟩)) n ep tl fr vB ys) := Lib.hid ⟨ho.out.1.blk.gr g2, ho.out.1.own.below' g2, Gr.trans ho.out.1.gr g2, Nat.le_trans ho.out.1.sz g2.size⟩; clear g2 HRd b4; go_wp2_with fail; refine (HUn.out W2).mono ?_; rintro e W3 (⟨hbad, rfl, g3⟩ | ⟨hk1, hm1, v, rfl, hov, g3⟩)
     ·
      have HF0 : Hid (opB s n ep tl = ys) := Lib.hid (by
       rw [hf.out, HFd.out, if_neg, List.append_nil]
       intro h
       refine hbad ⟨h.2.1, ?_⟩; have h1 := h.1
       unfold okX at h1
       simp at h1
       exact h1.1)
      have HO3 : Hid (RoAt w W3 w.heap.size (w.heap.size + 1) (.pointer (some ⟨D, 0, none⟩)) n ep tl fr vB ys) := Lib.hid ⟨HO2.out.blk.gr g3, HO2.out.own.below' g3, Gr.trans HO2.out.gr g3, Nat.le_trans HO2.out.sz g3.size⟩; clear hbad g3 HO2 hf ho; go_wp2_with fail
      go_meet
      exact ⟨vB, ys, HO3.out, .inl HF0.out⟩
     ·
      obtain ⟨E1, hE1⟩ : ∃ E1, E1 = epX X := ⟨_, rfl⟩; obtain ⟨M1, hM1⟩ : ∃ M1, M1 = manyX X := ⟨_, rfl⟩; obtain ⟨B1, hB1⟩ : ∃ B1, B1 = okX X := ⟨_, rfl⟩; rw [← hE1, ← hB1]
      rw [← hM1] at hm1
      have hbl : (bytX X).length = M1 := by unfold bytX; rw [List.length_take, List.length_drop, HXs.out.len, ← hM1]; omega
      obtain ⟨pv, cv, rfl⟩ := hov.shape M1 hbl; have HV3 := Lib.hid hov; have HO3 : Hid (RoAt w W3 w.heap.size (w.heap.size + 1) (.pointer (some ⟨D, 0, none⟩)) n ep tl fr vB ys) := Lib.hid ⟨HO2.out.blk.gr g3, HO2.out.own.below' g3, Gr.trans HO2.out.gr g3, Nat.le_trans HO2.out.sz g3.size⟩
      have HF1 : Hid (opB s n ep tl = ys ++ (if B1 = true ∧ E1 ≤ ep ∧ ls ≤ E1 then bytX X ++ (if M1 < 232 then [] else foundL rd n ep (n - i - 1) (k + 1) E1) else [])) := Lib.hid (by
       rw [hf.out, HFd.out, ← hE1, ← hM1, ← hB1]
       congr 1
       by_cases h : B1 = true ∧ E1 ≤ ep ∧ ls ≤ E1
       · rw [if_pos ⟨h.1, hk1, h.2⟩, if_pos h]
       · rw [if_neg (fun h2 => h ⟨h2.1, h2.2.2⟩), if_neg h])
      have HYl : Hid (ys.length = 232 * i) := Lib.hid ho.out.2; have HBL : Hid ((bytX X).length = M1 ∧ M1 ≤ 232) := Lib.hid ⟨hbl, hm1⟩; obtain ⟨BAD, hBAD⟩ : ∃ BAD, BAD = decide (B1 = false ∨ ep < E1 ∨ E1 < ls ∨ (i = 0 ∧ M1 < A)) := ⟨_, rfl⟩; have HBAD := Lib.hid hBAD; clear hE1 hM1 hB1 hk1 hov g3 HO2 hf ho HFd hbl hBAD hm1
      go_upto_region 11 with fail
      go_cut [88] from 67 to 88 (fun s88 wc => s88 = .bool BAD ∧ W3 = wc)
      case first =>
       cases B1 with
       | false =>
        have hb : BAD = true := by rw [HBAD.out]; simp
        go_wp2_with fail
        go_meet
        exact ⟨by rw [hb], rfl⟩
       | true =>
        by_cases h1 : ep < E1
        ·
         have g1 : (ep : Int) < (E1 : Int) := by omega
         have hb : Hid (BAD = true) := Lib.hid (by rw [HBAD.out]; simp [h1]); clear h1; go_wp2_with fail
         go_meet
         exact ⟨by rw [hb.out], rfl⟩
        ·
         have g1 : ¬ (ep : Int) < (E1 : Int) := by omega
         by_cases h2 : E1 < ls
         ·
          have g2 : (E1 : Int) < (ls : Int) := by omega
          have hb : Hid (BAD = true) := Lib.hid (by rw [HBAD.out]; simp [h2]); clear h1 h2; go_wp2_with fail
          go_meet
          exact ⟨by rw [hb.out], rfl⟩
         ·
          have g2 : ¬ (E1 : Int) < (ls : Int) := by omega
          by_cases h3 : i = 0
          ·
           have t3 : ((i : Int) == 0) = true := by simp [h3]
           by_cases h4 : M1 < A
           ·
            have g4 : (M1 : Int) < (A : Int) := by omega
            have hb : Hid (BAD = true) := Lib.hid (by rw [HBAD.out]; simp [h3, h4]); clear h1 h2 h3 h4; go_wp2_with fail
            go_meet
            exact ⟨by rw [hb.out], rfl⟩
           ·
            have g4 : ¬ (M1 : Int) < (A : Int) := by omega
            have hb : Hid (BAD = false) := Lib.hid (by rw [HBAD.out]; simp; omega); clear h1 h2 h3 h4; go_wp2_with fail
            go_meet
            exact ⟨by rw [hb.out], rfl⟩
          ·
           have t3 : ((i : Int) == 0) = false := by
            have : ¬ (i : Int) = 0 := by omega
            simpa using this
           have hb : Hid (BAD = false) := Lib.hid (by rw [HBAD.out]; simp; omega); clear h1 h2 h3; go_wp2_with fail
           go_meet
           exact ⟨by rw [hb.out], rfl⟩
      case rest =>
       obtain ⟨rfl, rfl⟩ := hcut
       cases BAD with
       | true =>
        have HEx : Hid (opB s n ep tl = ys ∨ (ys = [] ∧ (opB s n ep tl).length < A)) := Lib.hid (by
         have h := of_decide_eq_true HBAD.out.symm
         by_cases hc : B1 = true ∧ E1 ≤ ep ∧ ls ≤ E1
         ·
          have h4 : i = 0 ∧ M1 < A := by
           rcases h with h | h | h | h
           · rw [h] at hc; cases hc.1
           · omega
           · omega
           · exact h
          have hA := HNum.out.2.2.2.2; have hy : ys = [] := List.eq_nil_of_length_eq_zero (by rw [HYl.out, h4.1]); refine .inr ⟨hy, ?_⟩; rw [HF1.out, if_pos hc, if_pos (by omega), hy, List.append_nil, List.nil_append, HBL.out.1]; exact h4.2
         · exact .inl (by rw [HF1.out, if_neg hc, List.append_nil]))
        go_wp2_with fail
        go_meet
        exact ⟨vB, ys, HO3.out, HEx.out⟩
       | false =>
        have HC : Hid (opB s n ep tl = ys ++ (bytX X ++ (if M1 < 232 then [] else foundL rd n ep (n - i - 1) (k + 1) E1))) := Lib.hid (by
         have h := of_decide_eq_false HBAD.out.symm
         have hc : B1 = true ∧ E1 ≤ ep ∧ ls ≤ E1 := by
          refine ⟨?_, by omega, by omega⟩
          cases B1 with
          | true => rfl
          | false => exact absurd (.inl rfl) h
         rw [HF1.out, if_pos hc])
        have b5 := HO3.out.blk.c9.2.2.2.2.2.1; have f5 := HO3.out.blk.frozen 5; clear HF1 HBAD; obtain ⟨m4, hm4⟩ : ∃ m4, m4 = (ys ++ bytX X).length := ⟨_, rfl⟩; have HM4 : Hid ((ys ++ bytX X).length = m4 ∧ ys.length + M1 ≤ 20000) := Lib.hid ⟨hm4.symm, by have := HYl.out; have := HPar.out; have := HBL.out; have := HKI.out; omega⟩; clear hm4
        by_cases h6 : M1 < 232
        ·
         have g6 : (M1 : Int) < 232 := by omega
         have HE6 : Hid (opB s n ep tl = ys ++ bytX X) := Lib.hid (by rw [HC.out, if_pos h6, List.append_nil]); clear h6 HC
         go_wp2_with (at_builtin; refine wpList_app_byt bt rfl (.tmp 93) (.tmp 94) rfl (w.heap.size + 1) vB ys rfl HO3.out.own pv M1 cv (bytX X) rfl HV3.out.byt.1 (by have := HM4.out.2; omega) HO3.out.sz ?_; intro v4 W4 ho4 hg4; obtain ⟨p4, c4, hv4⟩ := ho4.shape m4 HM4.out.1; subst hv4; have HO4 := Lib.hid ho4; have HB4 := Lib.hid (HO3.out.blk.stays (hg4.block _ HO3.out.blk.lt (fun e => by have := HO3.out.own.base _ e.symm; omega))); have HG4 := Lib.hid (Below.grown HO3.out.gr hg4 HO3.out.gr.size (fun k e => by have := HO3.out.own.base k e; omega)); have HS4 : Hid (w.heap.size + 1 ≤ W4.heap.size) := Lib.hid (Nat.le_trans HO3.out.sz hg4.size); have f5 := HB4.out.frozen 5; have b5 := HB4.out.c9.2.2.2.2.2.1; clear ho4 hg4)
         obtain ⟨W5, hW5⟩ : ∃ W5, W5 = W4.setCell ⟨w.heap.size, 5, none⟩ (.slice p4 m4 c4) := ⟨_, rfl⟩
         have HO5 : Hid (RoAt w W5 w.heap.size (w.heap.size + 1) (.pointer (some ⟨D, 0, none⟩)) n ep tl fr (.slice p4 m4 c4) (ys ++ bytX X)) := Lib.hid (by
          rw [hW5]; refine ⟨HB4.out.set 5 _, ?_, HG4.out.setCell (p := ⟨w.heap.size, 5, none⟩) (Nat.le_refl _) _, by rw [(Only.cell w.heap.size 5 W4 _).size]; exact HS4.out⟩
          exact HO4.out.grown (grown_only (Only.cell w.heap.size 5 W4 _)) (fun k e => .inr fun e2 => by have h1 := HO4.out.base k e2; have h2 : w.heap.size = k := Option.some.inj e; omega))
         rw [← hW5]; clear hW5 f5 b5 HB4 HG4 HS4 HO4 HO3 HV3
         go_meet
         exact ⟨_, _, HO5.out, .inl HE6.out⟩
        ·
         have g6 : ¬ (M1 : Int) < 232 := by omega
         have HE6 : Hid (opB s n ep tl = (ys ++ bytX X) ++ foundL rd n ep (n - (i + 1)) (T + (i + 1)) E1 ∧ (ys ++ bytX X).length = 232 * (i + 1)) := Lib.hid ⟨by rw [HC.out, if_neg h6, List.append_assoc, HKI.out.1, show n - i - 1 = n - (i + 1) by omega, Nat.add_assoc], by rw [List.length_append, HYl.out, HBL.out.1]; have := HBL.out.2; omega⟩; have hin : i + 1 ≤ n := hlt; have hwi : wrap64 ((i : Int) + 1) = ((i + 1 : Nat) : Int) := ro_wrap (Nat.le_trans hin HPar.out.2.2.2.2.2.2); have HMs : Hid (n - (i + 1) < n - i) := Lib.hid (found_less hlt); clear h6 HC
         go_wp2_with (at_builtin; refine wpList_app_byt bt rfl (.tmp 93) (.tmp 94) rfl (w.heap.size + 1) vB ys rfl HO3.out.own pv M1 cv (bytX X) rfl HV3.out.byt.1 (by have := HM4.out.2; omega) HO3.out.sz ?_; intro v4 W4 ho4 hg4; obtain ⟨p4, c4, hv4⟩ := ho4.shape m4 HM4.out.1; subst hv4; have HO4 := Lib.hid ho4; have HB4 := Lib.hid (HO3.out.blk.stays (hg4.block _ HO3.out.blk.lt (fun e => by have := HO3.out.own.base _ e.symm; omega))); have HG4 := Lib.hid (Below.grown HO3.out.gr hg4 HO3.out.gr.size (fun k e => by have := HO3.out.own.base k e; omega)); have HS4 : Hid (w.heap.size + 1 ≤ W4.heap.size) := Lib.hid (Nat.le_trans HO3.out.sz hg4.size); have f5 := HB4.out.frozen 5; have b5 := HB4.out.c9.2.2.2.2.2.1; clear ho4 hg4)
         obtain ⟨W5, hW5⟩ : ∃ W5, W5 = W4.setCell ⟨w.heap.size, 5, none⟩ (.slice p4 m4 c4) := ⟨_, rfl⟩
         have HO5 : Hid (RoAt w W5 w.heap.size (w.heap.size + 1) (.pointer (some ⟨D, 0, none⟩)) n ep tl fr (.slice p4 m4 c4) (ys ++ bytX X)) := Lib.hid (by
          rw [hW5]; refine ⟨HB4.out.set 5 _, ?_, HG4.out.setCell (p := ⟨w.heap.size, 5, none⟩) (Nat.le_refl _) _, by rw [(Only.cell w.heap.size 5 W4 _).size]; exact HS4.out⟩
          exact HO4.out.grown (grown_only (Only.cell w.heap.size 5 W4 _)) (fun k e => .inr fun e2 => by have h1 := HO4.out.base k e2; have h2 : w.heap.size = k := Option.some.inj e; omega))
         rw [← hW5]; clear hW5 f5 b5 HB4 HG4 HS4 HO4 HO3 HV3
         go_roundw
         case rel => exact ⟨i + 1, E1, _, ys ++ bytX X, hin, by rw [hwi], rfl, Lib.hid ⟨HO5.out, HE6.out.2⟩, Lib.hid HE6.out.1⟩
         case measure =>
          rw [hwi]; exact HMs.out
    ·
     obtain rfl : i = n := by omega
     have HF0 : Hid (opB s i ep tl = ys) := Lib.hid (by rw [hf.out, Nat.sub_self]; simp [foundL]); clear hf; go_wp2_with fail
     go_meet
     exact ⟨vB, ys, ho.out.1, .inl HF0.out⟩
  case rest =>
   obtain ⟨vB, ys, ho, hys⟩ := hcut.out; obtain ⟨m0, hm0⟩ : ∃ m0, m0 = ys.length := ⟨_, rfl⟩; obtain ⟨pB, cB, rfl⟩ := ho.own.shape m0 hm0.symm; have HO := Lib.hid ho; have HYS := Lib.hid hys; have HM0 := Lib.hid hm0; have c5 := ho.blk.c9.2.2.2.2.2.1; clear hcut ho hys hm0 HB1 HW1
   by_cases h0 : m0 < A
   ·
    have g0 : (m0 : Int) < (A : Int) := by omega
    have HNo : Hid (opOk s n ep tl = false) := Lib.hid (by
     unfold opOk
     rw [← HNum.out.2.2.1]; refine decide_eq_false ?_
     rcases HYS.out with h | ⟨_, h⟩
     · rw [h, ← HM0.out]; omega
     · omega)
    clear h0; go_wp2_with fail; refine bodyPost_ret_by (P := Tryz.prog) (v := .tuple #[.pointer none, .slice none 0 0, .int .i64 4]) (by simp [results, Tryz.results53]) rfl ?_; exact .inl ⟨HNo.out, rfl, HO.out.gr⟩
   ·
    have g0 : ¬ (m0 : Int) < (A : Int) := by omega
    have HOpY : Hid (opB s n ep tl = ys ∧ opOk s n ep tl = true) := Lib.hid (by
     have hA := HNum.out
     have hb : opB s n ep tl = ys := by
      rcases HYS.out with h | ⟨h1, h⟩
      · exact h
      ·
       have h2 := HM0.out
       rw [h1] at h2
       simp at h2
       omega
     refine ⟨hb, ?_⟩
     unfold opOk
     rw [hb, ← HM0.out, ← hA.2.2.1]
     exact decide_eq_true (by omega))
    have HA0 : Hid (A ≤ m0) := Lib.hid (by omega); clear h0 HYS
    have HFl : Hid (fr = tl - A ∧ A ≤ tl ∧ A < 232 ∧ tl ≤ 4611686018427387904 ∧ m0 ≤ 18560) := Lib.hid (by
     have h1 := HNum.out; have h2 := (opB_len s n ep tl).1; have h3 := HPar.out
     rw [HOpY.out.1, ← HM0.out] at h2
     omega)
    have HX0 : Hid (opX s n ep tl = allL (ys.drop A) tl) := Lib.hid (by unfold opX; rw [HOpY.out.1, ← HNum.out.2.2.1]); obtain ⟨X2, hX2⟩ : ∃ X2, X2 = wc.heap.size := ⟨_, rfl⟩; have HX2 := Lib.hid hX2; clear hX2 hw0 hw1 hw2 hw3 hw4 hw5 he; go_wp2_with fail; clear c5
    go_loopw [19, 20] (fun av tv wr => ∃ (j e : Nat) (L : List (Nat × RX)), j ≤ m0 ∧ tv = .int .u64 (e : Int) ∧ e = fr + j ∧ A ≤ j ∧ L.length ≤ j ∧ Hid (OwnR ShL wr X2 TLd av L) ∧ Hid (L.map LX3 ++ logT e (allL (ys.drop j) e) = logT tl (opX s n ep tl) ∧ endL e (allL (ys.drop j) e) = opN s n ep tl) ∧ Hid (Gr wc wr)) (fun _ tv _ => fr + m0 - (intOf tv).toNat)
    case atStart => exact ⟨A, tl, [], HA0.out, rfl, by have := HFl.out; omega, Nat.le_refl _, Nat.zero_le _, Lib.hid ⟨World.ownsRow_nil _ _ _ _, fun _ h => by cases h⟩, Lib.hid ⟨by rw [HX0.out]; rfl, by unfold opN; rw [HX0.out]⟩, Lib.hid (Gr.refl wc)⟩
    case round =>
     obtain ⟨J, e, L, hj, rfl, he, hAj, hL, ho, hs, hg⟩ := hrel; obtain ⟨LL, hLL⟩ : ∃ LL, LL = L.length := ⟨_, rfl⟩; obtain ⟨lp, lc, rfl, _⟩ := ho.out.shape LL hLL.symm; have HLL := Lib.hid hLL; clear hLL; have hfl := HFl.out; have hcapB := HO.out.own.byt.1.cap; obtain ⟨q2, hcut2, hof⟩ := cut_l (p := pB) (n := m0) (c := cB) J hj hcapB; obtain ⟨M2, hM2⟩ : ∃ M2, M2 = m0 - J := ⟨_, rfl⟩; obtain ⟨C2, hC2⟩ : ∃ C2, C2 = cB - J := ⟨_, rfl⟩; obtain ⟨zs, hzs⟩ : ∃ zs, zs = ys.drop J := ⟨_, rfl⟩
     have HY : Hid (∀ W, Gr wc W → Byt W q2 M2 C2 zs) := Lib.hid fun W g => by
      have h := hof.byt W ys (HO.out.own.byt.1.kept g)
      rwa [drop_take_all HM0.out.symm, ← hM2, ← hC2, ← hzs] at h
     rw [← hM2, ← hC2] at hcut2
     have HCut := Lib.hid hcut2; obtain ⟨Rr, hR⟩ : ∃ Rr, Rr = ofR zs e := ⟨_, rfl⟩; obtain ⟨N, hN⟩ : ∃ N, N = ofN zs e := ⟨_, rfl⟩; obtain ⟨Bb, hB⟩ : ∃ Bb, Bb = ofB zs e := ⟨_, rfl⟩; have HOf := Lib.hid (fun W (g : Gr wr W) => refOf_any q2 M2 C2 zs e W (HY.out W (Gr.trans hg.out g)) (by omega))
     rw [← hR, ← hN, ← hB] at HOf
     have HBl := Lib.hid (HO.out.blk.gr hg.out); have HJ : Hid (IntKind.u64.wrap ((e : Int) - (fr : Int)) = (J : Int) ∧ IntKind.i64.wrap (J : Int) = (J : Int)) := Lib.hid ⟨by rw [IntKind.wrap_u64]; omega, IntWalk.i64_in _ (by omega)⟩; have HZS : Hid (zs = ys.drop J ∧ Rr = ofR zs e ∧ N = ofN zs e ∧ Bb = ofB zs e ∧ zs.length = m0 - J) := Lib.hid ⟨hzs, hR, hN, hB, by rw [hzs, List.length_drop, ← HM0.out]⟩; have HLo : Hid (e = fr + J ∧ A ≤ J ∧ L.length ≤ J ∧ J ≤ m0) := Lib.hid ⟨he, hAj, hL, hj⟩; clear hof hM2 hC2 hzs hcut2 hR hN hB he hAj hL hj hfl hcapB; go_wp2_with fail; refine Flow.regionF [22, 23] 22 (SlRoo w.heap.size fr pB m0 cB e J q2 M2 C2 Rr N Bb zs) (InO 18 19 21 TR zrec (OfG Rr q2 M2 C2 zs) wr) (fun _ _ _ => True) (by kernel_rfl) (by kernel_rfl) (fun _ _ _ _ _ _ h _ => h) (InO.start (by rfl) (Gr.refl _).drew) ?steps ?fin
     case steps =>
      refine .cons (fun l a W hfr hun hup hdn hinv hdep K hK => ?_) ?_
      · have t11 := tAt (.pointer (some ⟨w.heap.size, 0, none⟩)) (hfr.at 11 (by kernel_rfl)); refine fW0 rfl ?_; clear hdep; have hin := hinv.1; go_simp; exact hK _ _ True.intro (hinv.other 0 (by decide) (by decide) (by simp) _ (Gr.refl _)) (dsT (by trivial))
      refine .cons (fun l a W hfr hun hup hdn hinv hdep K hK => ?_) ?_
      · have t111 := tAt (.pointer (some ⟨w.heap.size, 0, none⟩)) (hdep 111 (by kernel_rfl)); refine fW0 rfl ?_; clear hdep; have hin := hinv.1; go_simp; exact hK _ _ True.intro (hinv.other 1 (by decide) (by decide) (by simp) _ (Gr.refl _)) (dsT (by trivial))
      refine .cons (fun l a W hfr hun hup hdn hinv hdep K hK => ?_) ?_
      · have t112 := tAt (.pointer (some ⟨w.heap.size, 0, none⟩)) (hdep 112 (by kernel_rfl)); refine fW0 rfl ?_; clear hdep; have hin := hinv.1; go_simp; exact hK _ _ True.intro (hinv.other 2 (by decide) (by decide) (by simp) _ (Gr.refl _)) (dsT (by trivial))
      refine .cons (fun l a W hfr hun hup hdn hinv hdep K hK => ?_) ?_
      · have t113 := tAt (.pointer (some ⟨w.heap.size, 5, none⟩)) (hdep 113 (by kernel_rfl)); refine fW0 rfl ?_; clear hdep; have hin := hinv.1; obtain ⟨c0, c1, c2, c3, c4, c5, c6, c7, c8⟩ := (HBl.out.gr hin).c9; go_simp; exact hK _ _ True.intro (hinv.other 3 (by decide) (by decide) (by simp) _ (Gr.refl _)) (dsT (by trivial))
      refine .cons (fun l a W hfr hun hup hdn hinv hdep K hK => ?_) ?_
      · have t20 := tAt (.int .u64 (e : Int)) (hfr.at 20 (by kernel_rfl)); refine fW0 rfl ?_; clear hdep; have hin := hinv.1; go_simp; exact hK _ _ True.intro (hinv.other 4 (by decide) (by decide) (by simp) _ (Gr.refl _)) (dsT (by trivial))
      refine .cons (fun l a W hfr hun hup hdn hinv hdep K hK => ?_) ?_
      · have t11 := tAt (.pointer (some ⟨w.heap.size, 0, none⟩)) (hfr.at 11 (by kernel_rfl)); refine fW0 rfl ?_; clear hdep; have hin := hinv.1; go_simp; exact hK _ _ True.intro (hinv.other 5 (by decide) (by decide) (by simp) _ (Gr.refl _)) (dsT (by trivial))
      refine .cons (fun l a W hfr hun hup hdn hinv hdep K hK => ?_) ?_
      · have t116 := tAt (.pointer (some ⟨w.heap.size, 0, none⟩)) (hdep 116 (by kernel_rfl)); refine fW0 rfl ?_; clear hdep; have hin := hinv.1; go_simp; exact hK _ _ True.intro (hinv.other 6 (by decide) (by decide) (by simp) _ (Gr.refl _)) (dsT (by trivial))
      refine .cons (fun l a W hfr hun hup hdn hinv hdep K hK => ?_) ?_
      · have t117 := tAt (.pointer (some ⟨w.heap.size, 0, none⟩)) (hdep 117 (by kernel_rfl)); refine fW0 rfl ?_; clear hdep; have hin := hinv.1; go_simp; exact hK _ _ True.intro (hinv.other 7 (by decide) (by decide) (by simp) _ (Gr.refl _)) (dsT (by trivial))
      refine .cons (fun l a W hfr hun hup hdn hinv hdep K hK => ?_) ?_
      · have t118 := tAt (.pointer (some ⟨w.heap.size, 4, none⟩)) (hdep 118 (by kernel_rfl)); refine fW0 rfl ?_; clear hdep; have hin := hinv.1; obtain ⟨c0, c1, c2, c3, c4, c5, c6, c7, c8⟩ := (HBl.out.gr hin).c9; go_simp; exact hK _ _ True.intro (hinv.other 8 (by decide) (by decide) (by simp) _ (Gr.refl _)) (dsT (by trivial))
      refine .cons (fun l a W hfr hun hup hdn hinv hdep K hK => ?_) ?_
      · have t115 := tAt (.int .u64 (e : Int)) (hdep 115 (by kernel_rfl)); have t119 := tAt (.int .u64 (fr : Int)) (hdep 119 (by kernel_rfl)); have hq := HJ.out.1; refine fW0 rfl ?_; clear hdep; have hin := hinv.1; go_simp; exact hK _ _ True.intro (hinv.other 9 (by decide) (by decide) (by simp) _ (Gr.refl _)) (dsT (by trivial))
      refine .cons (fun l a W hfr hun hup hdn hinv hdep K hK => ?_) ?_
      · have t120 := tAt (.int .u64 (J : Int)) (hdep 120 (by kernel_rfl)); have hq := HJ.out.2; refine fW0 rfl ?_; clear hdep; have hin := hinv.1; go_simp; exact hK _ _ True.intro (hinv.other 10 (by decide) (by decide) (by simp) _ (Gr.refl _)) (dsT (by trivial))
      refine .cons (fun l a W hfr hun hup hdn hinv hdep K hK => ?_) ?_
      · have t114 := tAt (.slice pB m0 cB) (hdep 114 (by kernel_rfl)); have t121 := tAt (.int .i64 (J : Int)) (hdep 121 (by kernel_rfl)); have hcut := HCut.out W; refine fW0 rfl ?_; clear hdep; have hin := hinv.1; go_simp; exact hK _ _ True.intro (hinv.other 11 (by decide) (by decide) (by simp) _ (Gr.refl _)) (dsT (by trivial))
      refine .cons (fun l a W hfr hun hup hdn hinv hdep K hK => ?_) ?_
      · have t20 := tAt (.int .u64 (e : Int)) (hfr.at 20 (by kernel_rfl)); refine fW0 rfl ?_; clear hdep; have hin := hinv.1; go_simp; exact hK _ _ True.intro (hinv.other 12 (by decide) (by decide) (by simp) _ (Gr.refl _)) (dsT (by trivial))
      refine .cons (fun l a W hfr hun hup hdn hinv hdep K hK => ?_) ?_
      · have t122 := tAt (.slice q2 M2 C2) (hdep 122 (by kernel_rfl)); have t123 := tAt (.int .u64 (e : Int)) (hdep 123 (by kernel_rfl)); refine fW0 rfl ?_; clear hdep; have hin := hinv.1; go_simp; refine (HOf.out W hin).mono ?_; rintro e W' ⟨pb, nb, cb, pa, na, ca, rfl, _, _, g1, hK2⟩; exact hK _ _ True.intro (hinv.other 13 (by decide) (by decide) (by simp) _ g1) (fun d hd => by cases hd; exact ⟨pb, nb, cb, pa, na, ca, rfl, hK2⟩)
      refine .cons (fun l a W hfr hun hup hdn hinv hdep K hK => ?_) ?_
      · have s124 : OfT Rr N Bb q2 M2 C2 zs (a.tmps.getD 124 undef) := hdep 124 (by kernel_rfl); refine fW0 rfl ?_; clear hdep; obtain ⟨pb, nb, cb, pa, na, ca, hv, hK2⟩ := s124; have t124 := tmpAt hv; have hin := hinv.1; go_simp; exact hK _ _ True.intro (hinv.other 14 (by decide) (by decide) (by simp) _ (Gr.refl _)) (fun d hd => by cases hd; exact ⟨pb, nb, cb, pa, na, ca, rfl, hK2⟩)
      refine .cons (fun l a W hfr hun hup hdn hinv hdep K hK => ?_) ?_
      · have s110 : OfT Rr N Bb q2 M2 C2 zs (a.tmps.getD 110 undef) := hdep 110 (by kernel_rfl); refine fW0 rfl ?_; clear hdep; obtain ⟨pb, nb, cb, pa, na, ca, hv, hK2⟩ := s110; have t110 := tmpAt hv; have hin := hinv.1; go_simp; exact hK _ _ True.intro (hinv.other 15 (by decide) (by decide) (by simp) _ (Gr.refl _)) (fun d hd => by cases hd; exact ⟨_, rfl, pb, nb, cb, pa, na, ca, rfl, hK2⟩)
      refine .cons (fun l a W hfr hun hup hdn hinv hdep K hK => ?_) ?_
      · have s110 : OfT Rr N Bb q2 M2 C2 zs (a.tmps.getD 110 undef) := hdep 110 (by kernel_rfl); refine fW0 rfl ?_; clear hdep; obtain ⟨pb, nb, cb, pa, na, ca, hv, hK2⟩ := s110; have t110 := tmpAt hv; have hin := hinv.1; go_simp; exact hK _ _ True.intro (hinv.other 16 (by decide) (by decide) (by simp) _ (Gr.refl _)) (dsT (by trivial))
      refine .cons (fun l a W hfr hun hup hdn hinv hdep K hK => ?_) ?_
      · have s110 : OfT Rr N Bb q2 M2 C2 zs (a.tmps.getD 110 undef) := hdep 110 (by kernel_rfl); refine fW0 rfl ?_; clear hdep; obtain ⟨pb, nb, cb, pa, na, ca, hv, hK2⟩ := s110; have t110 := tmpAt hv; have hin := hinv.1; go_simp; exact hK _ _ True.intro (hinv.other 17 (by decide) (by decide) (by simp) _ (Gr.refl _)) (dsT (by trivial))
      refine .cons (fun l a W hfr hun hup hdn hinv hdep K hK => ?_) ?_
      · refine fW0 rfl ?_; clear hdep; go_simp; exact hK _ _ True.intro (hinv.alloc (by decide) (hup 19 (by decide) (by kernel_rfl)) (by rw [hfr.size]; simp)) (dsT (by trivial))
      refine .cons (fun l a W hfr hun hup hdn hinv hdep K hK => ?_) ?_
      ·
       have s125 : OfA Rr q2 M2 C2 zs (a.tmps.getD 125 undef) := hdep 125 (by kernel_rfl); refine fW0 rfl ?_; clear hdep; obtain ⟨k6, s6, hk6, hb6⟩ := hinv.2 (hdn 18 (by decide) (by kernel_rfl))
       rw [hun] at hb6
       obtain ⟨cs, hv, hcs⟩ := s125; have hcz := hcs.size; refine wp_store_row TR (.tmp 21) (.tmp 125) rfl k6 cs (by simpa [Act.eval] using s6) (by simpa [Act.eval] using hv) TR zrec hb6 (by rw [hcz]; exact size_rec) (by rw [hcz]; rfl) hcs.one ?_; exact hK undef _ True.intro (hinv.store (by decide) s6 hk6 (by simp) _ ⟨cs, hcs, hb6.row _⟩ (below_setRow hinv.1 hk6 _)) (fun d hd => by cases hd)
      refine .cons (fun l a W hfr hun hup hdn hinv hdep K hK => ?_) ?_
      · have t126 := tAt (.int .i64 (N : Int)) (hdep 126 (by kernel_rfl)); refine fW0 rfl ?_; clear hdep; have hin := hinv.1; go_simp; exact hK _ _ True.intro (hinv.other 20 (by decide) (by decide) (by simp) _ (Gr.refl _)) (dsT (by trivial))
      refine .cons (fun l a W hfr hun hup hdn hinv hdep K hK => ?_) ?_
      · have t127 := tAt (.bool Bb) (hdep 127 (by kernel_rfl)); refine fW0 rfl ?_; clear hdep; have hin := hinv.1; go_simp; exact hK _ _ True.intro (hinv.other 21 (by decide) (by decide) (by simp) _ (Gr.refl _)) (dsT (by trivial))
      exact True.intro
     case fin =>
      intro a W l hfr hall hinv hsl
      have s22 : a.tmps.getD 22 undef = .int .i64 (N : Int) := hsl 20 _ 22 rfl rfl (by simp); have t22 := tmpAt s22; have s23 : a.tmps.getD 23 undef = .bool Bb := hsl 21 _ 23 rfl rfl (by simp); have t23 := tmpAt s23; obtain ⟨hgv, kv, sv, hkv, cs, hcs, hbv⟩ := hinv.post (hall 18 (by decide)) (hall 19 (by decide))
      have tv : a.tmps[21]?.getD undef = .pointer (some ⟨kv, 0, none⟩) := by simpa using sv
      have e := Flow.frame hfr [111, 112, 113, 114, 115, 116, 117, 118, 119, 120, 121, 122, 123, 124, 110, 125, 126, 127, 21, 22, 23] (List.range 165) (by kernel_rfl) (by kernel_rfl)
      simp [List.range, List.range.loop] at e
      rw [tv, t22, t23] at e
      rw [e]; have HV := Lib.hid (show Gr wr W ∧ wr.heap.size ≤ kv ∧ Blk W kv TR cs from ⟨hgv, hkv, hbv⟩); have HCs := Lib.hid hcs; clear e hfr hsl hall hinv hgv hkv hbv hcs sv tv s22 t22 s23 t23
      first
       | (rename_i hB; refine hB _ _ ?_)
       | (rename_i hB y0; refine hB _ _ ?_)
       | (rename_i hB y0 y1; refine hB _ _ ?_)
       | (rename_i hB y0 y1 y2; refine hB _ _ ?_)
       | (rename_i hB y0 y1 y2 y3; refine hB _ _ ?_)
       | (rename_i hB y0 y1 y2 y3 y4; refine hB _ _ ?_)
       | (rename_i hB y0 y1 y2 y3 y4 y5; refine hB _ _ ?_)
       | (rename_i hB y0 y1 y2 y3 y4 y5 y6; refine hB _ _ ?_)
       | (rename_i hB y0 y1 y2 y3 y4 y5 y6 y7; refine hB _ _ ?_)
       | (rename_i hB y0 y1 y2 y3 y4 y5 y6 y7 y8; refine hB _ _ ?_)
       | (rename_i hB y0 y1 y2 y3 y4 y5 y6 y7 y8 y9; refine hB _ _ ?_)
       | (rename_i hB y0 y1 y2 y3 y4 y5 y6 y7 y8 y9 y10; refine hB _ _ ?_)
       | skip
      cases Bb with
      | false =>
       have HEnd : Hid (L.map LX3 = logT tl (opX s n ep tl) ∧ e = opN s n ep tl) := Lib.hid (by
        have h1 := HZS.out; have h2 := hs.out
        rw [← h1.1, allL_no h1.2.2.2.1.symm] at h2
        exact ⟨by simpa [logT] using h2.1, h2.2⟩)
       have HOw := Lib.hid (ho.out.gr HV.out.1); have HBw := Lib.hid (HBl.out.gr HV.out.1); have HGw := Lib.hid (Gr.trans hg.out HV.out.1); clear hs ho hg HOf HCs; go_wp2_with fail
       have hcut3 := fun W => cut_front HO.out.own J (HLo.out.2.2.2) W
       have hq1 := HJ.out.1; have hq2 := HJ.out.2; have hgd : Gr W W.drew := (Gr.refl W).drew; have HW6 : Hid (OwnR ShL W.drew X2 TLd (.slice lp LL lc) L ∧ Blk W.drew w.heap.size TLr #[.pointer (some ⟨D, 0, none⟩), .int .i64 (n : Int), .int .u64 ep, .int .u64 tl, .int .u64 fr, .slice pB m0 cB, .int .u64 0, .int .i64 0, .bool false] ∧ Gr wc W.drew) := Lib.hid ⟨HOw.out.gr hgd, HBw.out.gr hgd, Gr.trans HGw.out hgd⟩; obtain ⟨k0, k1, k2, k3, k4, k5, k6, k7, k8⟩ := HBw.out.c9; have f5 := HBw.out.frozen 5
       go_still_tail 15, (by kernel_rfl)
       change wpList _ _ _ _ _ W.drew
       generalize W.drew = W6 at HW6 hgd ⊢
       clear hgd k0 k1 k2 k3 k4 k5 k6 k7 k8 f5 HOw HBw HGw; obtain ⟨k0, k1, k2, k3, k4, k5, k6, k7, k8⟩ := HW6.out.2.1.c9; have f5 := HW6.out.2.1.frozen 5; have f6 := (HW6.out.2.1.set 5 (.slice pB J cB)).frozen 6; have k6 := (HW6.out.2.1.set 5 (.slice pB J cB)).cell 6
       simp at k6
       go_wp2_with fail; refine bodyPost_ret_by (P := Tryz.prog) (v := .tuple #[.pointer (some ⟨w.heap.size, 0, none⟩), .slice lp LL lc, .int .i64 0]) (by simp [results, Tryz.results53]) rfl ?_
       have hLt : w.heap.size < X2 := by rw [HX2.out]; exact HO.out.blk.lt
       have hOnly : Only w.heap.size W6 ((W6.setCell ⟨w.heap.size, 5, none⟩ (.slice pB J cB)).setCell ⟨w.heap.size, 6, none⟩ (.int .u64 (e : Int))) := (Only.cell _ 5 _ _).trans (Only.cell _ 6 _ _); have hblk : Blk ((W6.setCell ⟨w.heap.size, 5, none⟩ (.slice pB J cB)).setCell ⟨w.heap.size, 6, none⟩ (.int .u64 (e : Int))) w.heap.size TLr #[.pointer (some ⟨D, 0, none⟩), .int .i64 (n : Int), .int .u64 ep, .int .u64 tl, .int .u64 fr, .slice pB J cB, .int .u64 (e : Int), .int .i64 0, .bool false] := (HW6.out.2.1.set 5 _).set 6 _; have hown : OwnB ((W6.setCell ⟨w.heap.size, 5, none⟩ (.slice pB J cB)).setCell ⟨w.heap.size, 6, none⟩ (.int .u64 (e : Int))) (w.heap.size + 1) 5 (.slice pB J cB) (ys.take J) := OwnB.front ((HO.out.own.below' HW6.out.2.2).grown (grown_only hOnly) (fun k e1 => .inr fun e2 => by have h1 := HO.out.own.base k e2; have h2 : w.heap.size = k := Option.some.inj e1; omega)) J HLo.out.2.2.2; have hrow : OwnR ShL ((W6.setCell ⟨w.heap.size, 5, none⟩ (.slice pB J cB)).setCell ⟨w.heap.size, 6, none⟩ (.int .u64 (e : Int))) X2 TLd (.slice lp LL lc) L := (HW6.out.1.cell HW6.out.2.1 hLt (fun u hu i e1 => by subst e1; simp at hu) 5 _).cell (HW6.out.2.1.set 5 (.slice pB J cB)) hLt (fun u hu i e1 => by subst e1; simp at hu) 6 _
       have hpb : ∀ y, pB = some y → w.heap.size + 1 ≤ y.block ∧ y.block < ((W6.setCell ⟨w.heap.size, 5, none⟩ (.slice pB J cB)).setCell ⟨w.heap.size, 6, none⟩ (.int .u64 (e : Int))).heap.size := fun y hy => hown.row.lt _ (own_some hown.row y hy)
       have hg6 : Gr w W6 := Gr.trans HO.out.gr HW6.out.2.2
       generalize (W6.setCell ⟨w.heap.size, 5, none⟩ (.slice pB J cB)).setCell ⟨w.heap.size, 6, none⟩ (.int .u64 (e : Int)) = Z at hOnly hblk hown hrow hpb ⊢
       have hok := opL_ok s nn (n : Int) g ep tl HPar.out.1 HPar.out.2.1 HPar.out.2.2.1 HPar.out.2.2.2.1 (by rw [Int.toNat_natCast]; exact HOpY.out.2); have hfl := HFl.out; have hlo := HLo.out; have hnum := HNum.out; have hel : (opL s nn (n : Int) g ep tl).lasts = e := HEnd.out.2.symm
       have hlen : (ys.take J).length = J := by rw [List.length_take, ← HM0.out]; omega
       refine .inr ⟨HOpY.out.2, w.heap.size, .slice lp LL lc, L, pB, J, cB, fr, ys.take J, rfl, hrow.base_le (Nat.le_of_lt hLt), HEnd.out.1, ⟨?_, ⟨hown.byt.1, .inr (hown.base_le (Nat.zero_le _))⟩, ?_, ?_, ?_, ?_, ?_, ?_, ?_⟩, ?_, ?_, ?_⟩
       · rw [hel]; exact hblk
       · intro y hy e1; have := hpb y hy; omega
       ·
        rintro k (rfl | ⟨y, hy, rfl⟩)
        · exact hblk.lt
        · exact (hpb y hy).2
       · omega
       · rw [hel]; omega
       · show fr ≤ tl; omega
       ·
        rw [hel]
        show (ys.take J).drop (e - e % 232 - fr) = (opT s (n : Int).toNat ep tl).drop (tl % 232 + (opN s (n : Int).toNat ep tl - tl) - opN s (n : Int).toNat ep tl % 232)
        unfold opT
        rw [Int.toNat_natCast, ← HEnd.out.2, HOpY.out.1, show tl % 232 + (e - tl) = J by omega, show J - e % 232 = e - e % 232 - fr by omega]
       · rw [hok.2.1, hel, hlen]; omega
       ·
        rintro k (rfl | ⟨y, hy, rfl⟩)
        · exact Nat.le_refl _
        · have := (hpb y hy).1; omega
       · exact hOnly.below hg6 (Nat.le_refl _)
       · rw [hlen]; omega
      | true =>
       obtain ⟨pb, nb, cb, pa, na, ca, rfl, hK2⟩ := HCs.out; obtain ⟨y1, y2⟩ := hK2 wc (HY.out wc (Gr.refl _)); have hn1 := ofN_yes HZS.out.2.2.2.1.symm
       rw [← HZS.out.2.2.1] at hn1
       have hfl := HFl.out; have hlo := HLo.out; have hzl := HZS.out.2.2.2.2
       have hJN : J + N ≤ m0 := by omega
       obtain ⟨e2, he2⟩ : ∃ e2, e2 = e + N := ⟨_, rfl⟩
       have hw1 : IntKind.u64.wrap (N : Int) = (N : Int) := by rw [IntKind.wrap_u64]; omega
       have hw2 : IntKind.u64.wrap ((e : Int) + (N : Int)) = (e2 : Int) := by rw [IntKind.wrap_u64]; omega
       have hs2 : Hid ((L ++ [(e, (⟨e2, Rr, pb, nb, cb, pa, na, ca⟩ : RX))]).map LX3 ++ logT e2 (allL (ys.drop (J + N)) e2) = logT tl (opX s n ep tl) ∧ endL e2 (allL (ys.drop (J + N)) e2) = opN s n ep tl) := Lib.hid (by
        have hz := HZS.out; have h1 := hs.out
        have h3 : onW e N = e2 := by rw [he2]; exact onW_of (by omega)
        rw [← hz.1, allL_yes hz.2.2.2.1.symm, ← hz.2.2.1, ← hz.2.1, h3, hz.1, List.drop_drop] at h1
        simp only [logT, endL] at h1
        refine ⟨?_, h1.2⟩; rw [← h1.1, List.map_append, List.append_assoc]
        rfl)
       have hX2 := HX2.out
       have hfar : Hid (∀ V, Gr W V → ∀ s ∈ ShL.sl (e, (⟨e2, Rr, pb, nb, cb, pa, na, ca⟩ : RX)), s.In V (.slice lp LL lc)) := Lib.hid fun V g s hs => by
        have hrow : ∀ (q : Option Addr) (m d : Nat) (us : List Int), Byt wc q m d us → 0 < m → ∀ y, q = some y → Value.ownBlock (.slice lp LL lc) ≠ some y.block := fun q m d us hq hm y hy e2 => by
         obtain ⟨b2, o2, e3, hc⟩ := hq.at hm
         rw [hy] at e3
         cases e3
         have h1 : b2 < wc.heap.size := blk_lt (hc 0 hm); have h2 := ho.out.base b2 e2
         omega
        have gV : Gr wc V := Gr.trans hg.out (Gr.trans HV.out.1 g)
        simp only [ShL, List.mem_cons, List.not_mem_nil, or_false] at hs
        rcases hs with rfl | rfl
        · exact ⟨y1.kept gV, fun h0 y hy => hrow _ _ _ _ y1 h0 y hy⟩
        · exact ⟨y2.kept gV, fun h0 y hy => hrow _ _ _ _ y2 h0 y hy⟩
       have HM2 : Hid (fr + m0 - e2 < fr + m0 - e ∧ e2 = fr + (J + N) ∧ A ≤ J + N ∧ L.length + 1 ≤ J + N ∧ J + N ≤ m0) := Lib.hid (by omega); obtain ⟨r0, r1, r2, r3, r4, r5, r6, r7⟩ := HV.out.2.2.c8; have hq0 := Blk.new W TLd #[.int .u64 (e : Int), .int .u64 (e2 : Int), .int .i64 Rr.k, .int .u64 Rr.t, .int .u64 Rr.p, .int .u64 Rr.x, .int .i64 Rr.g, .int .i64 Rr.o, .slice pb nb cb, .slice pa na ca]; have gq := Gr.new W (.cells #[.int .u64 (e : Int), .int .u64 (e2 : Int), .int .i64 Rr.k, .int .u64 Rr.t, .int .u64 Rr.p, .int .u64 Rr.x, .int .i64 Rr.g, .int .i64 Rr.o, .slice pb nb cb, .slice pa na ca] TLd); obtain ⟨W9, hW9⟩ : ∃ W9, W9 = W.alloc (.cells #[.int .u64 (e : Int), .int .u64 (e2 : Int), .int .i64 Rr.k, .int .u64 Rr.t, .int .u64 Rr.p, .int .u64 Rr.x, .int .i64 Rr.g, .int .i64 Rr.o, .slice pb nb cb, .slice pa na ca] TLd) := ⟨_, rfl⟩
       rw [← hW9] at hq0 gq
       have HW9 : Hid (W.alloc (.cells #[.int .u64 (e : Int), .int .u64 (e2 : Int), .int .i64 Rr.k, .int .u64 Rr.t, .int .u64 Rr.p, .int .u64 Rr.x, .int .i64 Rr.g, .int .i64 Rr.o, .slice pb nb cb, .slice pa na ca] 76) = W9) := Lib.hid hW9.symm; have HO9 := Lib.hid (ho.out.gr (Gr.trans HV.out.1 gq))
       have HQ : Hid (∀ j, j < ShL.k → W9.cell? ⟨W.heap.size, j, none⟩ = (ShL.cs (e, (⟨e2, Rr, pb, nb, cb, pa, na, ca⟩ : RX)))[j]?) := Lib.hid fun j _ => by
        rw [hq0.cell j]
        simp [ShL]
       have HIn := Lib.hid (hfar.out W9 gq); have HG9 := Lib.hid (Gr.trans hg.out (Gr.trans HV.out.1 gq)); have HX9 : Hid (X2 ≤ W9.heap.size) := Lib.hid (by rw [hX2]; exact HG9.out.size); have HLn : Hid (L.length ≤ 18560) := Lib.hid (by omega); clear hK2 y1 y2 hn1 hfl hlo hzl hJN he2 hX2 hfar hq0 gq hW9 hs ho hg HOf HCs HBl HCut HJ
       go_wp2_with (first | (rw [HW9.out]; refine wpList_app_row ShL (T := TLd) Tryz.underlying58 info_lgd rfl rfl (.tmp 130) (.tmp 138) rfl X2 (.slice lp LL lc) L rfl HO9.out W.heap.size rfl _ HQ.out HIn.out (by have := HLn.out; omega) (by have := HLn.out; omega) HX9.out ?_; intro v9 W10 ho10 hg10 _; have HO10 := Lib.hid ho10; have HG10 : Hid (Gr wc W10) := Lib.hid (Below.grown HG9.out hg10 HG9.out.size (fun k e1 => by have h1 := HO9.out.base k e1; have h2 := HX2.out; omega)); clear ho10 hg10))
       go_roundw
       case rel => exact ⟨J + N, e2, _, HM2.out.2.2.2.2, by first | rfl | (rw [hw2]), HM2.out.2.1, HM2.out.2.2.1, by rw [List.length_append]; exact HM2.out.2.2.2.1, HO10, hs2, HG10⟩
       case measure =>
        first
         | exact HM2.out.1
         | (rw [hw2]; exact HM2.out.1)
end Go.Proofs.YtlijbgapkmfnaaaGreat
namespace Go.Proofs.YtlijbgapkmfnaaaGreat
open Go.RowKit Go.Maps
theorem sizeR_may {r : Rc} (h : mayR r = true) : sizeR r = 35 + r.b.length + r.a.length := by unfold sizeR; rw [if_pos h]
theorem may_len {r : Rc} (h : mayR r = true) (at' : Nat) : (recL r at').length ≤ 600 := by
 rw [recL_len]; have := mayQ_iff.1 h
 omega
section
variable {w w' : World} {S T : Nat → Prop} {pd pl pw pm : Value} {s : St} {L : Lg} {M : Nat}
theorem RetD.of_no {x : Int} {e : Ending} (h : DocAt w T pw pm s L M) (hr : RetLayE x w e w') : RetD (.tuple #[.int .u64 0, .int .i64 x]) s L M T pw pm w e w' :=
 ⟨T, hr.1, h.gr hr.2, Upd.of_gr hr.2⟩
theorem DocAt.Append (h : DocAt w T pw pm s L M) (ok : L.Ok) (r : Rc) (hi : r.In) (pb : Option Addr) (nb cb : Nat) (pa : Option Addr) (na ca : Nat) (hb : Byt w pb nb cb r.b) (ha : Byt w pa na ca r.a) (hM9 : M ≤ 100000000000000) :
  Calls Tryz.prog 23 #[pm, .agg (rcv r pb nb cb pa na ca), .bool false] w (RetD (.tuple #[.int .u64 (layA L r L.free : Int), .int .i64 (layE r L.free)]) s (layL L r L.free) (M + 600) T pw pm w) := by
 have h0 := h; obtain ⟨G, b, q, m, c, fr, ys, rfl, hr, hl, hap, rfl, hM⟩ := h
 unfold layA layL layE
 cases hm : mayR r with
 | false =>
  simp only [Bool.false_eq_true, if_false]
  exact (rLay_no w hl ok r pb nb cb pa na ca hb ha false hm).mono fun _ _ h2 => RetD.of_no (h0.more (by omega)) h2
 | true =>
  simp only [if_true]
  by_cases hroom : L.free < (35 + r.b.length + r.a.length : Int)
  ·
   simp only [if_pos hroom]
   exact (rLay_full w hl ok r pb nb cb pa na ca hb ha false hm (by rw [sizeR_may hm]; simp only [Bool.false_eq_true, if_false]; omega)).mono fun _ _ h2 => RetD.of_no (h0.more (by omega)) h2
  ·
   simp only [if_neg hroom, if_true]
   refine (rLay_append w hl ok r hi pb nb cb pa na ca hb ha hm (by rw [sizeR_may hm]; omega) (by have := hl.txt.1.len; omega)).mono fun _ _ h2 => ?_
   exact RetD.of_rl hr hl hap (by rw [List.length_append]; have := may_len hm L.fin; omega) h2
theorem DocAt.Flush (h : DocAt w T pw pm s L M) (ok : L.Ok) (hn : 3 + L.l ≤ s.ls.length) (hw : s.writes ≤ 800000000) (hless : ∀ i, (s.t i).length ≤ s.writes) (u : Nat) (hu : u ≤ 18446744073709551615) :
  Calls Tryz.prog 24 #[pm, .int .u64 (u : Int)] w (RetD (.int .i64 (flE s L u)) (flS s L u) (flL s L u) M T pw pm w) := by
 obtain ⟨G, b, q, m, c, fr, ys, rfl, hr, hl, hap, rfl, hM⟩ := h; refine (rFlush_any w hr hl hap ok hn hw hless u hu).mono ?_; rintro e w' ⟨he, G', hd⟩; exact ⟨_, he, ⟨G', b, q, m, c, fr, ys, rfl, hd.rf, hd.rl, hd.ap, rfl, hM⟩, hd.upd⟩
end
end Go.Proofs.YtlijbgapkmfnaaaGreat
namespace Go.Proofs.YtlijbgapkmfnaaaGreat
open Go.RowKit Go.Maps
def LgRow (U : World) (g k l e : Nat) (c : Rc) (pb : Option Addr) (nb cb : Nat) (pa : Option Addr) (na ca : Nat) : Prop :=
 U.cell? ⟨g, k * 10, none⟩ = some (.int .u64 l) ∧ U.cell? ⟨g, k * 10 + 1, none⟩ = some (.int .u64 e) ∧ U.cell? ⟨g, k * 10 + 2, none⟩ = some (.int .i64 c.k) ∧ U.cell? ⟨g, k * 10 + 2 + 1, none⟩ = some (.int .u64 c.t) ∧ U.cell? ⟨g, k * 10 + 2 + 2, none⟩ = some (.int .u64 c.p) ∧ U.cell? ⟨g, k * 10 + 2 + 3, none⟩ = some (.int .u64 c.x) ∧
  U.cell? ⟨g, k * 10 + 2 + 4, none⟩ = some (.int .i64 c.g) ∧ U.cell? ⟨g, k * 10 + 2 + 5, none⟩ = some (.int .i64 c.o) ∧ U.cell? ⟨g, k * 10 + 2 + 6, none⟩ = some (.slice pb nb cb) ∧ U.cell? ⟨g, k * 10 + 2 + 7, none⟩ = some (.slice pa na ca)
theorem OwnR.lgd {w : World} {X : Nat} {v : Value} {L : List (Nat × RX)} {n : Nat} {p : Option Addr} {c : Nat} (h : OwnR ShL w X TLd v L) (hv : v = .slice p n c) (hn : L.length = n) (k : Nat) (hk : k < n) :
  ∃ g y pb nb cb pa na ca, p = some ⟨g, 0, none⟩ ∧ (L.map LX3)[k]? = some y ∧ ∀ U, Gr w U → LgRow U g k y.1 y.2.1 y.2.2 pb nb cb pa na ca ∧ Byt U pb nb cb y.2.2.b ∧ Byt U pa na ca y.2.2.a := by
 subst hn
 obtain ⟨g, cap, hv2, _, hg, hc⟩ := h.at (by omega)
 rw [hv] at hv2
 simp only [Value.slice.injEq] at hv2
 have hcs := fun j hj => hc k hk j hj
 have hea := h.each _ (List.getElem_mem hk); refine ⟨g, LX3 L[k], L[k].2.pb, L[k].2.nb, L[k].2.cb, L[k].2.pa, L[k].2.na, L[k].2.ca, hv2.1, by simp [hk], fun U gr => ?_⟩
 have hgu : ∀ j, j < 10 → U.cell? ⟨g, k * 10 + j, none⟩ = (ShL.cs L[k])[j]? := fun j hj => ((Below.cell gr (p := ⟨g, k * 10 + j, none⟩) hg).trans (hcs j hj))
 exact ⟨⟨hgu 0 (by omega), hgu 1 (by omega), hgu 2 (by omega), hgu 3 (by omega), hgu 4 (by omega), hgu 5 (by omega), hgu 6 (by omega), hgu 7 (by omega), hgu 8 (by omega), hgu 9 (by omega)⟩,
  ((hea ⟨L[k].2.pb, L[k].2.nb, L[k].2.cb, L[k].2.c.b⟩ (by simp [ShL])).1).kept gr, ((hea ⟨L[k].2.pa, L[k].2.na, L[k].2.ca, L[k].2.c.a⟩ (by simp [ShL])).1).kept gr⟩
def SlSm (g : Nat) (g2 : Nat) (k : Nat) (l : Nat) (e : Nat) (n : Nat) (c : Nat) (c2 : Nat) (ck : Int) (ct : Nat) (cp : Nat) (cx : Nat) (cg : Int) (co : Int) (pb : Option Addr) (nb : Nat) (cb : Nat) (pa : Option Addr) (na : Nat) (ca : Nat) (qb : Option Addr) (mb : Nat) (db : Nat) (qa : Option Addr) (ma : Nat) (da : Nat) (slot : Nat) (v : Value) (_ : World) : Prop :=
 match slot with
 | 17 | 29 | 42 => v = .slice (some ⟨g, 0, none⟩) n c
 | 18 | 23 | 30 | 35 | 43 | 48 => v = .int .i64 (k : Int)
 | 19 | 20 | 31 | 44 => v = .pointer (some ⟨g, k * 10, none⟩)
 | 21 | 26 => v = .int .u64 l
 | 22 | 34 | 47 => v = .slice (some ⟨g2, 0, none⟩) n c2
 | 24 | 25 | 36 | 49 => v = .pointer (some ⟨g2, k * 10, none⟩)
 | 27 | 28 | 39 | 40 | 41 | 53 | 54 => v = .bool false
 | 32 => v = .pointer (some ⟨g, k * 10 + 1, none⟩)
 | 33 | 38 => v = .int .u64 e
 | 37 => v = .pointer (some ⟨g2, k * 10 + 1, none⟩)
 | 45 => v = .pointer (some ⟨g, k * 10 + 2, none⟩)
 | 46 => v = .agg #[.int .i64 ck, .int .u64 ct, .int .u64 cp, .int .u64 cx, .int .i64 cg, .int .i64 co, .slice pb nb cb, .slice pa na ca]
 | 50 => v = .pointer (some ⟨g2, k * 10 + 2, none⟩)
 | 51 => v = .agg #[.int .i64 ck, .int .u64 ct, .int .u64 cp, .int .u64 cx, .int .i64 cg, .int .i64 co, .slice qb mb db, .slice qa ma da]
 | 52 => v = .bool true
 | _ => True
set_option maxRecDepth 100000 in
set_option maxHeartbeats 1000000 in
theorem sameLg_any {X Y : Nat} (va vb : Value) (A B : List (Nat × RX)) (w : World) (hA : OwnR ShL w X TLd va A) (hB : OwnR ShL w Y TLd vb B) (he : A.map LX3 = B.map LX3) (hl : A.length ≤ 1000000) : Calls Tryz.prog 54 #[va, vb] w (RetB true w) := by
 have hlen : B.length = A.length := by
  have := congrArg List.length he
  simp only [List.length_map] at this
  omega
 obtain ⟨n, hn⟩ : ∃ n, n = A.length := ⟨_, rfl⟩; obtain ⟨p, c, rfl, _, _, _, _⟩ := hA.shape n hn.symm; obtain ⟨p2, c2, rfl, _, _, _, _⟩ := hB.shape n (by omega)
 have HR : Hid (∀ k, k < n → ∃ (g g2 : Nat) (y : Nat × Nat × Rc) (pb : Option Addr) (nb cb : Nat) (pa : Option Addr) (na ca : Nat) (qb : Option Addr) (mb db : Nat) (qa : Option Addr) (ma da : Nat), p = some ⟨g, 0, none⟩ ∧ p2 = some ⟨g2, 0, none⟩ ∧ ∀ U, Gr w U → (LgRow U g k y.1 y.2.1 y.2.2 pb nb cb pa na ca ∧ LgRow U g2 k y.1 y.2.1 y.2.2 qb mb db qa ma da) ∧ Byt U pb nb cb y.2.2.b ∧ Byt U pa na ca y.2.2.a ∧ Byt U qb mb db y.2.2.b ∧ Byt U qa ma da y.2.2.a) := Lib.hid fun k hk => by
  obtain ⟨g, y, pb, nb, cb, pa, na, ca, h1, h2, h3⟩ := hA.lgd rfl hn.symm k hk; obtain ⟨g2, y2, qb, mb, db, qa, ma, da, h4, h5, h6⟩ := hB.lgd rfl (by omega) k hk
  obtain rfl : y = y2 := by rw [he, h5] at h2; exact (Option.some.inj h2).symm
  exact ⟨g, g2, y, pb, nb, cb, pa, na, ca, qb, mb, db, qa, ma, da, h1, h4, fun U gr => ⟨⟨(h3 U gr).1, (h6 U gr).1⟩, (h3 U gr).2.1, (h3 U gr).2.2, (h6 U gr).2.1, (h6 U gr).2.2⟩⟩
 have hn2 : n ≤ 1000000 := by omega
 clear hA hB he hl hlen hn
 go_enter Tryz.func54, Tryz.ntmps54
 go_wp2_with fail
 go_loopw [5] (fun kv wr => ∃ k : Nat, k ≤ n ∧ kv = .int .i64 (k : Int) ∧ Hid (Gr w wr)) (fun kv _ => n - (intOf kv).toNat)
 case atStart => exact ⟨0, Nat.zero_le _, rfl, Lib.hid (Gr.refl _)⟩
 case round =>
  obtain ⟨k, hk, rfl, HG⟩ := hrel
  by_cases hlt : k < n
  ·
   have g3 : (k : Int) < (n : Int) := by omega
   obtain ⟨g, g2, ⟨l, e, ck, ct, cp, cx, cg, co, xb, xa⟩, pb, nb, cb, pa, na, ca, qb, mb, db, qa, ma, da, rfl, rfl, hrow⟩ := HR.out k hlt
   have HFA : Hid (∀ W, Gr wr W → LgRow W g k l e ⟨ck, ct, cp, cx, cg, co, xb, xa⟩ pb nb cb pa na ca ∧ LgRow W g2 k l e ⟨ck, ct, cp, cx, cg, co, xb, xa⟩ qb mb db qa ma da) := Lib.hid fun W gr => (hrow W (Gr.trans HG.out gr)).1
   have HSM : Hid (∀ W, Gr wr W → Calls Tryz.prog 27 #[.agg #[.int .i64 ck, .int .u64 ct, .int .u64 cp, .int .u64 cx, .int .i64 cg, .int .i64 co, .slice pb nb cb, .slice pa na ca], .agg #[.int .i64 ck, .int .u64 ct, .int .u64 cp, .int .u64 cx, .int .i64 cg, .int .i64 co, .slice qb mb db, .slice qa ma da]] W (RetB true W)) := Lib.hid fun W gr => by
    obtain ⟨_, h1, h2, h3, h4⟩ := hrow W (Gr.trans HG.out gr); have h := refSameRec_any ⟨ck, ct, cp, cx, cg, co, xb, xa⟩ ⟨ck, ct, cp, cx, cg, co, xb, xa⟩ pb nb cb pa na ca qb mb db qa ma da W h1 h2 h3 h4
    rw [sameR_self] at h
    exact h
   have HKL : Hid ((k : Int) < (n : Int) ∧ k < n ∧ decide (n ≤ k) = false) := Lib.hid ⟨by omega, hlt, decide_eq_false (by omega)⟩; obtain ⟨k2, hk2⟩ : ∃ k2, k2 = k + 1 := ⟨_, rfl⟩
   have hq : IntKind.i64.wrap ((k : Int) + 1) = (k2 : Int) := by rw [IntWalk.i64_in _ (by omega)]; omega
   have HK2 : Hid (k2 ≤ n ∧ n - k2 < n - k) := Lib.hid ⟨by omega, by omega⟩; clear hrow hk2 hlt hk; go_wp2_with fail; refine Flow.region (SlSm g g2 k l e n c c2 ck ct cp cx cg co pb nb cb pa na ca qb mb db qa ma da) (Gr wr) (fun _ _ => True) (by kernel_rfl) (by kernel_rfl) (fun _ _ _ _ h _ => h) ⟨rfl, rfl, rfl, Nat.le_refl _, fun _ _ => rfl⟩ ?steps ?fin
   case steps =>
    refine .cons (fun a W hfr hinv hdep K hK => ?_) ?_
    · have t0 := tAt (.slice (some ⟨g, 0, none⟩) n c) (hfr.at 0 (by kernel_rfl)); refine fW0 rfl ?_; clear hfr hdep; go_simp; exact hK _ _ True.intro hinv (dsT (by trivial))
    refine .cons (fun a W hfr hinv hdep K hK => ?_) ?_
    · have t5 := tAt (.int .i64 (k : Int)) (hfr.at 5 (by kernel_rfl)); refine fW0 rfl ?_; clear hfr hdep; go_simp; exact hK _ _ True.intro hinv (dsT (by trivial))
    refine .cons (fun a W hfr hinv hdep K hK => ?_) ?_
    · have t17 := tAt (.slice (some ⟨g, 0, none⟩) n c) (hdep 17 (by kernel_rfl)); have t18 := tAt (.int .i64 (k : Int)) (hdep 18 (by kernel_rfl)); have hkl := HKL.out; refine fW0 rfl ?_; clear hfr hdep; go_simp; exact hK _ _ True.intro hinv (dsT (by trivial))
    refine .cons (fun a W hfr hinv hdep K hK => ?_) ?_
    · have t19 := tAt (.pointer (some ⟨g, k * 10, none⟩)) (hdep 19 (by kernel_rfl)); refine fW0 rfl ?_; clear hfr hdep; go_simp; exact hK _ _ True.intro hinv (dsT (by trivial))
    refine .cons (fun a W hfr hinv hdep K hK => ?_) ?_
    · have t20 := tAt (.pointer (some ⟨g, k * 10, none⟩)) (hdep 20 (by kernel_rfl)); obtain ⟨⟨x0, x1, x2, x3, x4, x5, x6, x7, x8, x9⟩, y0, y1, y2, y3, y4, y5, y6, y7, y8, y9⟩ := HFA.out W hinv; refine fW0 rfl ?_; clear hfr hdep; go_simp; exact hK _ _ True.intro hinv (dsT (by trivial))
    refine .cons (fun a W hfr hinv hdep K hK => ?_) ?_
    · have t1 := tAt (.slice (some ⟨g2, 0, none⟩) n c2) (hfr.at 1 (by kernel_rfl)); refine fW0 rfl ?_; clear hfr hdep; go_simp; exact hK _ _ True.intro hinv (dsT (by trivial))
    refine .cons (fun a W hfr hinv hdep K hK => ?_) ?_
    · have t5 := tAt (.int .i64 (k : Int)) (hfr.at 5 (by kernel_rfl)); refine fW0 rfl ?_; clear hfr hdep; go_simp; exact hK _ _ True.intro hinv (dsT (by trivial))
    refine .cons (fun a W hfr hinv hdep K hK => ?_) ?_
    · have t22 := tAt (.slice (some ⟨g2, 0, none⟩) n c2) (hdep 22 (by kernel_rfl)); have t23 := tAt (.int .i64 (k : Int)) (hdep 23 (by kernel_rfl)); have hkl := HKL.out; refine fW0 rfl ?_; clear hfr hdep; go_simp; exact hK _ _ True.intro hinv (dsT (by trivial))
    refine .cons (fun a W hfr hinv hdep K hK => ?_) ?_
    · have t24 := tAt (.pointer (some ⟨g2, k * 10, none⟩)) (hdep 24 (by kernel_rfl)); refine fW0 rfl ?_; clear hfr hdep; go_simp; exact hK _ _ True.intro hinv (dsT (by trivial))
    refine .cons (fun a W hfr hinv hdep K hK => ?_) ?_
    · have t25 := tAt (.pointer (some ⟨g2, k * 10, none⟩)) (hdep 25 (by kernel_rfl)); obtain ⟨⟨x0, x1, x2, x3, x4, x5, x6, x7, x8, x9⟩, y0, y1, y2, y3, y4, y5, y6, y7, y8, y9⟩ := HFA.out W hinv; refine fW0 rfl ?_; clear hfr hdep; go_simp; exact hK _ _ True.intro hinv (dsT (by trivial))
    refine .cons (fun a W hfr hinv hdep K hK => ?_) ?_
    · have t21 := tAt (.int .u64 l) (hdep 21 (by kernel_rfl)); have t26 := tAt (.int .u64 l) (hdep 26 (by kernel_rfl)); refine fW0 rfl ?_; clear hfr hdep; go_simp; exact hK _ _ True.intro hinv (dsT (by trivial))
    refine .cons (fun a W hfr hinv hdep K hK => ?_) ?_
    · have t27 := tAt (.bool false) (hdep 27 (by kernel_rfl)); refine fW0 rfl ?_; clear hfr hdep; go_simp; exact hK _ _ True.intro hinv (dsT (by trivial))
    refine .cons (fun a W hfr hinv hdep K hK => ?_) ?_
    · have sg : a.tmps.getD 28 undef = .bool false := hdep 28 (by kernel_rfl); have t0 := tAt (.slice (some ⟨g, 0, none⟩) n c) (hfr.at 0 (by kernel_rfl)); rw [if_pos (Flow.wanted_yes 11 false 28 rfl (by kernel_rfl) sg)]; clear hfr hdep; go_simp; exact hK _ _ True.intro hinv (dsT (by trivial))
    refine .cons (fun a W hfr hinv hdep K hK => ?_) ?_
    · have sg : a.tmps.getD 28 undef = .bool false := hdep 28 (by kernel_rfl); have t5 := tAt (.int .i64 (k : Int)) (hfr.at 5 (by kernel_rfl)); rw [if_pos (Flow.wanted_yes 11 false 28 rfl (by kernel_rfl) sg)]; clear hfr hdep; go_simp; exact hK _ _ True.intro hinv (dsT (by trivial))
    refine .cons (fun a W hfr hinv hdep K hK => ?_) ?_
    · have sg : a.tmps.getD 28 undef = .bool false := hdep 28 (by kernel_rfl); have t29 := tAt (.slice (some ⟨g, 0, none⟩) n c) (hdep 29 (by kernel_rfl)); have t30 := tAt (.int .i64 (k : Int)) (hdep 30 (by kernel_rfl)); have hkl := HKL.out; rw [if_pos (Flow.wanted_yes 11 false 28 rfl (by kernel_rfl) sg)]; clear hfr hdep; go_simp; exact hK _ _ True.intro hinv (dsT (by trivial))
    refine .cons (fun a W hfr hinv hdep K hK => ?_) ?_
    · have sg : a.tmps.getD 28 undef = .bool false := hdep 28 (by kernel_rfl); have t31 := tAt (.pointer (some ⟨g, k * 10, none⟩)) (hdep 31 (by kernel_rfl)); rw [if_pos (Flow.wanted_yes 11 false 28 rfl (by kernel_rfl) sg)]; clear hfr hdep; go_simp; exact hK _ _ True.intro hinv (dsT (by trivial))
    refine .cons (fun a W hfr hinv hdep K hK => ?_) ?_
    · have sg : a.tmps.getD 28 undef = .bool false := hdep 28 (by kernel_rfl); have t32 := tAt (.pointer (some ⟨g, k * 10 + 1, none⟩)) (hdep 32 (by kernel_rfl)); obtain ⟨⟨x0, x1, x2, x3, x4, x5, x6, x7, x8, x9⟩, y0, y1, y2, y3, y4, y5, y6, y7, y8, y9⟩ := HFA.out W hinv; rw [if_pos (Flow.wanted_yes 11 false 28 rfl (by kernel_rfl) sg)]; clear hfr hdep; go_simp; exact hK _ _ True.intro hinv (dsT (by trivial))
    refine .cons (fun a W hfr hinv hdep K hK => ?_) ?_
    · have sg : a.tmps.getD 28 undef = .bool false := hdep 28 (by kernel_rfl); have t1 := tAt (.slice (some ⟨g2, 0, none⟩) n c2) (hfr.at 1 (by kernel_rfl)); rw [if_pos (Flow.wanted_yes 11 false 28 rfl (by kernel_rfl) sg)]; clear hfr hdep; go_simp; exact hK _ _ True.intro hinv (dsT (by trivial))
    refine .cons (fun a W hfr hinv hdep K hK => ?_) ?_
    · have sg : a.tmps.getD 28 undef = .bool false := hdep 28 (by kernel_rfl); have t5 := tAt (.int .i64 (k : Int)) (hfr.at 5 (by kernel_rfl)); rw [if_pos (Flow.wanted_yes 11 false 28 rfl (by kernel_rfl) sg)]; clear hfr hdep; go_simp; exact hK _ _ True.intro hinv (dsT (by trivial))
    refine .cons (fun a W hfr hinv hdep K hK => ?_) ?_
    · have sg : a.tmps.getD 28 undef = .bool false := hdep 28 (by kernel_rfl); have t34 := tAt (.slice (some ⟨g2, 0, none⟩) n c2) (hdep 34 (by kernel_rfl)); have t35 := tAt (.int .i64 (k : Int)) (hdep 35 (by kernel_rfl)); have hkl := HKL.out; rw [if_pos (Flow.wanted_yes 11 false 28 rfl (by kernel_rfl) sg)]; clear hfr hdep; go_simp; exact hK _ _ True.intro hinv (dsT (by trivial))
    refine .cons (fun a W hfr hinv hdep K hK => ?_) ?_
    · have sg : a.tmps.getD 28 undef = .bool false := hdep 28 (by kernel_rfl); have t36 := tAt (.pointer (some ⟨g2, k * 10, none⟩)) (hdep 36 (by kernel_rfl)); rw [if_pos (Flow.wanted_yes 11 false 28 rfl (by kernel_rfl) sg)]; clear hfr hdep; go_simp; exact hK _ _ True.intro hinv (dsT (by trivial))
    refine .cons (fun a W hfr hinv hdep K hK => ?_) ?_
    · have sg : a.tmps.getD 28 undef = .bool false := hdep 28 (by kernel_rfl); have t37 := tAt (.pointer (some ⟨g2, k * 10 + 1, none⟩)) (hdep 37 (by kernel_rfl)); obtain ⟨⟨x0, x1, x2, x3, x4, x5, x6, x7, x8, x9⟩, y0, y1, y2, y3, y4, y5, y6, y7, y8, y9⟩ := HFA.out W hinv; rw [if_pos (Flow.wanted_yes 11 false 28 rfl (by kernel_rfl) sg)]; clear hfr hdep; go_simp; exact hK _ _ True.intro hinv (dsT (by trivial))
    refine .cons (fun a W hfr hinv hdep K hK => ?_) ?_
    · have sg : a.tmps.getD 28 undef = .bool false := hdep 28 (by kernel_rfl); have t33 := tAt (.int .u64 e) (hdep 33 (by kernel_rfl)); have t38 := tAt (.int .u64 e) (hdep 38 (by kernel_rfl)); rw [if_pos (Flow.wanted_yes 11 false 28 rfl (by kernel_rfl) sg)]; clear hfr hdep; go_simp; exact hK _ _ True.intro hinv (dsT (by trivial))
    refine .cons (fun a W hfr hinv hdep K hK => ?_) ?_
    · have t28 := tAt (.bool false) (hdep 28 (by kernel_rfl)); have t39 := tAt (.bool false) (hdep 39 (by kernel_rfl)); refine fW0 rfl ?_; clear hfr hdep; go_simp; exact hK _ _ True.intro hinv (dsT (by trivial))
    refine .cons (fun a W hfr hinv hdep K hK => ?_) ?_
    · have t40 := tAt (.bool false) (hdep 40 (by kernel_rfl)); refine fW0 rfl ?_; clear hfr hdep; go_simp; exact hK _ _ True.intro hinv (dsT (by trivial))
    refine .cons (fun a W hfr hinv hdep K hK => ?_) ?_
    · have sg : a.tmps.getD 41 undef = .bool false := hdep 41 (by kernel_rfl); have t0 := tAt (.slice (some ⟨g, 0, none⟩) n c) (hfr.at 0 (by kernel_rfl)); rw [if_pos (Flow.wanted_yes 24 false 41 rfl (by kernel_rfl) sg)]; clear hfr hdep; go_simp; exact hK _ _ True.intro hinv (dsT (by trivial))
    refine .cons (fun a W hfr hinv hdep K hK => ?_) ?_
    · have sg : a.tmps.getD 41 undef = .bool false := hdep 41 (by kernel_rfl); have t5 := tAt (.int .i64 (k : Int)) (hfr.at 5 (by kernel_rfl)); rw [if_pos (Flow.wanted_yes 24 false 41 rfl (by kernel_rfl) sg)]; clear hfr hdep; go_simp; exact hK _ _ True.intro hinv (dsT (by trivial))
    refine .cons (fun a W hfr hinv hdep K hK => ?_) ?_
    · have sg : a.tmps.getD 41 undef = .bool false := hdep 41 (by kernel_rfl); have t42 := tAt (.slice (some ⟨g, 0, none⟩) n c) (hdep 42 (by kernel_rfl)); have t43 := tAt (.int .i64 (k : Int)) (hdep 43 (by kernel_rfl)); have hkl := HKL.out; rw [if_pos (Flow.wanted_yes 24 false 41 rfl (by kernel_rfl) sg)]; clear hfr hdep; go_simp; exact hK _ _ True.intro hinv (dsT (by trivial))
    refine .cons (fun a W hfr hinv hdep K hK => ?_) ?_
    · have sg : a.tmps.getD 41 undef = .bool false := hdep 41 (by kernel_rfl); have t44 := tAt (.pointer (some ⟨g, k * 10, none⟩)) (hdep 44 (by kernel_rfl)); rw [if_pos (Flow.wanted_yes 24 false 41 rfl (by kernel_rfl) sg)]; clear hfr hdep; go_simp; exact hK _ _ True.intro hinv (dsT (by trivial))
    refine .cons (fun a W hfr hinv hdep K hK => ?_) ?_
    · have sg : a.tmps.getD 41 undef = .bool false := hdep 41 (by kernel_rfl); have t45 := tAt (.pointer (some ⟨g, k * 10 + 2, none⟩)) (hdep 45 (by kernel_rfl)); obtain ⟨⟨x0, x1, x2, x3, x4, x5, x6, x7, x8, x9⟩, y0, y1, y2, y3, y4, y5, y6, y7, y8, y9⟩ := HFA.out W hinv; rw [if_pos (Flow.wanted_yes 24 false 41 rfl (by kernel_rfl) sg)]; clear hfr hdep; go_simp; exact hK _ _ True.intro hinv (dsT (by trivial))
    refine .cons (fun a W hfr hinv hdep K hK => ?_) ?_
    · have sg : a.tmps.getD 41 undef = .bool false := hdep 41 (by kernel_rfl); have t1 := tAt (.slice (some ⟨g2, 0, none⟩) n c2) (hfr.at 1 (by kernel_rfl)); rw [if_pos (Flow.wanted_yes 24 false 41 rfl (by kernel_rfl) sg)]; clear hfr hdep; go_simp; exact hK _ _ True.intro hinv (dsT (by trivial))
    refine .cons (fun a W hfr hinv hdep K hK => ?_) ?_
    · have sg : a.tmps.getD 41 undef = .bool false := hdep 41 (by kernel_rfl); have t5 := tAt (.int .i64 (k : Int)) (hfr.at 5 (by kernel_rfl)); rw [if_pos (Flow.wanted_yes 24 false 41 rfl (by kernel_rfl) sg)]; clear hfr hdep; go_simp; exact hK _ _ True.intro hinv (dsT (by trivial))
    refine .cons (fun a W hfr hinv hdep K hK => ?_) ?_
    · have sg : a.tmps.getD 41 undef = .bool false := hdep 41 (by kernel_rfl); have t47 := tAt (.slice (some ⟨g2, 0, none⟩) n c2) (hdep 47 (by kernel_rfl)); have t48 := tAt (.int .i64 (k : Int)) (hdep 48 (by kernel_rfl)); have hkl := HKL.out; rw [if_pos (Flow.wanted_yes 24 false 41 rfl (by kernel_rfl) sg)]; clear hfr hdep; go_simp; exact hK _ _ True.intro hinv (dsT (by trivial))
    refine .cons (fun a W hfr hinv hdep K hK => ?_) ?_
    · have sg : a.tmps.getD 41 undef = .bool false := hdep 41 (by kernel_rfl); have t49 := tAt (.pointer (some ⟨g2, k * 10, none⟩)) (hdep 49 (by kernel_rfl)); rw [if_pos (Flow.wanted_yes 24 false 41 rfl (by kernel_rfl) sg)]; clear hfr hdep; go_simp; exact hK _ _ True.intro hinv (dsT (by trivial))
    refine .cons (fun a W hfr hinv hdep K hK => ?_) ?_
    · have sg : a.tmps.getD 41 undef = .bool false := hdep 41 (by kernel_rfl); have t50 := tAt (.pointer (some ⟨g2, k * 10 + 2, none⟩)) (hdep 50 (by kernel_rfl)); obtain ⟨⟨x0, x1, x2, x3, x4, x5, x6, x7, x8, x9⟩, y0, y1, y2, y3, y4, y5, y6, y7, y8, y9⟩ := HFA.out W hinv; rw [if_pos (Flow.wanted_yes 24 false 41 rfl (by kernel_rfl) sg)]; clear hfr hdep; go_simp; exact hK _ _ True.intro hinv (dsT (by trivial))
    refine .cons (fun a W hfr hinv hdep K hK => ?_) ?_
    · have sg : a.tmps.getD 41 undef = .bool false := hdep 41 (by kernel_rfl); have t46 := tAt (.agg #[.int .i64 ck, .int .u64 ct, .int .u64 cp, .int .u64 cx, .int .i64 cg, .int .i64 co, .slice pb nb cb, .slice pa na ca]) (hdep 46 (by kernel_rfl)); have t51 := tAt (.agg #[.int .i64 ck, .int .u64 ct, .int .u64 cp, .int .u64 cx, .int .i64 cg, .int .i64 co, .slice qb mb db, .slice qa ma da]) (hdep 51 (by kernel_rfl)); rw [if_pos (Flow.wanted_yes 24 false 41 rfl (by kernel_rfl) sg)]; clear hfr hdep; go_simp; refine (HSM.out W hinv).mono ?_; rintro e W' ⟨rfl, g1⟩; exact hK _ _ True.intro (Gr.trans hinv g1) (dsT (by trivial))
    refine .cons (fun a W hfr hinv hdep K hK => ?_) ?_
    · have sg : a.tmps.getD 41 undef = .bool false := hdep 41 (by kernel_rfl); have t52 := tAt (.bool true) (hdep 52 (by kernel_rfl)); rw [if_pos (Flow.wanted_yes 24 false 41 rfl (by kernel_rfl) sg)]; clear hfr hdep; go_simp; exact hK _ _ True.intro hinv (dsT (by trivial))
    refine .cons (fun a W hfr hinv hdep K hK => ?_) ?_
    · have t41 := tAt (.bool false) (hdep 41 (by kernel_rfl)); have t53 := tAt (.bool false) (hdep 53 (by kernel_rfl)); refine fW0 rfl ?_; clear hfr hdep; go_simp; exact hK _ _ True.intro hinv (dsT (by trivial))
    exact True.intro
   case fin =>
    intro a W hfr hfin hsl
    have s54 : a.tmps.getD 54 undef = .bool false := hsl 37 _ 54 rfl rfl; have t54 := tmpAt s54; have e := Flow.frame hfr [17, 18, 19, 20, 21, 22, 23, 24, 25, 26, 27, 28, 29, 30, 31, 32, 33, 34, 35, 36, 37, 38, 39, 40, 41, 42, 43, 44, 45, 46, 47, 48, 49, 50, 51, 52, 53, 54] (List.range 55) (by kernel_rfl) (by kernel_rfl)
    simp [List.range, List.range.loop] at e
    rw [t54] at e
    rw [e]; clear e hfr hsl s54 t54
    rename_i K2 hK2
    refine hK2 _ _ ?_; go_wp2_with fail
    go_roundw
    case rel => exact ⟨k2, HK2.out.1, rfl, Lib.hid (Gr.trans HG.out hfin)⟩
    case measure => exact HK2.out.2
  ·
   have g3 : ¬ (k : Int) < (n : Int) := by omega
   go_wp2_with fail
   go_ret
   exact ⟨rfl, HG.out⟩
end Go.Proofs.YtlijbgapkmfnaaaGreat
namespace Go.Proofs.YtlijbgapkmfnaaaGreat
open Go.RowKit Go.Maps
abbrev TSu : TypeId := 97
structure PrD (w0 w : World) (bp : Nat) (F G : Nat → Prop) (pd pw pl pm : Value) (s : St) : Prop where
 blk : Blk w bp TPr #[pd, pw, pl, pm]
 dk : Dk w F pd s
 rf : Rf w G pw s
 ap : ∀ k, F k → ¬ G k
 nF : ¬ F bp
 nG : ¬ G bp
 gr : Gr w0 w
 lb : w0.heap.size ≤ bp
 lF : ∀ k, F k → w0.heap.size ≤ k
 lG : ∀ k, G k → w0.heap.size ≤ k
 pl : ∃ a, pl = .pointer a
 pm : ∃ a, pm = .pointer a
section
variable {w0 w w' : World} {bp : Nat} {F G : Nat → Prop} {pd pw pl pm : Value} {s : St}
theorem PrD.up (h : PrD w0 w bp F G pd pw pl pm s) (g : Gr w w') : PrD w0 w' bp F G pd pw pl pm s :=
 ⟨h.blk.gr g, h.dk.gr g, h.rf.gr g, h.ap, h.nF, h.nG, Gr.trans h.gr g, h.lb, h.lF, h.lG, h.pl, h.pm⟩
theorem PrD.ptrs (h : PrD w0 w bp F G pd pw pl pm s) : (∃ D, pd = .pointer (some ⟨D, 0, none⟩)) ∧ ∃ R, pw = .pointer (some ⟨R, 0, none⟩) := by
 obtain ⟨D, _, _, _, h1, _⟩ := h.dk; obtain ⟨R, _, _, _, h2, _⟩ := h.rf; exact ⟨⟨D, h1⟩, ⟨R, h2⟩⟩
theorem PrD.u8 (h : PrD w0 w bp F G pd pw pl pm s) : ∀ u ∈ (#[pd, pw, pl, pm] : Array Value).toList, ∀ i, u ≠ .int .u8 i := by
 obtain ⟨⟨D, rfl⟩, R, rfl⟩ := h.ptrs; obtain ⟨a, rfl⟩ := h.pl; obtain ⟨b, rfl⟩ := h.pm
 intro u hu i e
 subst e
 simp at hu
theorem PrD.cell2 (h : PrD w0 w bp F G pd pw pl pm s) (a : Option Addr) : PrD w0 (w.setCell ⟨bp, 2, none⟩ (.pointer a)) bp F G pd pw (.pointer a) pm s := by
 have ho := Only.cell bp 2 w (.pointer a); have hs : w.heap.size ≤ (w.setCell ⟨bp, 2, none⟩ (.pointer a)).heap.size := Nat.le_of_eq ho.size.symm; exact ⟨h.blk.set 2 _, h.dk.stays (fun k hk => ho.block k (fun e => h.nF (e ▸ hk))) hs, h.rf.stays (fun k hk => ho.block k (fun e => h.nG (e ▸ hk))) hs, h.ap, h.nF, h.nG, Below.setCell h.gr h.lb _, h.lb, h.lF, h.lG, ⟨a, rfl⟩, h.pm⟩
theorem PrD.cell3 (h : PrD w0 w bp F G pd pw pl pm s) (a : Option Addr) : PrD w0 (w.setCell ⟨bp, 3, none⟩ (.pointer a)) bp F G pd pw pl (.pointer a) s := by
 have ho := Only.cell bp 3 w (.pointer a); have hs : w.heap.size ≤ (w.setCell ⟨bp, 3, none⟩ (.pointer a)).heap.size := Nat.le_of_eq ho.size.symm; exact ⟨h.blk.set 3 _, h.dk.stays (fun k hk => ho.block k (fun e => h.nF (e ▸ hk))) hs, h.rf.stays (fun k hk => ho.block k (fun e => h.nG (e ▸ hk))) hs, h.ap, h.nF, h.nG, Below.setCell h.gr h.lb _, h.lb, h.lF, h.lG, h.pl, ⟨a, rfl⟩⟩
end
def KeepB (b : Nat) (w w' : World) : Prop := w.heap.size ≤ w'.heap.size ∧ ∀ k, k < w.heap.size → k ≠ b → w'.heap[k]? = w.heap[k]?
theorem KeepB.trans {b : Nat} {w w1 w2 : World} (h : KeepB b w w1) (k : KeepB b w1 w2) : KeepB b w w2 := ⟨Nat.le_trans h.1 k.1, fun j hj n => (k.2 j (Nat.lt_of_lt_of_le hj h.1) n).trans (h.2 j hj n)⟩
theorem KeepB.gr {b : Nat} {w w' : World} (g : Gr w w') : KeepB b w w' := ⟨g.size, fun k hk _ => g.block k hk⟩
theorem KeepB.cell {b : Nat} (i : Nat) (w : World) (u : Value) : KeepB b w (w.setCell ⟨b, i, none⟩ u) := ⟨Nat.le_of_eq (Only.cell b i w u).size.symm, fun k _ n => (Only.cell b i w u).block k n⟩
def RetOpn (w0 w : World) (bp : Nat) (F G : Nat → Prop) (pd pw : Value) (s : St) (ep tl : Nat) (e : Ending) (w' : World) : Prop :=
 KeepB bp w w' ∧ ((opOk s 16 ep tl = false ∧ e = .returned (.tuple #[.slice none 0 0, .bool true]) ∧ PrD w0 w' bp F G pd pw (.pointer none) (.pointer none) s) ∨
 (opOk s 16 ep tl = true ∧ ∃ v K S T pl pm, e = .returned (.tuple #[v, .bool true]) ∧ OwnR ShL w' w.heap.size TLd v K ∧ K.map LX3 = logT tl (opX s 16 ep tl) ∧ PrB w0 w' bp S T pd pw pl pm s (opL s 64 16 1 ep tl) s (opL s 64 16 1 ep tl) 20000))
def RetO1 (p : Value) (s : St) (ep tl : Nat) (w : World) (e : Ending) (w' : World) : Prop :=
 ∃ b v L q m, e = .returned (.tuple #[.pointer (some ⟨b, 0, none⟩), v, .int .i64 0]) ∧ OwnR ShL w' w.heap.size TLd v L ∧ L.map LX3 = logT tl (opX s 16 ep tl) ∧ LgAt w' b p q m m (opL s 64 16 1 ep tl) ∧ (∀ k, lgS b q k → w.heap.size ≤ k) ∧ Gr w w'
def RetO2 (r : Value) (s : St) (ep tl : Nat) (w : World) (e : Ending) (w' : World) : Prop :=
 ∃ b v L q m c fr ys, e = .returned (.tuple #[.pointer (some ⟨b, 0, none⟩), v, .int .i64 0]) ∧ OwnR ShL w' w.heap.size TLd v L ∧ L.map LX3 = logT tl (opX s 16 ep tl) ∧ RlAt w' b r q m c fr ys (opL s 64 16 1 ep tl) ∧ (∀ k, lgS b q k → w.heap.size ≤ k) ∧ Gr w w' ∧ ys.length ≤ 20000
theorem opX_len (s : St) (l ep tl : Nat) : 35 * (opX s l ep tl).length ≤ 232 * l := by
 have h1 := allL_len _ ((opB s l ep tl).drop (tl % 232)) tl (Nat.le_refl _); have h2 := (opB_len s l ep tl).1
 rw [List.length_drop] at h1
 unfold opX
 omega
theorem may64 : mayL 64 16 1 = true := by decide
theorem make64 (w : World) : Calls Tryz.prog 51 #[.int .i64 64] w (RetLy 64 16 1 0 w) := by
 have hM := make_any 64 w
 rwa [show mkN 64 = 64 by decide, show mkL 64 = 16 by decide, show mkG 64 = 1 by decide, show mkE 64 = 0 by decide] at hM
theorem open1_yes {F : Nat → Prop} {p : Value} {s : St} {ep tl : Nat} (w : World) (hd : Dk w F p s) (hn : s.ls.length = 64) (ht : tl ≤ 4611686018427387904) (he : 1 ≤ ep) (he2 : ep ≤ 4611686018427387904) (ho : opOk s 16 ep tl = true) :
  Calls Tryz.prog 52 #[p, .agg #[.int .i64 64, .int .i64 16, .int .i64 1], .int .u64 (tl : Int), .int .u64 (ep : Int)] w (RetO1 p s ep tl w) := by
 obtain ⟨D, _, _, _, hp, _⟩ := id hd; refine (wOpen_any D p 64 16 1 ep tl w hp hd may64 (by decide) ht he he2 (by omega) (by omega)).mono ?_; rintro e w' (⟨h, _⟩ | ⟨_, h⟩)
 ·
  rw [show ((16 : Int).toNat) = 16 from rfl, ho] at h
  cases h
 · exact h
theorem open2_yes {G : Nat → Prop} {r : Value} {s : St} {ep tl : Nat} (w : World) (hd : Rf w G r s) (hn : s.ls.length = 64) (ht : tl ≤ 4611686018427387904) (he : 1 ≤ ep) (he2 : ep ≤ 4611686018427387904) (ho : opOk s 16 ep tl = true) :
  Calls Tryz.prog 53 #[r, .int .i64 16, .int .u64 (tl : Int), .int .u64 (ep : Int)] w (RetO2 r s ep tl w) := by
 obtain ⟨D, _, _, _, hp, _⟩ := id hd; refine (rOpen_any D r 64 1 16 ep tl w hp hd may64 (by decide) ht he he2 (by omega)).mono ?_; rintro e w' (⟨h, _⟩ | ⟨_, h⟩)
 ·
  rw [ho] at h
  cases h
 · exact h
theorem open1_no {F : Nat → Prop} {p : Value} {s : St} {ep tl : Nat} (w : World) (hd : Dk w F p s) (hn : s.ls.length = 64) (ht : tl ≤ 4611686018427387904) (he : 1 ≤ ep) (he2 : ep ≤ 4611686018427387904) (ho : opOk s 16 ep tl = false) :
  Calls Tryz.prog 52 #[p, .agg #[.int .i64 64, .int .i64 16, .int .i64 1], .int .u64 (tl : Int), .int .u64 (ep : Int)] w (RetOpE 4 w) := by
 obtain ⟨D, _, _, _, hp, _⟩ := id hd; refine (wOpen_any D p 64 16 1 ep tl w hp hd may64 (by decide) ht he he2 (by omega) (by omega)).mono ?_; rintro e w' (⟨_, h⟩ | ⟨h, _⟩)
 · exact h
 ·
  rw [show ((16 : Int).toNat) = 16 from rfl, ho] at h
  cases h
theorem open2_no {G : Nat → Prop} {r : Value} {s : St} {ep tl : Nat} (w : World) (hd : Rf w G r s) (hn : s.ls.length = 64) (ht : tl ≤ 4611686018427387904) (he : 1 ≤ ep) (he2 : ep ≤ 4611686018427387904) (ho : opOk s 16 ep tl = false) :
  Calls Tryz.prog 53 #[r, .int .i64 16, .int .u64 (tl : Int), .int .u64 (ep : Int)] w (RetOpE 4 w) := by
 obtain ⟨D, _, _, _, hp, _⟩ := id hd; refine (rOpen_any D r 64 1 16 ep tl w hp hd may64 (by decide) ht he he2 (by omega)).mono ?_; rintro e w' (⟨_, h, g⟩ | ⟨h, _⟩)
 · exact ⟨h, g⟩
 ·
  rw [ho] at h
  cases h
theorem prB_made {w0 W2 V X Y w : World} {bp : Nat} {F G : Nat → Prop} {pd pw pl pm : Value} {s : St} {L : Lg} {b1 b2 : Nat} {q1 q2 : Option Addr} {m1 m2 c2 fr : Nat} {ys : List Int} (h5 : PrD w0 Y bp F G pd pw pl pm s)
  (h2 : PrD w0 W2 bp F G pd pw pl pm s) (g2 : Gr w W2) (h3 : PrD w0 V bp F G pd pw pl pm s) (g3 : Gr W2 V) (h4 : PrD w0 X bp F G pd pw pl pm s)
  (l1 : LgAt V b1 pd q1 m1 m1 L) (o1 : ∀ k, lgS b1 q1 k → W2.heap.size ≤ k) (l1x : LgAt X b1 pd q1 m1 m1 L) (l2 : RlAt X b2 pw q2 m2 c2 fr ys L) (o2 : ∀ k, lgS b2 q2 k → V.heap.size ≤ k) (hy : ys.length ≤ 20000) (g : Gr X Y) :
  PrB w0 ((Y.setCell ⟨bp, 2, none⟩ (.pointer (some ⟨b1, 0, none⟩))).setCell ⟨bp, 3, none⟩ (.pointer (some ⟨b2, 0, none⟩))) bp (wlS F b1 q1) (wlS G b2 q2) pd pw (.pointer (some ⟨b1, 0, none⟩)) (.pointer (some ⟨b2, 0, none⟩)) s L s L 20000 := by
 have hf := (h5.cell2 (some ⟨b1, 0, none⟩)).cell3 (some ⟨b2, 0, none⟩); have i1 := Only.cell bp 2 Y (.pointer (some ⟨b1, 0, none⟩)); have i2 := Only.cell bp 3 (Y.setCell ⟨bp, 2, none⟩ (.pointer (some ⟨b1, 0, none⟩))) (.pointer (some ⟨b2, 0, none⟩))
 have hk : ∀ k, k ≠ bp → ((Y.setCell ⟨bp, 2, none⟩ (.pointer (some ⟨b1, 0, none⟩))).setCell ⟨bp, 3, none⟩ (.pointer (some ⟨b2, 0, none⟩))).heap[k]? = Y.heap[k]? := fun k hk => (i2.block k hk).trans (i1.block k hk)
 have hs : Y.heap.size ≤ ((Y.setCell ⟨bp, 2, none⟩ (.pointer (some ⟨b1, 0, none⟩))).setCell ⟨bp, 3, none⟩ (.pointer (some ⟨b2, 0, none⟩))).heap.size := Nat.le_of_eq (i2.size.trans i1.size).symm; have b2l := h2.blk.lt; have b3l := h3.blk.lt; have s3 := g3.size; have s2 := h2.gr.size; refine ⟨hf.blk, ⟨F, b1, q1, m1, m1, rfl, ⟨hf.dk, (l1x.gr g).stays (fun k e => hk k (fun h => by have := o1 k e; omega)) hs, fun k hF e => ?_⟩, rfl⟩, ⟨G, b2, q2, m2, c2, fr, ys, rfl, hf.rf, (l2.gr g).stays (fun k e => hk k (fun h => by have := o2 k e; omega)) hs, fun k hG e => ?_, rfl, hy⟩, ?_, ?_, ?_, hf.gr, hf.lb, ?_, ?_⟩
 · have := h2.dk.low k hF; have := o1 k e; omega
 · have := h3.rf.low k hG; have := o2 k e; omega
 ·
  rintro k (hF | e1) (hG | e2)
  · exact h2.ap k hF hG
  · have := h2.dk.low k hF; have := o2 k e2; omega
  · have := h2.rf.low k hG; have := o1 k e1; omega
  · have := l1.low k e1; have := o2 k e2; omega
 ·
  rintro (hF | e1)
  · exact h2.nF hF
  · have := o1 _ e1; omega
 ·
  rintro (hG | e2)
  · exact h2.nG hG
  · have := o2 _ e2; omega
 ·
  rintro k (hF | e1)
  · exact h2.lF k hF
  · have := o1 k e1; omega
 ·
  rintro k (hG | e2)
  · exact h2.lG k hG
  · have := o2 k e2; omega
set_option maxRecDepth 100000 in
set_option maxHeartbeats 1000000 in
theorem popen_yes {w0 w : World} {bp : Nat} {F G : Nat → Prop} {pd pw pl pm : Value} {s : St} (h : PrD w0 w bp F G pd pw pl pm s) (hn : s.ls.length = 64) (ep tl : Nat) (ht : tl ≤ 4611686018427387904) (he : 1 ≤ ep) (he2 : ep ≤ 4611686018427387904) (ho : opOk s 16 ep tl = true) :
  Calls Tryz.prog 16 #[.pointer (some ⟨bp, 0, none⟩), .int .u64 (tl : Int), .int .u64 (ep : Int)] w (RetOpn w0 w bp F G pd pw s ep tl) := by
 have HP := Lib.hid h; have HM := Lib.hid (make64 w); have HN := Lib.hid hn; have HO := Lib.hid ho; have HBP := Lib.hid h.blk.lt; have g3 : ((ep : Int) == 0) = false := beq_eq_false_iff_ne.2 (by omega); have g4 : decide (4611686018427387904 < (ep : Int)) = false := decide_eq_false (by omega); have g5 : decide (4611686018427387904 < (tl : Int)) = false := decide_eq_false (by omega)
 have HO1 : Hid (∀ V, Dk V F pd s → Calls Tryz.prog 52 #[pd, .agg #[.int .i64 64, .int .i64 16, .int .i64 1], .int .u64 (tl : Int), .int .u64 (ep : Int)] V (RetO1 pd s ep tl V)) := Lib.hid fun V h => open1_yes V h hn ht he he2 ho
 have HO2 : Hid (∀ V, Rf V G pw s → Calls Tryz.prog 53 #[pw, .int .i64 16, .int .u64 (tl : Int), .int .u64 (ep : Int)] V (RetO2 pw s ep tl V)) := Lib.hid fun V h => open2_yes V h hn ht he he2 ho
 clear h hn ho ht he he2
 go_enter Tryz.func16, Tryz.ntmps16
 go_wp2_with fail; refine HM.out.mono ?_; rintro e W1 ⟨rfl, g1⟩; have HG1 := Lib.hid g1; clear g1 HM; go_wp2_with fail; obtain ⟨W2, hW2⟩ : ∃ W2, W2 = W1.alloc (.cells #[.int .i64 64, .int .i64 16, .int .i64 1] TSu) := ⟨_, rfl⟩; obtain ⟨U, hU⟩ : ∃ U, U = W1.heap.size := ⟨_, rfl⟩
 have HP2 : Hid (PrD w0 W2 bp F G pd pw pl pm s ∧ Gr w W2) := Lib.hid (by
  have g := Gr.trans HG1.out (Gr.new W1 (.cells #[.int .i64 64, .int .i64 16, .int .i64 1] TSu)); rw [hW2]
  exact ⟨HP.out.up g, g⟩)
 have HB2 : Hid (∀ V, Gr W2 V → Blk V U TSu #[.int .i64 64, .int .i64 16, .int .i64 1]) := Lib.hid fun V g => by
  have h := Blk.new W1 TSu #[.int .i64 64, .int .i64 16, .int .i64 1]
  rw [← hW2, ← hU] at h
  exact h.gr g
 rw [← hW2, ← hU]; clear hW2 hU HG1 HP; have d0 := HP2.out.1.blk.cell 0; obtain ⟨e0, e1, e2⟩ := (HB2.out W2 (Gr.refl _)).c3.1
 simp at d0
 have HO1d := Lib.hid (HO1.out W2.drew (HP2.out.1.up ((Gr.refl W2).drew)).dk)
 go_region_held3 (fun V => V.cell? ⟨bp, 0, none⟩ = some pd ∧ V.cell? ⟨U, 0, none⟩ = some (.int .i64 64) ∧ V.cell? ⟨U, 1, none⟩ = some (.int .i64 16) ∧ V.cell? ⟨U, 2, none⟩ = some (.int .i64 1)) (first | exact ⟨d0, e0, e1, e2⟩ | exact ⟨d1, f0, f1, f2⟩) (first | (go_at_call 52; refine HO1d.out.mono ?_; rintro e V ⟨b1, v1, K1, q1, m1, rfl, hr1, hm1, hl1, hs1, gV⟩; have hG2 := Gr.trans ((Gr.refl W2).drew) gV; have HP3 : Hid (PrD w0 V bp F G pd pw pl pm s ∧ Gr w V) := Lib.hid ⟨HP2.out.1.up hG2, Gr.trans HP2.out.2 hG2⟩; have d1 := HP3.out.1.blk.cell 0; simp at d1; obtain ⟨f0, f1, f2⟩ := (HB2.out V hG2).c3.1; have HR1 : Hid (OwnR ShL V w.heap.size TLd v1 K1 ∧ K1.map LX3 = logT tl (opX s 16 ep tl)) := Lib.hid ⟨hr1.base_le HP2.out.2.size, hm1⟩; have HL1 : Hid (LgAt V b1 pd q1 m1 m1 (opL s 64 16 1 ep tl) ∧ ∀ k, lgS b1 q1 k → W2.heap.size ≤ k) := Lib.hid ⟨hl1, hs1⟩; have HBV : Hid (Gr W2 V) := Lib.hid hG2))
 clear d0 e0 e1 e2 hr1 hm1 hl1 hs1 gV hG2 f0 f2 d1 HO1d HO1; have d1 := HP3.out.1.blk.cell 1
 simp at d1
 have HO2d := Lib.hid (HO2.out V.drew (HP3.out.1.up ((Gr.refl V).drew)).rf); go_wp2_with fail
 go_region_held3 (fun V => V.cell? ⟨bp, 1, none⟩ = some pw ∧ V.cell? ⟨U, 1, none⟩ = some (.int .i64 16)) (first | exact ⟨d1, f1⟩ | exact ⟨d3, f3⟩) (first | (go_at_call 53; refine HO2d.out.mono ?_; rintro e X ⟨b2, v2, K2, q2, m2, c2, fr, ys, rfl, hr2, hm2, hl2, hs2, gX, hys⟩; have hG3 := Gr.trans ((Gr.refl V).drew) gX; have HP4 : Hid (PrD w0 X bp F G pd pw pl pm s ∧ Gr w X) := Lib.hid ⟨HP3.out.1.up hG3, Gr.trans HP3.out.2 hG3⟩; have d3 := HP4.out.1.blk.cell 1; simp at d3; have f3 := (HB2.out X (Gr.trans HBV.out hG3)).c3.1.2.1; have HR2 : Hid (OwnR ShL X w.heap.size TLd v2 K2 ∧ K2.map LX3 = logT tl (opX s 16 ep tl) ∧ OwnR ShL X w.heap.size TLd v1 K1) := Lib.hid ⟨hr2.base_le HP3.out.2.size, hm2, HR1.out.1.gr hG3⟩; have HL2 : Hid (RlAt X b2 pw q2 m2 c2 fr ys (opL s 64 16 1 ep tl) ∧ (∀ k, lgS b2 q2 k → V.heap.size ≤ k) ∧ LgAt X b1 pd q1 m1 m1 (opL s 64 16 1 ep tl) ∧ ys.length ≤ 20000) := Lib.hid ⟨hl2, hs2, HL1.out.1.gr hG3, hys⟩; have HS := Lib.hid (sameLg_any v1 v2 K1 K2 X HR2.out.2.2 HR2.out.1 (by rw [HR1.out.2, HR2.out.2.1]) (by have h1 := congrArg List.length HR1.out.2; rw [List.length_map, logT_len] at h1; have h2 := opX_len s 16 ep tl; omega))))
 clear hr2 hm2 hl2 hs2 gX hG3 d1 d3 f1 f3 HO2d HO2 hys; go_wp2_with fail; refine HS.out.mono ?_; rintro e Y ⟨rfl, gY⟩; have HP5 : Hid (PrD w0 Y bp F G pd pw pl pm s) := Lib.hid (HP4.out.1.up gY)
 have HF : Hid (RetOpn w0 w bp F G pd pw s ep tl (.returned (.tuple #[v1, .bool true])) ((Y.setCell ⟨bp, 2, none⟩ (.pointer (some ⟨b1, 0, none⟩))).setCell ⟨bp, 3, none⟩ (.pointer (some ⟨b2, 0, none⟩)))) :=
  Lib.hid ⟨((KeepB.gr (Gr.trans HP4.out.2 gY)).trans (KeepB.cell 2 _ _)).trans (KeepB.cell 3 _ _), .inr ⟨HO.out, v1, K1, _, _, _, _, rfl, (((HR2.out.2.2.gr gY).cell HP5.out.blk HBP.out HP5.out.u8 2 _).cell (HP5.out.cell2 _).blk HBP.out (HP5.out.cell2 _).u8 3 _), HR1.out.2, prB_made (HP5.out) HP2.out.1 HP2.out.2 HP3.out.1 HBV.out HP4.out.1 HL1.out.1 HL1.out.2 HL2.out.2.2.1 HL2.out.1 HL2.out.2.1 HL2.out.2.2.2 gY⟩⟩
 have c2 := HP5.out.blk.cell 2; have c3 := HP5.out.blk.cell 3
 simp at c2 c3
 have f2 := HP5.out.blk.frozen 2; have f3 := HP5.out.blk.frozen 3; clear gY HS; go_wp2_with fail
 go_ret2
 exact HF.out
set_option maxRecDepth 100000 in
set_option maxHeartbeats 1000000 in
theorem popen_no {w0 w : World} {bp : Nat} {F G : Nat → Prop} {pd pw pl pm : Value} {s : St} (h : PrD w0 w bp F G pd pw pl pm s) (hn : s.ls.length = 64) (ep tl : Nat) (ht : tl ≤ 4611686018427387904) (he : 1 ≤ ep) (he2 : ep ≤ 4611686018427387904) (ho : opOk s 16 ep tl = false) :
  Calls Tryz.prog 16 #[.pointer (some ⟨bp, 0, none⟩), .int .u64 (tl : Int), .int .u64 (ep : Int)] w (RetOpn w0 w bp F G pd pw s ep tl) := by
 have HP := Lib.hid h; have HM := Lib.hid (make64 w); have HN := Lib.hid hn; have HO := Lib.hid ho; have HBP := Lib.hid h.blk.lt; have g3 : ((ep : Int) == 0) = false := beq_eq_false_iff_ne.2 (by omega); have g4 : decide (4611686018427387904 < (ep : Int)) = false := decide_eq_false (by omega); have g5 : decide (4611686018427387904 < (tl : Int)) = false := decide_eq_false (by omega)
 have HO1 : Hid (∀ V, Dk V F pd s → Calls Tryz.prog 52 #[pd, .agg #[.int .i64 64, .int .i64 16, .int .i64 1], .int .u64 (tl : Int), .int .u64 (ep : Int)] V (RetOpE 4 V)) := Lib.hid fun V h => open1_no V h hn ht he he2 ho
 have HO2 : Hid (∀ V, Rf V G pw s → Calls Tryz.prog 53 #[pw, .int .i64 16, .int .u64 (tl : Int), .int .u64 (ep : Int)] V (RetOpE 4 V)) := Lib.hid fun V h => open2_no V h hn ht he he2 ho
 clear h hn ho ht he he2
 go_enter Tryz.func16, Tryz.ntmps16
 go_wp2_with fail; refine HM.out.mono ?_; rintro e W1 ⟨rfl, g1⟩; have HG1 := Lib.hid g1; clear g1 HM; go_wp2_with fail; obtain ⟨W2, hW2⟩ : ∃ W2, W2 = W1.alloc (.cells #[.int .i64 64, .int .i64 16, .int .i64 1] TSu) := ⟨_, rfl⟩; obtain ⟨U, hU⟩ : ∃ U, U = W1.heap.size := ⟨_, rfl⟩
 have HP2 : Hid (PrD w0 W2 bp F G pd pw pl pm s ∧ Gr w W2) := Lib.hid (by
  have g := Gr.trans HG1.out (Gr.new W1 (.cells #[.int .i64 64, .int .i64 16, .int .i64 1] TSu)); rw [hW2]
  exact ⟨HP.out.up g, g⟩)
 have HB2 : Hid (∀ V, Gr W2 V → Blk V U TSu #[.int .i64 64, .int .i64 16, .int .i64 1]) := Lib.hid fun V g => by
  have h := Blk.new W1 TSu #[.int .i64 64, .int .i64 16, .int .i64 1]
  rw [← hW2, ← hU] at h
  exact h.gr g
 rw [← hW2, ← hU]; clear hW2 hU HG1 HP; have d0 := HP2.out.1.blk.cell 0; obtain ⟨e0, e1, e2⟩ := (HB2.out W2 (Gr.refl _)).c3.1
 simp at d0
 have HO1d := Lib.hid (HO1.out W2.drew (HP2.out.1.up ((Gr.refl W2).drew)).dk)
 go_region_held3 (fun V => V.cell? ⟨bp, 0, none⟩ = some pd ∧ V.cell? ⟨U, 0, none⟩ = some (.int .i64 64) ∧ V.cell? ⟨U, 1, none⟩ = some (.int .i64 16) ∧ V.cell? ⟨U, 2, none⟩ = some (.int .i64 1)) (first | exact ⟨d0, e0, e1, e2⟩ | exact ⟨d1, f0, f1, f2⟩) (first | (go_at_call 52; refine HO1d.out.mono ?_; rintro e V ⟨rfl, gV⟩; have hG2 := Gr.trans ((Gr.refl W2).drew) gV; have HP3 : Hid (PrD w0 V bp F G pd pw pl pm s ∧ Gr w V) := Lib.hid ⟨HP2.out.1.up hG2, Gr.trans HP2.out.2 hG2⟩; have d1 := HP3.out.1.blk.cell 0; simp at d1; obtain ⟨f0, f1, f2⟩ := (HB2.out V hG2).c3.1; have HBV : Hid (Gr W2 V) := Lib.hid hG2))
 clear d0 e0 e1 e2 gV hG2 f0 f2 d1 HO1d HO1; have d1 := HP3.out.1.blk.cell 1
 simp at d1
 have HO2d := Lib.hid (HO2.out V.drew (HP3.out.1.up ((Gr.refl V).drew)).rf); go_wp2_with fail
 go_region_held3 (fun V => V.cell? ⟨bp, 1, none⟩ = some pw ∧ V.cell? ⟨U, 1, none⟩ = some (.int .i64 16)) (first | exact ⟨d1, f1⟩ | exact ⟨d3, f3⟩) (first | (go_at_call 53; refine HO2d.out.mono ?_; rintro e X ⟨rfl, gX⟩; have hG3 := Gr.trans ((Gr.refl V).drew) gX; have HP4 : Hid (PrD w0 X bp F G pd pw pl pm s ∧ Gr w X) := Lib.hid ⟨HP3.out.1.up hG3, Gr.trans HP3.out.2 hG3⟩; have d3 := HP4.out.1.blk.cell 1; simp at d3; have f3 := (HB2.out X (Gr.trans HBV.out hG3)).c3.1.2.1; have HS := Lib.hid (sameLg_any (.slice none 0 0) (.slice none 0 0) [] [] X (OwnR.nil _ _ X.heap.size _) (OwnR.nil _ _ X.heap.size _) rfl (by decide))))
 clear gX hG3 d1 d3 f1 f3 HO2d HO2; go_wp2_with fail; refine HS.out.mono ?_; rintro e Y ⟨rfl, gY⟩; have HP5 : Hid (PrD w0 Y bp F G pd pw pl pm s) := Lib.hid (HP4.out.1.up gY)
 have HF : Hid (RetOpn w0 w bp F G pd pw s ep tl (.returned (.tuple #[.slice none 0 0, .bool true])) ((Y.setCell ⟨bp, 2, none⟩ (.pointer none)).setCell ⟨bp, 3, none⟩ (.pointer none))) :=
  Lib.hid ⟨((KeepB.gr (Gr.trans HP4.out.2 gY)).trans (KeepB.cell 2 _ _)).trans (KeepB.cell 3 _ _), .inl ⟨HO.out, rfl, (HP5.out.cell2 none).cell3 none⟩⟩
 have c2 := HP5.out.blk.cell 2; have c3 := HP5.out.blk.cell 3
 simp at c2 c3
 have f2 := HP5.out.blk.frozen 2; have f3 := HP5.out.blk.frozen 3; clear gY HS; go_wp2_with fail
 go_ret2
 exact HF.out
theorem popen_any {w0 w : World} {bp : Nat} {F G : Nat → Prop} {pd pw pl pm : Value} {s : St} (h : PrD w0 w bp F G pd pw pl pm s) (hn : s.ls.length = 64) (ep tl : Nat) (ht : tl ≤ 4611686018427387904) (he : 1 ≤ ep) (he2 : ep ≤ 4611686018427387904) :
  Calls Tryz.prog 16 #[.pointer (some ⟨bp, 0, none⟩), .int .u64 (tl : Int), .int .u64 (ep : Int)] w (RetOpn w0 w bp F G pd pw s ep tl) := by
 cases ho : opOk s 16 ep tl with
 | false => exact popen_no h hn ep tl ht he he2 ho
 | true => exact popen_yes h hn ep tl ht he he2 ho
end Go.Proofs.YtlijbgapkmfnaaaGreat
namespace Go.Proofs.YtlijbgapkmfnaaaGreat
open Go.RowKit Go.Maps
set_option maxRecDepth 100000 in
set_option maxHeartbeats 1000000 in
theorem popen_bad {w0 w : World} {bp : Nat} {F G : Nat → Prop} {pd pw pl pm : Value} {s : St} (h : PrD w0 w bp F G pd pw pl pm s) (hn : s.ls.length = 64) (ep tl : Nat) (hbad : ep = 0 ∨ 4611686018427387904 < ep ∨ 4611686018427387904 < tl) :
  Calls Tryz.prog 16 #[.pointer (some ⟨bp, 0, none⟩), .int .u64 (tl : Int), .int .u64 (ep : Int)] w (fun e w' => e = .returned (.tuple #[.slice none 0 0, .bool true]) ∧ Gr w w') := by
 have HP := Lib.hid h; have HM := Lib.hid (make64 w)
 have HO1 : Hid (∀ V, Gr w V → Calls Tryz.prog 52 #[pd, .agg #[.int .i64 64, .int .i64 16, .int .i64 1], .int .u64 (tl : Int), .int .u64 (ep : Int)] V (RetOpE 2 V)) := Lib.hid fun V g => wOpen_no pd 64 16 1 ep tl 64 V may64 (fun W gW => by
  have hS := Sectors_any W ((h.dk.gr g).gr gW)
  rw [hn] at hS
  exact hS) (.inr hbad)
 have HB := Lib.hid hbad; clear h hn hbad
 go_enter Tryz.func16, Tryz.ntmps16
 go_wp2_with fail; refine HM.out.mono ?_; rintro e W1 ⟨rfl, g1⟩; have HG1 := Lib.hid g1; clear g1 HM; go_wp2_with fail; obtain ⟨W2, hW2⟩ : ∃ W2, W2 = W1.alloc (.cells #[.int .i64 64, .int .i64 16, .int .i64 1] TSu) := ⟨_, rfl⟩; obtain ⟨U, hU⟩ : ∃ U, U = W1.heap.size := ⟨_, rfl⟩
 have HP2 : Hid (PrD w0 W2 bp F G pd pw pl pm s ∧ Gr w W2) := Lib.hid (by
  have g := Gr.trans HG1.out (Gr.new W1 (.cells #[.int .i64 64, .int .i64 16, .int .i64 1] TSu)); rw [hW2]
  exact ⟨HP.out.up g, g⟩)
 have HB2 : Hid (∀ V, Gr W2 V → Blk V U TSu #[.int .i64 64, .int .i64 16, .int .i64 1]) := Lib.hid fun V g => by
  have h := Blk.new W1 TSu #[.int .i64 64, .int .i64 16, .int .i64 1]
  rw [← hW2, ← hU] at h
  exact h.gr g
 rw [← hW2, ← hU]; clear hW2 hU HG1 HP; have d0 := HP2.out.1.blk.cell 0; obtain ⟨e0, e1, e2⟩ := (HB2.out W2 (Gr.refl _)).c3.1
 simp at d0
 have HO1d := Lib.hid (HO1.out W2.drew (Gr.trans HP2.out.2 ((Gr.refl W2).drew)))
 go_region_held3 (fun V => V.cell? ⟨bp, 0, none⟩ = some pd ∧ V.cell? ⟨U, 0, none⟩ = some (.int .i64 64) ∧ V.cell? ⟨U, 1, none⟩ = some (.int .i64 16) ∧ V.cell? ⟨U, 2, none⟩ = some (.int .i64 1)) (first | exact ⟨d0, e0, e1, e2⟩ | exact ⟨d1, f0, f1, f2⟩) (first | (go_at_call 52; refine HO1d.out.mono ?_; rintro e V ⟨rfl, gV⟩; have hG2 := Gr.trans ((Gr.refl W2).drew) gV; have HP3 : Hid (PrD w0 V bp F G pd pw pl pm s ∧ Gr w V) := Lib.hid ⟨HP2.out.1.up hG2, Gr.trans HP2.out.2 hG2⟩; have d1 := HP3.out.1.blk.cell 0; simp at d1; obtain ⟨f0, f1, f2⟩ := (HB2.out V hG2).c3.1))
 clear d0 e0 e1 e2 gV hG2 f0 f1 f2 d1 HO1d HO1 HP2 HB2
 by_cases h0 : ep = 0
 ·
  have g3 : ((ep : Int) == 0) = true := by rw [h0]; rfl
  clear h0; go_wp2_with fail
  go_ret2
  exact ⟨rfl, HP3.out.2⟩
 ·
  have g3 : ((ep : Int) == 0) = false := beq_eq_false_iff_ne.2 (by omega)
  by_cases h1 : 4611686018427387904 < ep
  ·
   have g4 : decide (4611686018427387904 < (ep : Int)) = true := decide_eq_true (by omega); clear h0 h1; go_wp2_with fail
   go_ret2
   exact ⟨rfl, HP3.out.2⟩
  ·
   have g4 : decide (4611686018427387904 < (ep : Int)) = false := decide_eq_false (by omega); have g5 : decide (4611686018427387904 < (tl : Int)) = true := decide_eq_true (by have := HB.out; omega); clear h0 h1; go_wp2_with fail
   go_ret2
   exact ⟨rfl, HP3.out.2⟩
end Go.Proofs.YtlijbgapkmfnaaaGreat
namespace Go.Proofs.YtlijbgapkmfnaaaGreat
open Go.RowKit Go.Maps Cr
theorem secN_Sx {xs : List Int} (h : IsSec xs) : secN (Sx xs) = xs := (Sx_inj (secN_sec _) h).1 (Sx_secN _)
def zeroD : St := fresh (List.replicate 64 Sec.zero)
def newL (n l g : Int) (ep tl : Nat) : Lg := { n, l, g, epoch := ep, tail := tl, lasts := tl, txt := [], rsv := 0, begun := false }
theorem manyX_zero : manyX (List.replicate 256 0) = 0 := by
 have h : sub (List.replicate 256 (0 : Int)) 16 4 = List.replicate 4 0 := by
  unfold sub
  rw [List.drop_replicate, List.take_replicate]
  rfl
 unfold manyX atR
 rw [h]
 split <;> rfl
theorem bytX_zero : bytX (List.replicate 256 0) = [] := by unfold bytX; rw [manyX_zero]; rfl
theorem nw_fresh (ls : List Sec) (i : Nat) : (fresh ls).nw i = ls.getD i Sec.zero := rfl
theorem foundL_stop {rd : Nat → List Int} {l ep f k ls : Nat} (h1 : manyX (rd (3 + k % l)) < 232) (h2 : bytX (rd (3 + k % l)) = []) : foundL rd l ep (f + 1) k ls = [] := by
 unfold foundL
 rw [if_pos h1, h2]
 split <;> rfl
theorem opB_zero (l ep : Nat) : opB zeroD (l + 1) ep 0 = [] := by
 unfold opB
 have h : ∀ i, secN (zeroD.nw i) = List.replicate 256 0 := fun i => by
  have h1 : zeroD.nw i = Sec.zero := by
   unfold zeroD
   rw [nw_fresh]
   unfold List.getD
   by_cases hi : i < 64
   · rw [List.getElem?_replicate, if_pos hi]; rfl
   · rw [List.getElem?_replicate, if_neg hi]; rfl
  rw [h1, ← Sx_zero]; exact secN_Sx zeros_sec
 exact foundL_stop (by rw [h, manyX_zero]; decide) (by rw [h, bytX_zero])
theorem opX_zero (l ep : Nat) : opX zeroD (l + 1) ep 0 = [] := by unfold opX; rw [opB_zero]; rfl
theorem opL_zero (n g : Int) (ep l : Nat) : opL zeroD n ((l + 1 : Nat) : Int) g ep 0 = newL n ((l + 1 : Nat) : Int) g ep 0 := by
 unfold opL opN opT
 rw [Int.toNat_natCast, opX_zero, opB_zero]
 simp [newL, endL]
theorem opOk_zero (l ep : Nat) : opOk zeroD (l + 1) ep 0 = true := by unfold opOk; simp
def noteR (t n : Nat) : Rc := ⟨1, t, 0, 0, 40, 0, List.replicate n 0, List.replicate n 0⟩
theorem noteR_in (t n : Nat) (ht : t ≤ 18446744073709551615) : (noteR t n).In := ⟨ht, by simp [noteR], by simp [noteR], (fun x hx => by simp [noteR] at hx; omega), fun x hx => by simp [noteR] at hx; omega⟩
theorem noteR_may (t n : Nat) (ht : 0 < t) (hn : 1 ≤ n) (hn2 : n ≤ 248) : mayR (noteR t n) = true := by
 unfold mayR
 rw [mayQ_iff]; refine ⟨by show t ≠ 0; omega, .inl ⟨rfl, rfl, by simp [noteR], by show (0 : Int) ≤ 40; omega, by show (40 : Int) < 4096; omega, by simp [noteR]; omega, by show (0 : Int) ≤ 0; omega, by simp [noteR]; omega⟩⟩
theorem noteR_len (t n a : Nat) : (recL (noteR t n) a).length = 35 + n + n := by rw [recL_len]; simp [noteR]
def twoB : List Int := recL (noteR 1 3) 0 ++ recL (noteR 2 5) 41
theorem twoB_len : twoB.length = 86 := by unfold twoB; rw [List.length_append, noteR_len, noteR_len]
theorem twoB_small : Wd.Small twoB := (recL_small (noteR_in _ _ (by decide)) _).app (recL_small (noteR_in _ _ (by decide)) _)
def twoL (g : Int) : Lg := { newL 64 16 g 1 0 with txt := twoB }
theorem newL_fin (n l g : Int) (ep : Nat) : (newL n l g ep 0).fin = 0 := rfl
theorem newL_more (n l g : Int) (ep : Nat) (xs ys : List Int) : ({ newL n l g ep 0 with txt := xs } : Lg).more ys = { newL n l g ep 0 with txt := xs ++ ys } := rfl
theorem newL_nil (n l g : Int) (ep : Nat) : newL n l g ep 0 = { newL n l g ep 0 with txt := [] } := rfl
theorem newL_with_fin (n l g : Int) (ep : Nat) (xs : List Int) : ({ newL n l g ep 0 with txt := xs } : Lg).fin = xs.length := by
 show 0 - 0 % 232 + xs.length = xs.length
 omega
theorem newL_with_free (g : Int) (ep : Nat) (xs : List Int) : ({ newL 64 16 g ep 0 with txt := xs } : Lg).free = freeR 16 0 0 xs.length := by
 unfold Lg.free
 rw [newL_with_fin]
 rfl
theorem two_lay (g : Int) : layE (noteR 1 3) (newL 64 16 g 1 0).free = 0 ∧ layA (newL 64 16 g 1 0) (noteR 1 3) (newL 64 16 g 1 0).free = 0 ∧
  layE (noteR 2 5) (layL (newL 64 16 g 1 0) (noteR 1 3) (newL 64 16 g 1 0).free).free = 0 ∧ layA (layL (newL 64 16 g 1 0) (noteR 1 3) (newL 64 16 g 1 0).free) (noteR 2 5) (layL (newL 64 16 g 1 0) (noteR 1 3) (newL 64 16 g 1 0).free).free = 41 ∧
  layL (layL (newL 64 16 g 1 0) (noteR 1 3) (newL 64 16 g 1 0).free) (noteR 2 5) (layL (newL 64 16 g 1 0) (noteR 1 3) (newL 64 16 g 1 0).free).free = twoL g := by
 have f0 : (newL 64 16 g 1 0).free = 3480 := by
  rw [newL_nil, newL_with_free]
  decide
 have e0 : layE (noteR 1 3) 3480 = 0 := by unfold layE; rw [if_pos (noteR_may 1 3 (by decide) (by decide) (by decide)), if_neg (by simp [noteR])]
 have l0 : layL (newL 64 16 g 1 0) (noteR 1 3) 3480 = { newL 64 16 g 1 0 with txt := recL (noteR 1 3) 0 } := by
  unfold layL
  rw [if_pos e0, newL_fin]; exact newL_more 64 16 g 1 [] _
 have fin1 : ({ newL 64 16 g 1 0 with txt := recL (noteR 1 3) 0 } : Lg).fin = 41 := by rw [newL_with_fin, noteR_len]
 have f1 : ({ newL 64 16 g 1 0 with txt := recL (noteR 1 3) 0 } : Lg).free = 3439 := by
  rw [newL_with_free, noteR_len]
  decide
 have e1 : layE (noteR 2 5) 3439 = 0 := by unfold layE; rw [if_pos (noteR_may 2 5 (by decide) (by decide) (by decide)), if_neg (by simp [noteR])]
 rw [f0, l0, f1]; refine ⟨e0, ?_, e1, ?_, ?_⟩
 · unfold layA; rw [if_pos e0, newL_fin]
 · unfold layA; rw [if_pos e1, fin1]
 ·
  unfold layL
  rw [if_pos e1, fin1, newL_more]
  unfold twoL twoB
  exact Eq.refl _
theorem twoL_fin (g : Int) : (twoL g).fin = 86 := by
 unfold twoL
 rw [newL_with_fin, twoB_len]
theorem two_flush (g : Int) : flE zeroD (twoL g) 86 = 0 ∧ (flL zeroD (twoL g) 86).lasts = 86 ∧ (flL zeroD (twoL g) 86).fin = 86 ∧ (flL zeroD (twoL g) 86).l = 16 ∧ (flL zeroD (twoL g) 86).tail = 0 ∧ (flL zeroD (twoL g) 86).rsv = 0 ∧
  (flS zeroD (twoL g) 86).ls.length = 64 ∧ (flS zeroD (twoL g) 86).nw 3 = Sx (secL 0 1 twoB) ∧ (∀ i, (flS zeroD (twoL g) 86).t i = []) ∧ (flS zeroD (twoL g) 86).writes = 2 ∧ ((flS zeroD (twoL g) 86).crash []).nw 3 = Sx (secL 0 1 twoB) := by
 have hf := twoL_fin g
 have h1 : ¬ (twoL g).fin < 86 := by omega
 have h2 : ¬ 86 ≤ (twoL g).lasts := by show ¬ 86 ≤ 0; omega
 have hr0 : ¬ zeroD.refuses := by unfold zeroD fresh St.refuses; simp
 have hbE : begE zeroD (twoL g) = 0 := by
  unfold begE putDE
  rw [if_neg hr0]
  rfl
 have hbL : begL zeroD (twoL g) = { twoL g with begun := true } := by
  unfold begL
  rw [if_neg hr0]
  rfl
 obtain ⟨s1, hs1⟩ : ∃ s1, s1 = begS zeroD (twoL g) := ⟨_, rfl⟩
 have hbS : s1 = ((zeroD.wrote 3 (begX (twoL g))).barrier) := by
  have hbI : begI (twoL g) = 3 := by
   show 3 + 0 / 232 % (16 : Int).toNat = 3
   decide
  have hdd : (zeroD.wrote 3 (begX (twoL g))).dead = false := rfl; rw [hs1]
  unfold begS putD BaS
  rw [if_neg (show ¬ (twoL g).begun = true from fun e => Bool.noConfusion e), if_neg hr0, if_neg hr0, hbI, hdd]; exact if_neg (fun e => Bool.noConfusion e)
 have hr1 : ¬ s1.refuses := by
  rw [hbS]
  unfold St.refuses St.barrier St.wrote zeroD fresh
  simp
 have hl1 : s1.ls.length = 64 := by rw [hbS]; simp [St.barrier, St.wrote, zeroD, fresh]
 have ht1 : ∀ i, s1.t i = [] := fun i => by rw [hbS]; rfl
 have hw1 : s1.writes = 1 := by rw [hbS]; rfl
 have hd1 : s1.dead = false := by rw [hbS]; rfl
 have hch : chN (twoL g).txt.length = 1 := by
  show chN twoB.length = 1
  rw [twoB_len]
  rfl
 have hwX : wrX { twoL g with begun := true } 0 = Sx (secL 0 1 twoB) := by
  unfold wrX
  show Sx (secL (0 / 232 + 0) 1 ((twoB.drop (232 * 0)).take 232)) = _
  rw [Nat.mul_zero, List.drop_zero, List.take_of_length_le (by rw [twoB_len]; omega)]
 have hwA : wrAll { twoL g with begun := true } 1 0 s1 = ((s1.wrote 3 (Sx (secL 0 1 twoB))).barrier, 0) := by
  unfold wrAll
  rw [if_neg hr1, hwX]
  unfold wrAll BaS BaE
  have hd : (s1.wrote (wrI { twoL g with begun := true } 0) (Sx (secL 0 1 twoB))).dead = false := hd1
  have hwI : wrI { twoL g with begun := true } 0 = 3 := by
   show 3 + (0 / 232 + 0) % (16 : Int).toNat = 3
   decide
  rw [hd, hwI, if_neg (fun e => Bool.noConfusion e), if_neg (fun e => Bool.noConfusion e)]
 have hS : flS zeroD (twoL g) 86 = (s1.wrote 3 (Sx (secL 0 1 twoB))).barrier := by
  unfold flS
  rw [if_neg h1, if_neg h2, if_neg (fun e => e hbE), ← hs1, hbL, hch, hwA]
 have hE : flE zeroD (twoL g) 86 = 0 := by
  unfold flE
  rw [if_neg h1, if_neg h2, if_neg (fun e => e hbE), ← hs1, hbL, hch, hwA]
 have hL : flL zeroD (twoL g) 86 = ({ twoL g with begun := true } : Lg).done := by
  unfold flL
  rw [if_neg h1, if_neg h2, if_neg (fun e => e hbE), ← hs1, hbL, hch, hwA]; rw [if_neg (fun e => e rfl)]
 have hnw : ((s1.wrote 3 (Sx (secL 0 1 twoB))).barrier).nw 3 = Sx (secL 0 1 twoB) := by
  have hlen : (s1.wrote 3 (Sx (secL 0 1 twoB))).ls.length = 64 := hl1
  unfold St.barrier St.nw
  rw [hlen]
  show (((List.range 64).map fun i => ((s1.wrote 3 (Sx (secL 0 1 twoB))).t i).getLastD ((s1.wrote 3 (Sx (secL 0 1 twoB))).ls.getD i Sec.zero)).getD 3 Sec.zero) = _
  rw [List.getD_eq_getElem?_getD, List.getElem?_map, List.getElem?_range (by omega)]
  simp only [Option.map_some, Option.getD_some]
  unfold St.wrote
  simp
 have hfd : ({ twoL g with begun := true } : Lg).done.fin = 86 := by
  show ({ twoL g with begun := true } : Lg).fin - ({ twoL g with begun := true } : Lg).fin % 232 + (twoB.drop (twoB.length - ({ twoL g with begun := true } : Lg).fin % 232)).length = 86
  have : ({ twoL g with begun := true } : Lg).fin = 86 := hf; rw [this, List.length_drop, twoB_len]
 rw [hE, hL, hS]; refine ⟨rfl, hf, hfd, rfl, rfl, rfl, by simp [St.barrier, St.wrote, hl1], hnw, fun i => rfl, by show s1.writes + 1 = 2; rw [hw1], ?_⟩
 have hlb : ((s1.wrote 3 (Sx (secL 0 1 twoB))).barrier).ls.length = 64 := by simp [St.barrier, St.wrote, hl1]
 unfold St.crash
 rw [nw_fresh, hlb, List.getD_eq_getElem?_getD, List.getElem?_map, List.getElem?_range (by omega)]
 simp only [Option.map_some, Option.getD_some]
 unfold St.chosen
 have ht : ((s1.wrote 3 (Sx (secL 0 1 twoB))).barrier).t 3 = [] := rfl; rw [ht]
 simp only [List.length_nil, Nat.zero_add, Nat.mod_one]
 exact hnw
theorem two_found (s : St) (h : s.nw 3 = Sx (secL 0 1 twoB)) : opB s 16 2 0 = twoB ∧ opX s 16 2 0 = [(41, noteR 1 3), (86, noteR 2 5)] ∧ opOk s 16 2 0 = true := by
 have hsec : IsSec (secL 0 1 twoB) := secL_sec (by rw [twoB_len]; omega) twoB_small; obtain ⟨h1, h2, h3, h4, h5⟩ := secL_says (k := 0) (ep := 1) (b := twoB) (by decide) (by decide) (by rw [twoB_len]; omega)
 have hB : opB s 16 2 0 = twoB := by
  unfold opB
  show foundL (fun i => secN (s.nw i)) 16 2 16 0 1 = twoB
  unfold foundL
  show (if okX (secN (s.nw 3)) = true ∧ numX (secN (s.nw 3)) = 0 ∧ epX (secN (s.nw 3)) ≤ 2 ∧ 1 ≤ epX (secN (s.nw 3)) then bytX (secN (s.nw 3)) ++ (if manyX (secN (s.nw 3)) < 232 then [] else _) else []) = twoB
  rw [h, secN_Sx hsec, h3, h4, h5, if_pos ⟨h1, h2, by decide, by decide⟩, if_pos (by rw [twoB_len]; omega), List.append_nil]
 refine ⟨hB, ?_, by unfold opOk; simp⟩
 unfold opX
 rw [hB]
 show allL (twoB.drop 0) 0 = _
 rw [List.drop_zero]
 have e1 : onW 0 (recL (noteR 1 3) 0).length = 41 := by rw [noteR_len]; rfl
 have e2 : onW 41 (recL (noteR 2 5) 41).length = 86 := by rw [noteR_len]; rfl
 have e3 : strL [noteR 1 3, noteR 2 5] 0 = twoB := by
  show recL (noteR 1 3) 0 ++ (recL (noteR 2 5) (onW 0 (recL (noteR 1 3) 0).length) ++ []) = twoB
  rw [e1, List.append_nil]
  rfl
 have h6 := allL_str [noteR 1 3, noteR 2 5] 0 [] (fun r hr => by
  rcases List.mem_cons.1 hr with rfl | hr
  · exact ⟨noteR_may 1 3 (by decide) (by decide) (by decide), noteR_in _ _ (by decide)⟩
  ·
   rcases List.mem_cons.1 hr with rfl | hr
   · exact ⟨noteR_may 2 5 (by decide) (by decide) (by decide), noteR_in _ _ (by decide)⟩
   · cases hr) (by decide)
 rw [List.append_nil, e3] at h6
 rw [h6]
 show [(onW 0 (recL (noteR 1 3) 0).length, noteR 1 3), (onW (onW 0 (recL (noteR 1 3) 0).length) (recL (noteR 2 5) (onW 0 (recL (noteR 1 3) 0).length)).length, noteR 2 5)] = _
 rw [e1, e2]
end Go.Proofs.YtlijbgapkmfnaaaGreat
