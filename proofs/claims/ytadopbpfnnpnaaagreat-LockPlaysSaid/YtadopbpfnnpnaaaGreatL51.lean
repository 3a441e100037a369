/-
  Texts on locks, put together: LkPlay4.
-/
import Derived.RangeFuncLeaves
import Derived.Deep.RegionHeld3
import Derived.IntWalk
import Derived.Test.YtadopbpfnnpnaaaGreatL48
import Derived.Test.YtadopbpfnnpnaaaGreatL49
import Derived.Test.YtadopbpfnnpnaaaGreatL50
set_option linter.unusedVariables false
set_option linter.unusedSimpArgs false
/-
  The law LockPlays: held.
-/
namespace Go.Proofs.YtadopbpfnnpnaaaGreat
open Go.RowKit Go.Maps

attribute [local go_sem] Oper.semAt_some
abbrev TPd : TypeId := 26
/-- How the count and the answer stand while what an owner holds is gone over. -/
structure HvAt (X V : World) (nb rb j : Nat) (b : Bool) : Prop where
  onl : Onl (fun n => n = nb ∨ n = rb) X V
  bn : Blk V nb TI #[.int .i64 (j : Int)]
  br : Blk V rb TBo #[.bool b]
section
variable {X V V' : World} {nb rb j : Nat} {b : Bool}
theorem HvAt.more (h : HvAt X V nb rb j b) (g : Gr V V') : HvAt X V' nb rb j b := ⟨h.onl.trans (Onl.of_gr (S := fun n => n = nb ∨ n = rb) g) (fun _ _ e => e), h.bn.gr g, h.br.gr g⟩
theorem HvAt.grown (h : HvAt X V nb rb j b) (hn : nb < X.heap.size) (hr : rb < X.heap.size) {row : Option Nat} (g : V.grownBy V' row) (ho : ∀ r, row = some r → X.heap.size ≤ r) : HvAt X V' nb rb j b := by
  have hne : ∀ k, k < X.heap.size → V'.heap[k]? = V.heap[k]? := fun k hk => g.block k (Nat.lt_of_lt_of_le hk h.onl.size) fun e => by have := ho k e.symm; omega
  exact ⟨⟨g.os.trans h.onl.os, g.tape.trans h.onl.tape, g.output.trans h.onl.output, Nat.le_trans h.onl.size g.size, fun k hk hs => (hne k hk).trans (h.onl.block k hk hs)⟩, h.bn.stays (hne nb hn), h.br.stays (hne rb hr)⟩
theorem HvAt.step (h : HvAt X V nb rb j b) (hne : nb ≠ rb) (i : Nat) : HvAt X (V.setCell ⟨nb, 0, none⟩ (.int .i64 (i : Int))) nb rb i b :=
  ⟨h.onl.trans (Onl.of_set (S := fun n => n = nb ∨ n = rb) _ (.inl rfl)) (fun _ _ e => e), h.bn.set 0 _, h.br.far (p := ⟨nb, 0, none⟩) (fun e => hne e.symm) _⟩
theorem HvAt.say (h : HvAt X V nb rb j b) (hne : nb ≠ rb) (c : Bool) : HvAt X (V.setCell ⟨rb, 0, none⟩ (.bool c)) nb rb j c :=
  ⟨h.onl.trans (Onl.of_set (S := fun n => n = nb ∨ n = rb) _ (.inr rfl)) (fun _ _ e => e), h.bn.far (p := ⟨rb, 0, none⟩) hne _, h.br.set 0 _⟩
/-- The answer, as the loop's mark is taken away. -/
theorem HvAt.fin {w : World} {D : Nat} (h : HvAt X V nb rb j true) (hX : Gr w X) (hn : w.heap.size ≤ nb) (hr : w.heap.size ≤ rb) (hnl : nb < X.heap.size) (hrl : rb < X.heap.size) (hD : X.heap.size ≤ D) :
    (V.putObj D (.deferred none)).cell? ⟨rb, 0, none⟩ = some (.bool true) ∧ Gr w (V.putObj D (.deferred none)) := by
  have h1 := h.grown hnl hrl (grownBy_putObj' V D (.deferred none)) (fun r e => by cases e; exact hD)
  refine ⟨h1.br.cell 0, Below.trans hX (h1.onl.below hX.size fun m e => ?_)⟩
  rcases e with e | e <;> omega
/-- All else lies as it lay. -/
theorem HvAt.keep (h : HvAt X V nb rb j b) {q : Nat} (hq : q < X.heap.size) (h1 : q ≠ nb) (h2 : q ≠ rb) : V.heap[q]? = X.heap[q]? := h.onl.block q hq fun e => e.elim h1 h2
end
def SlHd (d gk N ck o j : Nat) (K1 K2 MD : Int) (slot : Nat) (v : Value) (_ : World) : Prop :=
  match slot with
  | 25 => v = .int .i64 (j : Int)
  | 26 => v = .slice (some ⟨gk, 0, none⟩) N ck
  | 27 => v = .int .i64 (N : Int)
  | 28 => v = .bool false
  | 29 => v = .bool false
  | 30 => v = .agg #[.int .i64 K1, .int .i64 K2]
  | 31 => v = .slice (some ⟨gk, 0, none⟩) N ck
  | 32 => v = .int .i64 (j : Int)
  | 33 => v = .pointer (some ⟨gk, j * 2, none⟩)
  | 34 => v = .agg #[.int .i64 K1, .int .i64 K2]
  | 35 => v = .bool false
  | 36 => v = .bool false
  | 37 => v = .bool false
  | 38 => v = .int .i64 MD
  | 39 => v = .pointer (some ⟨d, 0, none⟩)
  | 40 => v = .int .u64 (o : Int)
  | 41 => v = .agg #[.int .i64 K1, .int .i64 K2]
  | 42 => v = .int .i64 MD
  | 43 => v = .bool false
  | 44 => v = .bool false
  | _ => True
section
variable {w0 w : World} {t km om d : Nat} {B : Tag → Option Nat} {T : Tb} {hv lv : Value} {D : DT} {n o : Nat}
set_option maxRecDepth 100000 in
set_option maxHeartbeats 8000000 in
theorem held_any (h : PmAt w0 w t km om B T d hv lv D) (hs : PlS T D n) (hn : n ≤ 200) (ho : KO.dom o) (mo : Int) :
    Calls Tryz.prog 27 #[.pointer (some ⟨t, 0, none⟩), .pointer (some ⟨d, 0, none⟩), .int .u64 (o : Int), .int .i64 mo] w fun e w' => e = .returned (.bool true) ∧ Gr w w' := by
  have HX := Lib.hid (And.intro h (And.intro hs (And.intro hn ho)))
  clear h hs hn ho
  refine (callsIn_wide (n := 8)).1 ?_
  refine callsIn_of_wp_marks Tryz.func27 rfl trivial ?_ rfl
  simp only [Tryz.ntmps27, List.size_toArray, List.length_cons, List.length_nil, Nat.reduceAdd, Nat.reduceSub, Array.replicate_succ, Array.replicate_zero, List.push_toArray, List.append_toArray, List.nil_append, List.cons_append]
  refine wpIn_wide.2 ?_
  have HB1 : Hid (∃ W1 pb ob mb rb, W1 = ((((w.alloc (.cells #[.pointer (some ⟨d, 0, none⟩)] TPd)).alloc (.cells #[.int .u64 (o : Int)] TOw)).alloc (.cells #[.int .i64 mo] TI)).alloc (.cells #[.bool false] TBo)) ∧ (pb = w.heap.size ∧ ob = w.heap.size + 1 ∧ mb = w.heap.size + 1 + 1 ∧ rb = w.heap.size + 1 + 1 + 1) ∧ Gr w W1 ∧ W1.heap.size = w.heap.size + 4 ∧ Blk W1 pb TPd #[.pointer (some ⟨d, 0, none⟩)] ∧ Blk W1 ob TOw #[.int .u64 (o : Int)] ∧ Blk W1 mb TI #[.int .i64 mo] ∧ Blk W1 rb TBo #[.bool false]) := Lib.hid (by
    have e1 := World.size_alloc w (.cells #[.pointer (some ⟨d, 0, none⟩)] TPd)
    have e2 := World.size_alloc (w.alloc (.cells #[.pointer (some ⟨d, 0, none⟩)] TPd)) (.cells #[.int .u64 (o : Int)] TOw)
    have e3 := World.size_alloc ((w.alloc (.cells #[.pointer (some ⟨d, 0, none⟩)] TPd)).alloc (.cells #[.int .u64 (o : Int)] TOw)) (.cells #[.int .i64 mo] TI)
    have e4 := World.size_alloc (((w.alloc (.cells #[.pointer (some ⟨d, 0, none⟩)] TPd)).alloc (.cells #[.int .u64 (o : Int)] TOw)).alloc (.cells #[.int .i64 mo] TI)) (.cells #[.bool false] TBo)
    have g1 := gr_alloc w (.cells #[.pointer (some ⟨d, 0, none⟩)] TPd)
    have g2 := gr_alloc (w.alloc (.cells #[.pointer (some ⟨d, 0, none⟩)] TPd)) (.cells #[.int .u64 (o : Int)] TOw)
    have g3 := gr_alloc ((w.alloc (.cells #[.pointer (some ⟨d, 0, none⟩)] TPd)).alloc (.cells #[.int .u64 (o : Int)] TOw)) (.cells #[.int .i64 mo] TI)
    have g4 := gr_alloc (((w.alloc (.cells #[.pointer (some ⟨d, 0, none⟩)] TPd)).alloc (.cells #[.int .u64 (o : Int)] TOw)).alloc (.cells #[.int .i64 mo] TI)) (.cells #[.bool false] TBo)
    refine ⟨_, _, _, _, _, rfl, ⟨rfl, rfl, rfl, rfl⟩, Gr.trans (Gr.trans g1 g2) (Gr.trans g3 g4), by omega, ((Blk.new w TPd #[.pointer (some ⟨d, 0, none⟩)]).gr (Gr.trans g2 (Gr.trans g3 g4))), ?_, ?_, ?_⟩
    · have := (Blk.new (w.alloc (.cells #[.pointer (some ⟨d, 0, none⟩)] TPd)) TOw #[.int .u64 (o : Int)]).gr (Gr.trans g3 g4)
      rw [e1] at this
      exact this
    · have := (Blk.new ((w.alloc (.cells #[.pointer (some ⟨d, 0, none⟩)] TPd)).alloc (.cells #[.int .u64 (o : Int)] TOw)) TI #[.int .i64 mo]).gr g4
      rw [e2, e1] at this
      exact this
    · have := Blk.new (((w.alloc (.cells #[.pointer (some ⟨d, 0, none⟩)] TPd)).alloc (.cells #[.int .u64 (o : Int)] TOw)).alloc (.cells #[.int .i64 mo] TI)) TBo #[.bool false]
      rw [e3, e2, e1] at this
      exact this)
  obtain ⟨W1, pb, ob, mb, rb, HB0⟩ := HB1.out
  have HB := Lib.hid HB0
  clear HB0 HB1
  go_upto_region 1 with fail
  rw [show (((w.alloc (.cells #[.pointer (some ⟨d, 0, none⟩)] 26)).alloc (.cells #[.int .u64 (o : Int)] 31)).alloc (.cells #[.int .i64 mo] 3)).alloc (.cells #[.bool false] 4) = W1 from HB.out.1.symm, ← HB.out.2.1.2.2.2, ← HB.out.2.1.2.2.1, ← HB.out.2.1.2.1, ← HB.out.2.1.1]
  have c1 := HB.out.2.2.2.2.1.cell 0
  have c2 := HB.out.2.2.2.2.2.1.cell 0
  simp at c1 c2
  have P1 := Lib.hid (HX.out.1.more HB.out.2.2.1)
  go_wp2_with fail
  refine (dKeys_any P1.out.dt.at (by have := HX.out.2.1.len; have := HX.out.2.2.1; omega) o).mono ?_
  rintro e w2 ⟨v2, rfl, hk2, g2⟩
  obtain ⟨ks, hks⟩ : ∃ ks, ks = D.keysL o := ⟨_, rfl⟩
  rw [← hks] at hk2
  obtain ⟨pk, ck, hv2, -⟩ := hk2.form
  subst hv2
  obtain ⟨N, hN⟩ : ∃ N, N = ks.length := ⟨_, rfl⟩
  rw [← hN] at hk2 ⊢
  have HK := Lib.hid (And.intro hks (And.intro hN (And.intro hk2 g2)))
  clear hks hN hk2 g2
  have HB3 : Hid (∃ W3 wb nb, W3 = ((w2.alloc (.cells #[.slice pk N ck] TKs)).alloc (.cells #[.int .i64 0] TI)) ∧ (wb = w2.heap.size ∧ nb = w2.heap.size + 1) ∧ Gr w2 W3 ∧ W3.heap.size = w2.heap.size + 2 ∧ Blk W3 wb TKs #[.slice pk N ck] ∧ Blk W3 nb TI #[.int .i64 ((0 : Nat) : Int)]) := Lib.hid (by
    have e1 := World.size_alloc w2 (.cells #[.slice pk N ck] TKs)
    have e2 := World.size_alloc (w2.alloc (.cells #[.slice pk N ck] TKs)) (.cells #[.int .i64 0] TI)
    have g1 := gr_alloc w2 (.cells #[.slice pk N ck] TKs)
    have g2 := gr_alloc (w2.alloc (.cells #[.slice pk N ck] TKs)) (.cells #[.int .i64 0] TI)
    refine ⟨_, _, _, rfl, ⟨rfl, rfl⟩, Gr.trans g1 g2, by omega, (Blk.new w2 TKs #[.slice pk N ck]).gr g2, ?_⟩
    have := Blk.new (w2.alloc (.cells #[.slice pk N ck] TKs)) TI #[.int .i64 ((0 : Nat) : Int)]
    rw [e1] at this
    exact this)
  obtain ⟨W3, wb, nb, HB0⟩ := HB3.out
  have H3 := Lib.hid HB0
  clear HB0 HB3 c1 c2
  have P3 := Lib.hid (P1.out.more (Gr.trans HK.out.2.2.2 H3.out.2.2.1))
  have b3 := HB.out.2.2.2.2.2.1.gr (Gr.trans HK.out.2.2.2 H3.out.2.2.1)
  have c2 := b3.cell 0
  simp at c2
  have hsn := seq_nil_func
  clear b3
  go_upto_region 3 with fail
  rw [show ((w2.alloc (.cells #[.slice pk N ck] 74)).alloc (.cells #[.int .i64 0] 3)) = W3 from H3.out.1.symm, ← H3.out.2.1.2, ← H3.out.2.1.1]
  go_wp2_with fail
  refine (Held_any P3.out.tb (HX.out.2.1.inv.ok (by have := HX.out.2.1.oo; have := HX.out.2.2.1; omega)) HX.out.2.2.2 (by have h1 := HX.out.2.1.inv.ks_le o; have := HX.out.2.1.kk; have := HX.out.2.2.1; omega)).mono ?_
  rintro e X ⟨kb, qb, kv', mv, rfl, gX, hH⟩
  have hks2 : sortK (T.of o).ks = ks := by rw [HK.out.1]; exact (HX.out.2.1.rel.keysL HX.out.2.1.inv o).symm
  rw [hks2] at hH
  have hml : (T.mds ks).length = ks.length := by simp [Tb.mds]
  have hkb : ks.length ≤ 200 := by
    rw [← hks2, sortK_len]
    have h1 := HX.out.2.1.inv.ks_le o
    have := HX.out.2.1.kk
    have := HX.out.2.2.1
    omega
  have htold := (held1_told 7 (by omega) hH hml (by omega)).keeps
  obtain ⟨L, hL⟩ : ∃ L, L = ks.zip (T.mds ks) := ⟨_, rfl⟩
  rw [← hL] at htold
  have hLl : L.length = ks.length := by rw [hL, List.length_zip, hml, Nat.min_self]
  have hLm : ∀ (j : Nat) (x : Key × Int), L[j]? = some x → ks[j]? = some x.1 ∧ x.1 ∈ (T.of o).ks ∧ x.2 = (T.lkOf x.1).mode := fun j x hx => by
    rw [hL] at hx
    obtain ⟨h1, h2⟩ := List.getElem?_zip_eq_some.1 hx
    refine ⟨h1, (sortK_perm _).mem_iff.1 (hks2 ▸ List.mem_of_getElem? h1), ?_⟩
    unfold Tb.mds at h2
    rw [List.getElem?_map, h1] at h2
    exact (Option.some.inj h2).symm
  have g1X := Gr.trans (Gr.trans HK.out.2.2.2 H3.out.2.2.1) gX
  have hX0 : HvAt X X nb rb 0 false := ⟨Onl.refl _ _, H3.out.2.2.2.2.2.gr gX, HB.out.2.2.2.2.2.2.2.gr g1X⟩
  have hne : nb ≠ rb := by have h1 := HB.out.2.1; have h2 := HB.out.2.2.2.1; have h3 := H3.out.2.1; have h4 := HK.out.2.2.2.size; omega
  have hKf : ∀ k, hKs kb qb kv' mv k → k ≠ nb ∧ k ≠ rb := fun k hk => by
    have h1 := HB.out.2.1
    have h2 := HB.out.2.2.2.1
    have h3 := H3.out.2.1
    have h4 := HK.out.2.2.2.size
    have h5 := H3.out.2.2.2.1
    have a1 := hH.kl
    have a2 := hH.ml
    rcases hk with e | e | e | e
    · omega
    · omega
    · have := (World.ownsRow.lt hH.rk k e).1; omega
    · have := (World.ownsRow.lt hH.rm k e).1; omega
  have hnl : nb < X.heap.size := hX0.bn.lt
  have hrl : rb < X.heap.size := hX0.br.lt
  have HH := Lib.hid (And.intro hH (And.intro hLl (And.intro hLm (And.intro hkb (And.intro hne (And.intro hKf (And.intro g1X (And.intro (P3.out.more gX) (And.intro (H3.out.2.2.2.2.1.gr gX) (And.intro (HB.out.2.2.2.2.1.gr g1X) (And.intro (HB.out.2.2.2.2.2.1.gr g1X) (And.intro (HB.out.2.2.2.2.2.2.1.gr g1X) (kr_gr HK.out.2.2.1 (Gr.trans H3.out.2.2.1 gX))))))))))))))
  have HE : Hid (w.heap.size ≤ nb ∧ w.heap.size ≤ rb) := Lib.hid (by have h1 := HB.out.2.1; have h2 := HB.out.2.2.2.1; have h3 := H3.out.2.1; have h4 := HK.out.2.2.2.size; exact ⟨by omega, by omega⟩)
  have HL := Lib.hid (And.intro hks2 hL)
  have HT := Lib.hid htold
  have H0 := Lib.hid hX0
  clear hH hLl hLm hkb hne hKf g1X hks2 hL htold hX0 gX hml
  go_wp2_with fail
  refine (wpIn_wide (n := 8)).1 ?_
  refine wpIn_range_toldF (F := Fence.wide) rfl (by omega) (gf := 64) (lb := #[.pointer (some ⟨kb, 0, none⟩), .pointer (some ⟨qb, 0, none⟩)]) rfl trivial (enters_of Tryz.func64 (by kernel_rfl) rfl)
    HT.out (Below.refl _ _) (fun _ => rfl) (fun pre V => HvAt X V nb rb pre.length false) (fun _ V => ∃ j, HvAt X V nb rb j true) ?hI ?hIr H0.out
    (fun tm x (R : Nat) => (((tm.setIfInBounds 23 (kv x.1)).setIfInBounds 24 (.int .i64 x.2)).setIfInBounds 12 (.pointer (some ⟨R, 0, none⟩))).setIfInBounds 13 (.int .i64 x.2))
    (fun pre x R V => L[pre.length]? = some x ∧ X.heap.size ≤ R ∧ Blk V R TKey #[.int .i64 x.1.1, .int .i64 x.1.2]) ?hBx ?assign ?body ?done ?stop
  case hI => exact fun pre Y Z row h hg hr => h.grown hnl hrl hg fun r e => (hr r e).1
  case hIr =>
    rintro pre Y Z row ⟨j, h⟩ hg hr
    exact ⟨j, h.grown hnl hrl hg fun r e => (hr r e).1⟩
  case hBx =>
    rintro pre x R z Y Z row ⟨h1, h2, h3⟩ hg hr
    exact ⟨h1, h2, h3.held (hold_grown hg (fun r e => (hr r e).2))⟩
  case assign =>
    rintro l pre x V K hi hx hK
    obtain ⟨⟨x1, x2⟩, x3⟩ := x
    have HI := Lib.hid hi
    simp only [kv, List.setIfInBounds_toArray, List.set_cons_succ, List.set_cons_zero] at hK
    have hK2 := Lib.hid hK
    clear hi hK
    have gn : Gr V (V.alloc (.cells #[.int .i64 x1, .int .i64 x2] TKey)) := (Gr.refl V).alloc (Nat.le_refl _) _
    have hb := Blk.new V TKey #[.int .i64 x1, .int .i64 x2]
    have HG := Lib.hid (And.intro gn (And.intro hb hx))
    clear gn hb hx
    dsimp only [encK, kv]
    gi_wp2_with fail
    exact hK2.out V.heap.size _ ((⟨HG.out.1.size, fun k o hk _ => (HG.out.1.block k (Array.getElem?_eq_some_iff.1 hk).1).trans hk⟩ : KeepsOthers V _).from _) (gr_holds HG.out.1) (HI.out.more HG.out.1) ⟨HG.out.2.2, HI.out.onl.size, HG.out.2.1⟩
  case done =>
    rintro D ys V hD hS hi hK
    have hyl : ys.length = N := by
      have h1 : ys = L := hS
      rw [h1, HH.out.2.1, HK.out.2.1]
    rw [hyl] at hi
    have hwb : wb ≠ nb ∧ wb ≠ rb ∧ wb < X.heap.size := by
      have h1 := HB.out.2.1; have h2 := HB.out.2.2.2.1; have h3 := H3.out.2.1; have h4 := HK.out.2.2.2.size
      exact ⟨by omega, by omega, HH.out.2.2.2.2.2.2.2.2.1.lt⟩
    have n0 := hi.bn.cell 0
    have n1 := (HH.out.2.2.2.2.2.2.2.2.1.stays (hi.keep hwb.2.2 hwb.1 hwb.2.1)).cell 0
    have n2 := hi.br.cell 0
    have f2 := hi.br.frozen 0
    simp at n0 n1 n2
    have HI := Lib.hid (And.intro (hi.say HH.out.2.2.2.2.1 true) (And.intro hD hK))
    clear hS hyl hwb hi hK hD
    try dsimp only
    go_wp2_with fail
    have hf := HI.out.1.fin (Gr.trans HB.out.2.2.1 HH.out.2.2.2.2.2.2.1) HE.out.1 HE.out.2 hnl hrl HI.out.2.1
    refine ⟨by simp, .inl ⟨D, _, rfl, run_takeDeferred ((heap_setCell_other V ⟨rb, 0, none⟩ D _ (by have := HI.out.2.1; show D ≠ rb; omega)).trans HI.out.2.2), ?_⟩⟩
    exact ⟨.bool true, results_cell_one rfl Tryz.isAgg4 _ _ ⟨rb, 0, none⟩ (.bool true) rfl hf.1, rfl, hf.2⟩
  case stop =>
    rintro D pre V hD hS ⟨j, hi⟩ hK
    have HI := Lib.hid (And.intro hi (And.intro hD hK))
    clear hS hi hK hD
    try dsimp only
    gi_wp2_with fail
    have hf := HI.out.1.fin (Gr.trans HB.out.2.2.1 HH.out.2.2.2.2.2.2.1) HE.out.1 HE.out.2 hnl hrl HI.out.2.1
    refine ⟨by simp, .inl ⟨D, _, rfl, run_takeDeferred HI.out.2.2, ?_⟩⟩
    exact ⟨.bool true, results_cell_one rfl Tryz.isAgg4 _ _ ⟨rb, 0, none⟩ (.bool true) rfl hf.1, rfl, hf.2⟩
  case body =>
    rintro l pre x R W8 hlw hi ⟨hx, hR, hbR⟩
    obtain ⟨⟨K1, K2⟩, MD⟩ := x
    obtain ⟨hx1, hx2, hx3⟩ := HH.out.2.2.1 _ _ hx
    obtain ⟨j, hj⟩ : ∃ j, j = pre.length := ⟨_, rfl⟩
    rw [← hj] at hi hx hx1
    have hjN : j < N := by rw [HK.out.2.1]; exact (List.getElem?_eq_some_iff.1 hx1).1
    have hNb : N ≤ 200 := by rw [HK.out.2.1]; exact HH.out.2.2.2.1
    obtain ⟨-, -, -, -, hne, hKf, -, hPX, bwX, bpX, boX, bmX, kX⟩ := HH.out
    have hw1 := HB.out.2.1
    have hw2 := HB.out.2.2.2.1
    have hw3 := H3.out.2.1
    have hw4 := HK.out.2.2.2.size
    have kp : ∀ q, q < X.heap.size → q ≠ nb → q ≠ rb → W8.heap[q]? = X.heap[q]? := fun q h1 h2 h3 => hi.keep h1 h2 h3
    have dt8 : DtA W8 w0.heap.size d hv lv D := hPX.dt.stays fun m hm => by
      have h1 := HX.out.1.lt m (.inr hm)
      exact kp m (hPX.lt m (.inr hm)) (by omega) (by omega)
    have k8 : Kr W8 W1.heap.size (.slice pk N ck) ks := kr_stays kX fun m hm => by
      have h1 := (kr_lt HK.out.2.2.1 m hm).1
      have h2 := (kr_lt HK.out.2.2.1 m hm).2
      exact kp m (kr_lt kX m hm).2 (by omega) (by omega)
    obtain ⟨gk, hgk, -, -, k0, k1⟩ := Kr.at' k8 j (by rw [← HK.out.2.1]; exact hjN)
    subst hgk
    have hkj : ks.getD j (0, 0) = (K1, K2) := by
      rw [List.getD, hx1]
      rfl
    rw [hkj] at k0 k1
    have hhd : D.holds o (K1, K2) = MD := by
      rw [HX.out.2.1.rel.holds HX.out.2.1.inv]
      unfold Tb.hold
      rw [if_pos hx2]
      exact hx3.symm
    have HF9 : Hid (∀ V, Gr W8 V → V.cell? ⟨pb, 0, none⟩ = some (.pointer (some ⟨d, 0, none⟩)) ∧ V.cell? ⟨ob, 0, none⟩ = some (.int .u64 (o : Int)) ∧ V.cell? ⟨wb, 0, none⟩ = some (.slice (some ⟨gk, 0, none⟩) N ck) ∧ V.cell? ⟨nb, 0, none⟩ = some (.int .i64 (j : Int)) ∧ V.cell? ⟨gk, j * 2, none⟩ = some (.int .i64 K1) ∧ V.cell? ⟨gk, j * 2 + 1, none⟩ = some (.int .i64 K2) ∧ V.cell? ⟨R, 0, none⟩ = some (.int .i64 K1) ∧ V.cell? ⟨R, 1, none⟩ = some (.int .i64 K2) ∧ V.cell? ⟨mb, 0, none⟩ = some (.int .i64 mo)) := Lib.hid fun V g =>
      ⟨((bpX.stays (kp pb bpX.lt (by omega) (by omega))).gr g).cell 0, ((boX.stays (kp ob boX.lt (by omega) (by omega))).gr g).cell 0, ((bwX.stays (kp wb bwX.lt (by omega) (by omega))).gr g).cell 0, (hi.bn.gr g).cell 0, (g.cell (blk_lt' k0)).trans k0, (g.cell (blk_lt' k1)).trans k1, (hbR.gr g).cell 0, (hbR.gr g).cell 1, ((bmX.stays (kp mb bmX.lt (by omega) (by omega))).gr g).cell 0⟩
    have HHo : Hid (∀ V, Gr W8 V → Calls Tryz.prog 23 #[.pointer (some ⟨d, 0, none⟩), .int .u64 (o : Int), .agg #[.int .i64 K1, .int .i64 K2]] V fun e w' => e = .returned (.int .i64 MD) ∧ Gr V w') := Lib.hid fun V g => by
      have := dHolds_any (dt8.gr g).at (by have := HX.out.2.1.len; have := HX.out.2.2.1; omega) o (K1, K2)
      rw [hhd] at this
      exact this
    have hge : decide ((j : Int) ≥ (N : Int)) = false := decide_eq_false (by omega)
    have hge4 : decide (N ≤ j) = false := decide_eq_false (by omega)
    have hp0 : (0 : Int) ≤ (j : Int) := by omega
    have hjN' : (j : Int) < (N : Int) := by omega
    have hq : ∀ W, (Op.equalIn 10000 TKey (.agg #[.int .i64 K1, .int .i64 K2]) (.agg #[.int .i64 K1, .int .i64 K2])).run Tryz.prog W = .ok true W := fun W => by
      have := eqi_key (K1, K2) (K1, K2) W
      rw [decide_eq_true rfl] at this
      exact this
    have hw9 : IntKind.i64.wrap ((j : Int) + 1) = ((j + 1 : Nat) : Int) := by rw [IntWalk.i64_in _ (by omega)]; omega
    have HBd := Lib.hid (And.intro hi (And.intro hne (And.intro hKf (And.intro hj (And.intro hlw (And.intro hR hbR))))))
    obtain ⟨q0, q1, q2, q3, q4, q5, q6, q7, q8⟩ := HF9.out W8 (Gr.refl _)
    clear hi hne hKf hj hlw hR hbR hx hx1 hx2 hx3 hPX bwX bpX boX bmX kX kp dt8 k8 k0 k1 hkj hhd hw1 hw2 hw3 hw4
    simp only [kv, List.setIfInBounds_toArray, List.set_cons_succ, List.set_cons_zero]
    gi_wp2_with fail
    refine Flow.regionIn l 6 (SlHd d gk N ck o j K1 K2 MD) (Gr W8) (fun _ _ => True) (by kernel_rfl) (by kernel_rfl) (by kernel_rfl) (fun _ _ _ _ h _ => h) (Gr.refl W8).drew ?steps ?fin
    case steps =>
      refine Flow.Steps.cons (fun a W hfr hinv hdep K hK => ?_) ?_
      · have s10 : a.tmps.getD 10 undef = .pointer (some ⟨nb, 0, none⟩) := hfr.at 10 (by kernel_rfl)
        have t10 : a.tmps[10]?.getD undef = .pointer (some ⟨nb, 0, none⟩) := by simpa using s10
        rw [if_pos (Flow.wanted_none rfl)]
        obtain ⟨q0, q1, q2, q3, q4, q5, q6, q7, -⟩ := HF9.out W hinv
        clear hfr hdep
        go_simp
        exact hK _ _ True.intro hinv (fun d hd => by cases hd; trivial)
      refine Flow.Steps.cons (fun a W hfr hinv hdep K hK => ?_) ?_
      · have s9 : a.tmps.getD 9 undef = .pointer (some ⟨wb, 0, none⟩) := hfr.at 9 (by kernel_rfl)
        have t9 : a.tmps[9]?.getD undef = .pointer (some ⟨wb, 0, none⟩) := by simpa using s9
        rw [if_pos (Flow.wanted_none rfl)]
        obtain ⟨q0, q1, q2, q3, q4, q5, q6, q7, -⟩ := HF9.out W hinv
        clear hfr hdep
        go_simp
        exact hK _ _ True.intro hinv (fun d hd => by cases hd; trivial)
      refine Flow.Steps.cons (fun a W hfr hinv hdep K hK => ?_) ?_
      · have s26 : a.tmps.getD 26 undef = .slice (some ⟨gk, 0, none⟩) N ck := hdep 26 (by kernel_rfl)
        have t26 : a.tmps[26]?.getD undef = .slice (some ⟨gk, 0, none⟩) N ck := by simpa using s26
        rw [if_pos (Flow.wanted_none rfl)]
        clear hfr hdep
        go_simp
        exact hK _ _ True.intro hinv (fun d hd => by cases hd; trivial)
      refine Flow.Steps.cons (fun a W hfr hinv hdep K hK => ?_) ?_
      · have s25 : a.tmps.getD 25 undef = .int .i64 (j : Int) := hdep 25 (by kernel_rfl)
        have t25 : a.tmps[25]?.getD undef = .int .i64 (j : Int) := by simpa using s25
        have s27 : a.tmps.getD 27 undef = .int .i64 (N : Int) := hdep 27 (by kernel_rfl)
        have t27 : a.tmps[27]?.getD undef = .int .i64 (N : Int) := by simpa using s27
        rw [if_pos (Flow.wanted_none rfl)]
        clear hfr hdep
        go_simp
        exact hK _ _ True.intro hinv (fun d hd => by cases hd; trivial)
      refine Flow.Steps.cons (fun a W hfr hinv hdep K hK => ?_) ?_
      · have s28 : a.tmps.getD 28 undef = .bool false := hdep 28 (by kernel_rfl)
        have t28 : a.tmps[28]?.getD undef = .bool false := by simpa using s28
        rw [if_pos (Flow.wanted_none rfl)]
        clear hfr hdep
        go_simp
        exact hK _ _ True.intro hinv (fun d hd => by cases hd; trivial)
      refine Flow.Steps.cons (fun a W hfr hinv hdep K hK => ?_) ?_
      · have s12 : a.tmps.getD 12 undef = .pointer (some ⟨R, 0, none⟩) := hfr.at 12 (by kernel_rfl)
        have t12 : a.tmps[12]?.getD undef = .pointer (some ⟨R, 0, none⟩) := by simpa using s12
        have sg : a.tmps.getD 29 undef = .bool false := hdep 29 (by kernel_rfl)
        rw [if_pos (Flow.wanted_yes 4 false 29 rfl (by kernel_rfl) sg)]
        obtain ⟨q0, q1, q2, q3, q4, q5, q6, q7, -⟩ := HF9.out W hinv
        clear hfr hdep
        go_simp
        exact hK _ _ True.intro hinv (fun d hd => by cases hd; trivial)
      refine Flow.Steps.cons (fun a W hfr hinv hdep K hK => ?_) ?_
      · have s9 : a.tmps.getD 9 undef = .pointer (some ⟨wb, 0, none⟩) := hfr.at 9 (by kernel_rfl)
        have t9 : a.tmps[9]?.getD undef = .pointer (some ⟨wb, 0, none⟩) := by simpa using s9
        have sg : a.tmps.getD 29 undef = .bool false := hdep 29 (by kernel_rfl)
        rw [if_pos (Flow.wanted_yes 4 false 29 rfl (by kernel_rfl) sg)]
        obtain ⟨q0, q1, q2, q3, q4, q5, q6, q7, -⟩ := HF9.out W hinv
        clear hfr hdep
        go_simp
        exact hK _ _ True.intro hinv (fun d hd => by cases hd; trivial)
      refine Flow.Steps.cons (fun a W hfr hinv hdep K hK => ?_) ?_
      · have s10 : a.tmps.getD 10 undef = .pointer (some ⟨nb, 0, none⟩) := hfr.at 10 (by kernel_rfl)
        have t10 : a.tmps[10]?.getD undef = .pointer (some ⟨nb, 0, none⟩) := by simpa using s10
        have sg : a.tmps.getD 29 undef = .bool false := hdep 29 (by kernel_rfl)
        rw [if_pos (Flow.wanted_yes 4 false 29 rfl (by kernel_rfl) sg)]
        obtain ⟨q0, q1, q2, q3, q4, q5, q6, q7, -⟩ := HF9.out W hinv
        clear hfr hdep
        go_simp
        exact hK _ _ True.intro hinv (fun d hd => by cases hd; trivial)
      refine Flow.Steps.cons (fun a W hfr hinv hdep K hK => ?_) ?_
      · have s31 : a.tmps.getD 31 undef = .slice (some ⟨gk, 0, none⟩) N ck := hdep 31 (by kernel_rfl)
        have t31 : a.tmps[31]?.getD undef = .slice (some ⟨gk, 0, none⟩) N ck := by simpa using s31
        have s32 : a.tmps.getD 32 undef = .int .i64 (j : Int) := hdep 32 (by kernel_rfl)
        have t32 : a.tmps[32]?.getD undef = .int .i64 (j : Int) := by simpa using s32
        have sg : a.tmps.getD 29 undef = .bool false := hdep 29 (by kernel_rfl)
        rw [if_pos (Flow.wanted_yes 4 false 29 rfl (by kernel_rfl) sg)]
        clear hfr hdep
        go_simp
        exact hK _ _ True.intro hinv (fun d hd => by cases hd; trivial)
      refine Flow.Steps.cons (fun a W hfr hinv hdep K hK => ?_) ?_
      · have s33 : a.tmps.getD 33 undef = .pointer (some ⟨gk, j * 2, none⟩) := hdep 33 (by kernel_rfl)
        have t33 : a.tmps[33]?.getD undef = .pointer (some ⟨gk, j * 2, none⟩) := by simpa using s33
        have sg : a.tmps.getD 29 undef = .bool false := hdep 29 (by kernel_rfl)
        rw [if_pos (Flow.wanted_yes 4 false 29 rfl (by kernel_rfl) sg)]
        obtain ⟨q0, q1, q2, q3, q4, q5, q6, q7, -⟩ := HF9.out W hinv
        clear hfr hdep
        go_simp
        exact hK _ _ True.intro hinv (fun d hd => by cases hd; trivial)
      refine Flow.Steps.cons (fun a W hfr hinv hdep K hK => ?_) ?_
      · have s30 : a.tmps.getD 30 undef = .agg #[.int .i64 K1, .int .i64 K2] := hdep 30 (by kernel_rfl)
        have t30 : a.tmps[30]?.getD undef = .agg #[.int .i64 K1, .int .i64 K2] := by simpa using s30
        have s34 : a.tmps.getD 34 undef = .agg #[.int .i64 K1, .int .i64 K2] := hdep 34 (by kernel_rfl)
        have t34 : a.tmps[34]?.getD undef = .agg #[.int .i64 K1, .int .i64 K2] := by simpa using s34
        have sg : a.tmps.getD 29 undef = .bool false := hdep 29 (by kernel_rfl)
        rw [if_pos (Flow.wanted_yes 4 false 29 rfl (by kernel_rfl) sg)]
        clear hfr hdep
        go_simp
        exact hK _ _ True.intro hinv (fun d hd => by cases hd; trivial)
      refine Flow.Steps.cons (fun a W hfr hinv hdep K hK => ?_) ?_
      · have s29 : a.tmps.getD 29 undef = .bool false := hdep 29 (by kernel_rfl)
        have t29 : a.tmps[29]?.getD undef = .bool false := by simpa using s29
        have s35 : a.tmps.getD 35 undef = .bool false := hdep 35 (by kernel_rfl)
        have t35 : a.tmps[35]?.getD undef = .bool false := by simpa using s35
        rw [if_pos (Flow.wanted_none rfl)]
        clear hfr hdep
        go_simp
        exact hK _ _ True.intro hinv (fun d hd => by cases hd; trivial)
      refine Flow.Steps.cons (fun a W hfr hinv hdep K hK => ?_) ?_
      · have s36 : a.tmps.getD 36 undef = .bool false := hdep 36 (by kernel_rfl)
        have t36 : a.tmps[36]?.getD undef = .bool false := by simpa using s36
        rw [if_pos (Flow.wanted_none rfl)]
        clear hfr hdep
        go_simp
        exact hK _ _ True.intro hinv (fun d hd => by cases hd; trivial)
      refine Flow.Steps.cons (fun a W hfr hinv hdep K hK => ?_) ?_
      · have s13 : a.tmps.getD 13 undef = .int .i64 MD := hfr.at 13 (by kernel_rfl)
        have t13 : a.tmps[13]?.getD undef = .int .i64 MD := by simpa using s13
        have sg : a.tmps.getD 37 undef = .bool false := hdep 37 (by kernel_rfl)
        rw [if_pos (Flow.wanted_yes 12 false 37 rfl (by kernel_rfl) sg)]
        clear hfr hdep
        go_simp
        exact hK _ _ True.intro hinv (fun d hd => by cases hd; trivial)
      refine Flow.Steps.cons (fun a W hfr hinv hdep K hK => ?_) ?_
      · have s5 : a.tmps.getD 5 undef = .pointer (some ⟨pb, 0, none⟩) := hfr.at 5 (by kernel_rfl)
        have t5 : a.tmps[5]?.getD undef = .pointer (some ⟨pb, 0, none⟩) := by simpa using s5
        have sg : a.tmps.getD 37 undef = .bool false := hdep 37 (by kernel_rfl)
        rw [if_pos (Flow.wanted_yes 12 false 37 rfl (by kernel_rfl) sg)]
        obtain ⟨q0, q1, q2, q3, q4, q5, q6, q7, -⟩ := HF9.out W hinv
        clear hfr hdep
        go_simp
        exact hK _ _ True.intro hinv (fun d hd => by cases hd; trivial)
      refine Flow.Steps.cons (fun a W hfr hinv hdep K hK => ?_) ?_
      · have s6 : a.tmps.getD 6 undef = .pointer (some ⟨ob, 0, none⟩) := hfr.at 6 (by kernel_rfl)
        have t6 : a.tmps[6]?.getD undef = .pointer (some ⟨ob, 0, none⟩) := by simpa using s6
        have sg : a.tmps.getD 37 undef = .bool false := hdep 37 (by kernel_rfl)
        rw [if_pos (Flow.wanted_yes 12 false 37 rfl (by kernel_rfl) sg)]
        obtain ⟨q0, q1, q2, q3, q4, q5, q6, q7, -⟩ := HF9.out W hinv
        clear hfr hdep
        go_simp
        exact hK _ _ True.intro hinv (fun d hd => by cases hd; trivial)
      refine Flow.Steps.cons (fun a W hfr hinv hdep K hK => ?_) ?_
      · have s12 : a.tmps.getD 12 undef = .pointer (some ⟨R, 0, none⟩) := hfr.at 12 (by kernel_rfl)
        have t12 : a.tmps[12]?.getD undef = .pointer (some ⟨R, 0, none⟩) := by simpa using s12
        have sg : a.tmps.getD 37 undef = .bool false := hdep 37 (by kernel_rfl)
        rw [if_pos (Flow.wanted_yes 12 false 37 rfl (by kernel_rfl) sg)]
        obtain ⟨q0, q1, q2, q3, q4, q5, q6, q7, -⟩ := HF9.out W hinv
        clear hfr hdep
        go_simp
        exact hK _ _ True.intro hinv (fun d hd => by cases hd; trivial)
      refine Flow.Steps.cons (fun a W hfr hinv hdep K hK => ?_) ?_
      · have s39 : a.tmps.getD 39 undef = .pointer (some ⟨d, 0, none⟩) := hdep 39 (by kernel_rfl)
        have t39 : a.tmps[39]?.getD undef = .pointer (some ⟨d, 0, none⟩) := by simpa using s39
        have s40 : a.tmps.getD 40 undef = .int .u64 (o : Int) := hdep 40 (by kernel_rfl)
        have t40 : a.tmps[40]?.getD undef = .int .u64 (o : Int) := by simpa using s40
        have s41 : a.tmps.getD 41 undef = .agg #[.int .i64 K1, .int .i64 K2] := hdep 41 (by kernel_rfl)
        have t41 : a.tmps[41]?.getD undef = .agg #[.int .i64 K1, .int .i64 K2] := by simpa using s41
        have sg : a.tmps.getD 37 undef = .bool false := hdep 37 (by kernel_rfl)
        rw [if_pos (Flow.wanted_yes 12 false 37 rfl (by kernel_rfl) sg)]
        clear hfr hdep
        go_simp
        refine (HHo.out W hinv).mono ?_
        rintro e W' ⟨rfl, g9⟩
        exact hK _ _ True.intro (Gr.trans hinv g9) (fun d hd => by cases hd; trivial)
      refine Flow.Steps.cons (fun a W hfr hinv hdep K hK => ?_) ?_
      · have s38 : a.tmps.getD 38 undef = .int .i64 MD := hdep 38 (by kernel_rfl)
        have t38 : a.tmps[38]?.getD undef = .int .i64 MD := by simpa using s38
        have s42 : a.tmps.getD 42 undef = .int .i64 MD := hdep 42 (by kernel_rfl)
        have t42 : a.tmps[42]?.getD undef = .int .i64 MD := by simpa using s42
        have sg : a.tmps.getD 37 undef = .bool false := hdep 37 (by kernel_rfl)
        rw [if_pos (Flow.wanted_yes 12 false 37 rfl (by kernel_rfl) sg)]
        clear hfr hdep
        go_simp
        exact hK _ _ True.intro hinv (fun d hd => by cases hd; trivial)
      refine Flow.Steps.cons (fun a W hfr hinv hdep K hK => ?_) ?_
      · have s37 : a.tmps.getD 37 undef = .bool false := hdep 37 (by kernel_rfl)
        have t37 : a.tmps[37]?.getD undef = .bool false := by simpa using s37
        have s43 : a.tmps.getD 43 undef = .bool false := hdep 43 (by kernel_rfl)
        have t43 : a.tmps[43]?.getD undef = .bool false := by simpa using s43
        rw [if_pos (Flow.wanted_none rfl)]
        clear hfr hdep
        go_simp
        exact hK _ _ True.intro hinv (fun d hd => by cases hd; trivial)
      exact True.intro
    case fin =>
      intro a W hfr hfin hsl
      have s44 : a.tmps.getD 44 undef = .bool false := hsl 19 _ 44 rfl rfl
      have t44 : a.tmps[44]?.getD undef = .bool false := by simpa using s44
      have e := Flow.frame hfr [25, 26, 27, 28, 29, 30, 31, 32, 33, 34, 35, 36, 37, 38, 39, 40, 41, 42, 43, 44] (List.range 54) (by kernel_rfl) (by kernel_rfl)
      simp [List.range, List.range.loop] at e
      rw [t44] at e
      rw [e]
      clear e hfr hsl s44 t44 q0 q1 q2 q3 q4 q5 q6 q7 q8
      have HW := Lib.hid hfin
      clear hfin
      have n0 := (HBd.out.1.more HW.out).bn.cell 0
      have f0 := (HBd.out.1.more HW.out).bn.frozen 0
      have n8 := (HF9.out W HW.out).2.2.2.2.2.2.2.2
      simp at n0
      have hnm : nb ≠ mb ∧ mb ≠ nb := by have h1 := HB.out.2.1; have h3 := H3.out.2.1; have h4 := HK.out.2.2.2.size; have h5 := HB.out.2.2.2.1; exact ⟨by omega, by omega⟩
      have H9 := Lib.hid ((HBd.out.1.more HW.out).step HBd.out.2.1 (j + 1))
      have n9 := (HF9.out W HW.out).2.2.2.2.2.2.2.2
      have m0 := H9.out.bn.cell 0
      have r0 := H9.out.br.cell 0
      have f1 := H9.out.br.frozen 0
      have m8 : (W.setCell ⟨nb, 0, none⟩ (.int .i64 ((j + 1 : Nat) : Int))).cell? ⟨mb, 0, none⟩ = some (.int .i64 mo) := by
        have h1 := World.block_lt_of_cell? W _ n9
        unfold World.cell? at n9 ⊢
        rw [heap_setCell_other W ⟨nb, 0, none⟩ mb _ hnm.2]
        exact n9
      have HKe : Hid (KeepsFrom X.heap.size W8 (W.setCell ⟨nb, 0, none⟩ (.int .i64 ((j + 1 : Nat) : Int))) ∧ HoldS firm (hKs kb qb kv' mv) W8 (W.setCell ⟨nb, 0, none⟩ (.int .i64 ((j + 1 : Nat) : Int)))) := Lib.hid
        ⟨((⟨HW.out.size, fun k o hk _ => (HW.out.block k (Array.getElem?_eq_some_iff.1 hk).1).trans hk⟩ : KeepsOthers W8 W).from X.heap.size).trans ((KeepsOthers.setCell _ _ _).from _),
         (gr_holds HW.out).trans ⟨by simp, fun k o hk h1 _ => (heap_setCell_other W ⟨nb, 0, none⟩ k _ (HBd.out.2.2.1 k hk).1).trans h1⟩⟩
      clear n9 hnm
      have ec : ((j + 1 : Nat) : Int) = (j : Int) + 1 := by simp
      rw [ec] at m0 m8 r0 f1
      simp at m0 r0
      clear ec
      by_cases hmo : mo = ((j + 1 : Nat) : Int)
      · have e49 : (((j + 1 : Nat) : Int) == mo) = true := by rw [hmo]; simp
        have e49' : ((j : Int) + 1 == mo) = true := by rw [hmo]; simp
        subst hmo
        have H10 := Lib.hid (H9.out.say HBd.out.2.1 true)
        gi_wp2_with fail
        refine ⟨HKe.out.1.trans ((KeepsOthers.setCell _ _ _).from _), j + 1, H10.out⟩
      · have e49 : (((j + 1 : Nat) : Int) == mo) = false := by rw [beq_eq_false_iff_ne]; exact fun e => hmo e.symm
        have e49' : ((j : Int) + 1 == mo) = false := by rw [beq_eq_false_iff_ne]; intro e; apply hmo; rw [← e]; simp
        clear hmo
        gi_wp2_with fail
        refine ⟨HKe.out.1, HKe.out.2, ?_⟩
        have hl : (pre ++ [((K1, K2), MD)]).length = j + 1 := by rw [List.length_append, List.length_singleton, HBd.out.2.2.2.1]
        show HvAt X _ nb rb (pre ++ [((K1, K2), MD)]).length false
        rw [hl]
        exact H9.out
end
end Go.Proofs.YtadopbpfnnpnaaaGreat

