/-
  Part 9 of what the laws of stage 6 rest on: contracts of the functions that they call, and what these rest on.
-/
import Derived.Shelf.Abstract
import Derived.Shelf.RegionOpen
import Derived.WalkKit
import Derived.OwnWalkIn
import Derived.TacticsInMore
import Derived.LoopNIn
import Derived.LoopIn
import Derived.OrdersIn
import Derived.RangeFuncCalls
import Derived.Test.YtbpgonmoepnnpaaGreatProg
import Derived.Lib.AppendZeros
import Derived.Maps.AppendAt
import Derived.Test.YtbpgonmoepnnpaaGreatU1
import Derived.Test.YtbpgonmoepnnpaaGreatU4
import Derived.Test.YtbpgonmoepnnpaaGreatU8
set_option linter.unusedVariables false
set_option linter.unusedSimpArgs false
namespace Go.Proofs.YtbpgonmoepnnpaaGreat
open Go.RowKit Go.Shelf Cr
attribute [local go_sem] Oper.semAt_some
abbrev TU : TypeId := 30
structure AllAt (W : World) (Bb Ba : Nat) (q : Option Addr) (m d : Nat) (xs : List Int) (at' : Nat) : Prop where
 b : Blk W Bb TBy #[.slice q m d]
 a : Blk W Ba TU #[.int .u64 at']
 y : Byt W q m d xs
theorem AllAt.up {W W' : World} {Bb Ba : Nat} {q : Option Addr} {m d : Nat} {xs : List Int} {at' : Nat} (h : AllAt W Bb Ba q m d xs at') (g : Gr W W') : AllAt W' Bb Ba q m d xs at' :=
 ⟨h.b.below g h.b.lt, h.a.below g h.a.lt, h.y.kept g⟩
set_option maxRecDepth 100000 in
set_option maxHeartbeats 1000000 in
theorem all_any (p : Option Addr) (n c : Nat) (xs : List Int) (at' : Nat) (w : World) (hb : Byt w p n c xs) (hl : n ≤ 20000) :
  Calls Tryz.prog 85 #[.slice p n c, .int .u64 at'] w fun e w' => ∃ q m d, e = .returned (.func (.func 103) #[] #[.pointer (some ⟨w.heap.size, 0, none⟩), .pointer (some ⟨w.heap.size + 1, 0, none⟩)]) ∧ AllAt w' w.heap.size (w.heap.size + 1) q m d xs at' ∧ (∀ y, q = some y → w.heap.size + 1 < y.block) ∧ Gr w w' := by
 have h1 := Blk.new w TBy #[.slice p n c]; have h2 := Blk.new (w.alloc (.cells #[.slice p n c] TBy)) TU #[.int .u64 at']; have h3 := Blk.new ((w.alloc (.cells #[.slice p n c] TBy)).alloc (.cells #[.int .u64 at'] TU)) 31 #[.slice p n c]
 simp only [World.size_alloc] at h2 h3
 have g1 := (Gr.refl w).alloc (Nat.le_refl _) (.cells #[.slice p n c] TBy); have g2 := g1.alloc g1.size (.cells #[.int .u64 at'] TU); have HB := Lib.hid ((h1.alloc (.cells #[.int .u64 at'] TU)).alloc (.cells #[.slice p n c] 31)); have HA := Lib.hid (h2.alloc (.cells #[.slice p n c] 31)); have HG := Lib.hid (g2.alloc g2.size (.cells #[.slice p n c] 31)); have hr := Rows.one (t := 31) (hb.kept g2) rfl
 simp only [World.size_alloc] at hr
 have HR := Lib.hid hr; have HT : Hid (tot [xs] ≤ 140737488355328) := Lib.hid (by have := hb.len; unfold tot; simp; omega); have HFL : Hid ([xs].flatten = xs) := Lib.hid (by simp); have c0 : (w.alloc (.cells #[.slice p n c] TBy)).cell? ⟨w.heap.size, 0, none⟩ = some (.slice p n c) := h1.cell 0; clear h1 h2 h3 g1 g2 hr hb
 go_enter Tryz.func85, Tryz.ntmps85
 go_wp2_with fail; refine (join_any _ _ _ _ _ HR.out HT.out).mono ?_; rintro e w1 ⟨q, m, d, rfl, hy, g1, hf⟩; have HB1 := Lib.hid (HB.out.below g1 HB.out.lt); have HA1 := Lib.hid (HA.out.below g1 HA.out.lt); have HG1 := Lib.hid (Gr.trans HG.out g1); have HY1 := Lib.hid (HFL.out ▸ hy)
 have HF1 : Hid (∀ y, q = some y → w.heap.size + 1 < y.block) := Lib.hid fun y h => by
  have h2 := hf y h
  simp only [World.size_alloc] at h2
  omega
 clear hy g1 hf HB HA HG HR HT HFL c0; have c0 := HB1.out.cell 0; have f0 := HB1.out.frozen 0; go_wp2_with fail
 go_ret
 have hgr := HG1.out.setCell (p := ⟨w.heap.size, 0, none⟩) (Nat.le_refl _) (.slice q m d); exact ⟨q, m, d, rfl, ⟨HB1.out.set 0 _, HA1.out.far (by show w.heap.size + 1 ≠ w.heap.size; omega) _, ((Oth.refl w.heap.size _).set _).byt HY1.out (fun y h => by have := HF1.out y h; omega)⟩, HF1.out, hgr⟩
structure RX where
 e : Nat
 c : Rc
 pb : Option Addr
 nb : Nat
 cb : Nat
 pa : Option Addr
 na : Nat
 ca : Nat
abbrev RX.agg (x : RX) : Value := .agg #[.int .i64 x.c.k, .int .u64 x.c.t, .int .u64 x.c.p, .int .u64 x.c.x, .int .i64 x.c.g, .int .i64 x.c.o, .slice x.pb x.nb x.cb, .slice x.pa x.na x.ca]
abbrev RX.encs (x : RX) : Array Value := #[.int .u64 x.e, x.agg]
structure RX.Good (x : RX) (W : World) : Prop where
 b : OwnB W 0 5 (.slice x.pb x.nb x.cb) x.c.b
 a : OwnB W 0 5 (.slice x.pa x.na x.ca) x.c.a
 e : x.e ≤ 18446744073709551615
 i : x.c.In
def RX.two (x : RX) : Nat × Rc := (x.e, x.c)
theorem Byt.held {κ : Obj → Bool} {Ks : Nat → Prop} {W W' : World} {p : Option Addr} {n c : Nat} {xs : List Int} (h : Byt W p n c xs) (hκ : ∀ o : Obj, o.isCells = true → κ o = true) (g : HoldS κ Ks W W') (hk : ∀ y, p = some y → Ks y.block) : Byt W' p n c xs :=
 ⟨h.len, h.cap, h.most, fun hn => by
  obtain ⟨b, o, rfl, hc⟩ := h.at hn
  refine ⟨b, o, rfl, fun i hi => ?_⟩; have hci := hc i hi
  have hb : ∃ ob, W.heap[b]? = some ob ∧ ob.isCells = true := by
   unfold World.cell? at hci
   cases ho : W.heap[b]? with
   | none => simp [ho] at hci
   | some ob =>
    refine ⟨ob, rfl, ?_⟩
    cases ob <;> simp [ho] at hci <;> rfl
  obtain ⟨ob, h1, h2⟩ := hb; have h3 := g.same b ob (hk _ rfl) h1 (hκ _ h2); rw [← hci]
  unfold World.cell?
  rw [h3, h1], h.nilCap, h.small⟩
theorem Gr.grown {W W' : World} (g : Gr W W') : W.grownBy W' none := ⟨g.os, g.tape, g.output, g.size, fun k hk _ => g.block k hk⟩
theorem firm_cells (o : Obj) (h : o.isCells = true) : firm o = true := by unfold firm; rw [h]; rfl
theorem Gr.hold {κ : Obj → Bool} {Ks : Nat → Prop} {W W' : World} (g : Gr W W') : HoldS κ Ks W W' := ⟨g.size, fun k _ _ h1 _ => (g.block k (Array.getElem?_eq_some_iff.1 h1).1).trans h1⟩
set_option maxRecDepth 100000 in
set_option maxHeartbeats 4000000 in
theorem all1_told (n : Nat) (hn : 2 ≤ n) (Bb Ba : Nat) (q : Option Addr) (m d : Nat) (xs : List Int) (at' : Nat) (w : World) (h : AllAt w Bb Ba q m d xs at') (hat : at' ≤ 18446744073709551615) (hm : m ≤ 20000) :
  SeqTold Fence.wide n Tryz.prog 103 #[.pointer (some ⟨Bb, 0, none⟩), .pointer (some ⟨Ba, 0, none⟩)] RX.encs (fun pre x V => x.Good V ∧ ∃ zs, (pre ++ [x]).map RX.two ++ zs = allL xs at') (fun k => ∃ y, q = some y ∧ y.block = k) (fun ys => ys.map RX.two = allL xs at') (fun _ => True) w := fun l J Jx W hW hJ hJx hY h0 => by
 have hA := Lib.hid (h.up hW)
 have h1 : 1 ≤ n := by omega
 have c0 : W.cell? ⟨Bb, 0, none⟩ = some (.slice q m d) := hA.out.b.cell 0; have c1 : W.cell? ⟨Ba, 0, none⟩ = some (.int .u64 at') := hA.out.a.cell 0; have HJ := Lib.hid hJ; have HY := Lib.hid hY; have H0 := Lib.hid h0; clear hW hJ hJx hY h0 h; refine callsIn_of_wp Tryz.func103 rfl trivial ?_ rfl
 simp only [Tryz.ntmps103, List.size_toArray, List.length_cons, List.length_nil, Nat.reduceAdd, Nat.reduceSub, Array.replicate_succ, Array.replicate_zero, List.push_toArray, List.append_toArray, List.nil_append, List.cons_append]
 gi_wp2_with fail
 gi_region
 gi_wp2_with fail
 have gd : Gr W W.drew := (Gr.refl W).drew
 have HE : Hid (∀ ys e, ofB ys e = true → ofE ys e = 0) := Lib.hid fun ys e h => by simp [ofE, h]
 have HE1 : Hid (∀ ys e, ofB ys e = false → ofE ys e = 4) := Lib.hid fun ys e h => by simp [ofE, h]
 have HY0 := Lib.hid (hA.out.y.kept gd); have HJ0 := Lib.hid (HJ.out [] W _ none H0.out gd.grown (fun r e => by cases e)); have HS0 := Lib.hid gd.size
 generalize W.drew = W0 at HY0 HJ0 HS0 ⊢
 clear c0 c1 hA H0 gd
 gi_loopw [4, 5] (fun rest en wr => ∃ (pre : List RX) (ys : List Int) (e : Nat) (q' : Option Addr) (m' d' : Nat), rest = .slice q' m' d' ∧ en = .int .u64 e ∧ Hid (Byt wr q' m' d' ys) ∧ Hid (∀ y, q' = some y → ∃ z, q = some z ∧ z.block = y.block) ∧ Hid (pre.map RX.two ++ allL ys e = allL xs at') ∧ e ≤ 18446744073709551615 ∧ m' ≤ 20000 ∧ Hid (J pre wr ∧ W.heap.size ≤ wr.heap.size)) (fun rest _ _ => match rest with | .slice _ k _ => k | _ => 0)
 case atStart => exact ⟨[], xs, at', q, m, d, rfl, rfl, HY0, Lib.hid fun y h => ⟨y, h, rfl⟩, Lib.hid rfl, hat, hm, Lib.hid ⟨HJ0.out, HS0.out⟩⟩
 case round =>
  obtain ⟨pre, ys, e, q', m', d', rfl, rfl, hy, hq, hs, he, hm', hj⟩ := hrel; clear HY0 HJ0 HS0 hat hm
  gi_wp2_with fail
  refine ⟨trivial, ?_⟩; refine (callsIn_wide.2 (of_own q' m' d' ys e _ hy.out he)).mono ?_; rintro e1 V ⟨pb, nb, cb, pa, na, ca, rfl, ho1, ho2, g1⟩; have gn := Gr.trans g1 ((Gr.refl V).alloc (Nat.le_refl _) (.cells #[.int .i64 (ofR ys e).k, .int .u64 (ofR ys e).t, .int .u64 (ofR ys e).p, .int .u64 (ofR ys e).x, .int .i64 (ofR ys e).g, .int .i64 (ofR ys e).o, .slice pb nb cb, .slice pa na ca] TR))
  cases hB : ofB ys e
  ·
   rw [HE1.out _ _ hB]
   gi_wp2_with fail
   refine bodyPost_ret (results_none rfl _ _ _) rfl ?_; exact ⟨⟨_, rfl⟩, .inl ⟨pre, by rw [← hs.out, allL_no hB, List.append_nil], HJ.out pre _ _ none hj.out.1 gn.grown (fun r e => by cases e)⟩⟩
  ·
   rw [HE.out _ _ hB]; have hn := ofN_yes hB; have hly := hy.out.len; have hcy := hy.out.cap
   obtain ⟨b, o, rfl, _⟩ := hy.out.at (by omega)
   obtain ⟨N, hN⟩ : ∃ N, N = ofN ys e := ⟨_, rfl⟩; obtain ⟨R, hR⟩ : ∃ R, R = ofR ys e := ⟨_, rfl⟩; have hN2 := ofN_small hB; have hs2 := hs.out
   rw [allL_yes hB, ← hN, ← hR] at hs2
   rw [← hR] at ho1 ho2 gn ⊢
   rw [← hN] at hn hN2 ⊢
   have hRI : R.In := by rw [hR]; exact ofR_in hy.out.small e
   clear hN hR hB
   have hw : IntKind.u64.wrap ((e : Int) + (N : Int)) = ((onW e N : Nat) : Int) := by rw [IntKind.wrap_u64]; unfold onW; omega
   have hqb := hq.out _ rfl; have HX : ∃ x : RX, x = ⟨onW e N, R, pb, nb, cb, pa, na, ca⟩ := ⟨_, rfl⟩; obtain ⟨x, hx⟩ := HX
   have hgood : x.Good (V.alloc (.cells #[.int .i64 R.k, .int .u64 R.t, .int .u64 R.p, .int .u64 R.x, .int .i64 R.g, .int .i64 R.o, .slice pb nb cb, .slice pa na ca] TR)) := by
    rw [hx]; exact ⟨(ho1.base_le (Nat.zero_le _)).alloc _, (ho2.base_le (Nat.zero_le _)).alloc _, onW_le _ _, hRI⟩
   obtain ⟨fn, tmps, assign, body, hyl, hR⟩ := HY.out pre x _ (HJ.out pre _ _ none hj.out.1 gn.grown (fun r e => by cases e)) ⟨hgood, allL (ys.drop N) (onW e N), by rw [← hs2, hx]; simp [RX.two]⟩
   rw [hx] at hyl
   dsimp only [RX.encs, RX.agg] at hyl
   have HR := Lib.hid hR; have hyt := Lib.hid (hy.out.kept gn); have hsz := Lib.hid (Nat.le_trans hj.out.2 gn.size); have hss : Hid ((pre ++ [x]).map RX.two ++ allL (ys.drop N) (onW e N) = allL xs at') := Lib.hid (by rw [← hs2, hx]; simp [RX.two]); have hbr := (Blk.new V TR #[.int .i64 R.k, .int .u64 R.t, .int .u64 R.p, .int .u64 R.x, .int .i64 R.g, .int .i64 R.o, .slice pb nb cb, .slice pa na ca]).c8; obtain ⟨r0, r1, r2, r3, r4, r5, r6, r7⟩ := hbr
   have hm2 : N ≤ m' := by omega
   clear hgood hR hx hs2 hs hj hy hq gn g1 ho1 ho2 hRI
   by_cases hd : d' = N
   ·
    gi_wp2_with fail
    refine HR.out.mono ?_; rintro e2 V' (⟨rfl, hj2, hk⟩ | ⟨rfl, hx2⟩)
    ·
     have hy2 : Hid (Byt V' (some ⟨b, o, none⟩) (m' - N) 0 (ys.drop N)) := Lib.hid ((show Byt _ (some ⟨b, o, none⟩) (m' - N) 0 (ys.drop N) from by have h := hyt.out.tail N hm2 (some ⟨b, o, none⟩) (fun h => absurd hd h); rw [hd, Nat.sub_self] at h; exact h).held firm_cells hk (fun y h => by cases h; exact hqb)); have hj3 := Lib.hid (show J (pre ++ [x]) V' ∧ W.heap.size ≤ V'.heap.size from ⟨hj2, Nat.le_trans hsz.out hk.size⟩); clear hk hj2 hyt hsz r0 r1 r2 r3 r4 r5 r6 r7 hyl HR
     gi_wp2_with fail
     go_roundw
     case rel => exact ⟨pre ++ [x], ys.drop N, onW e N, (some ⟨b, o, none⟩), m' - N, 0, rfl, rfl, hy2, Lib.hid (fun y h => by cases h; exact hqb), hss, onW_le _ _, by omega, hj3⟩
     case measure => simp; omega
    ·
     gi_wp2_with fail
     refine bodyPost_ret (results_none rfl _ _ _) rfl ?_; exact ⟨⟨_, rfl⟩, .inr ⟨pre ++ [x], trivial, hx2⟩⟩
   ·
    gi_wp2_with fail
    refine HR.out.mono ?_; rintro e2 V' (⟨rfl, hj2, hk⟩ | ⟨rfl, hx2⟩)
    ·
     have hy2 : Hid (Byt V' (some ⟨b, o + N, none⟩) (m' - N) (d' - N) (ys.drop N)) := Lib.hid ((hyt.out.tail N hm2 (some ⟨b, o + N, none⟩) (fun _ => rfl)).held firm_cells hk (fun y h => by cases h; exact hqb)); have hj3 := Lib.hid (show J (pre ++ [x]) V' ∧ W.heap.size ≤ V'.heap.size from ⟨hj2, Nat.le_trans hsz.out hk.size⟩); clear hk hj2 hyt hsz r0 r1 r2 r3 r4 r5 r6 r7 hyl HR
     gi_wp2_with fail
     go_roundw
     case rel => exact ⟨pre ++ [x], ys.drop N, onW e N, (some ⟨b, o + N, none⟩), m' - N, (d' - N), rfl, rfl, hy2, Lib.hid (fun y h => by cases h; exact hqb), hss, onW_le _ _, by omega, hj3⟩
     case measure => simp; omega
    ·
     gi_wp2_with fail
     refine bodyPost_ret (results_none rfl _ _ _) rfl ?_; exact ⟨⟨_, rfl⟩, .inr ⟨pre ++ [x], trivial, hx2⟩⟩
end Go.Proofs.YtbpgonmoepnnpaaGreat
namespace Go.Proofs.YtbpgonmoepnnpaaGreat
namespace Flow
open Go
theorem rows_in {n l : Nat} {P : Program} {row : String} {args : Array Value} {w : World} {R : Value → World → Prop} (h : Go.Rows P row args w R) : RowsIn (Fence.wide.inRound l) n P row args w R := fun c cs _ => by
 obtain ⟨v, w', r, s⟩ := h c cs; exact ⟨v, w', r, stepsIn_wide.2 s⟩
theorem oper_in {n l : Nat} {P : Program} {o : Oper} {a : Act} {w : World} {K : Act → World → Prop} {Q : Exit → Act → World → Prop} (hd : ∀ c, o.op ≠ .defer c) (h : o.wp P a w K Q) : o.wpIn (Fence.wide.inRound l) n P a w K Q := by
 unfold Oper.wpIn
 refine ⟨fun _ _ => trivial, ?_⟩; rw [Oper.semAt_plain _ _ _ hd]
 unfold Oper.wp at h
 generalize (execOp a.eval o).run P w = r at h ⊢
 cases r with
 | ok x w' =>
  cases x with
  | enter f args => exact ⟨(fun hh => by cases hh), (callsIn_wide.2 h).inRound l⟩
  | row row args => exact ⟨(fun hh => by cases hh), rows_in h⟩
  | round => exact h.elim
  | _ => exact h
 | halt x w' => cases x <;> exact h
section
variable {P : Program} {ops : Array Oper} {Q : Exit → Act → World → Prop} {md : Region.Mode} {l n : Nat}
variable {Sl : Nat → Value → World → Prop} {Inv : World → Prop} {G : World → World → Prop} {a0 : Act}
end
end Flow
end Go.Proofs.YtbpgonmoepnnpaaGreat
namespace Go.Proofs.YtbpgonmoepnnpaaGreat
open Go.RowKit Go.Maps Go.Shelf
attribute [local go_sem] Oper.semAt_some
abbrev CX : Type := Nat × Option Addr × Nat
def encC (x : CX) : Array Value := #[.slice x.2.1 x.2.2 x.2.2]
def chN (m : Nat) : Nat := (m + 231) / 232
def ChG (q : Option Addr) (m c : Nat) (pre : List CX) (x : CX) (_ : World) : Prop := x.1 = pre.length ∧ 232 * x.1 < m ∧ x.2.2 = min 232 (m - 232 * x.1) ∧ CutOf q m c (232 * x.1) (232 * x.1 + x.2.2) x.2.2 x.2.1
theorem chunk_any (q : Option Addr) (m c : Nat) (w : World) : Calls Tryz.prog 77 #[.slice q m c, .int .i64 232] w fun e w' => e = .returned (.func (.func 95) #[] #[.pointer (some ⟨w.heap.size, 0, none⟩), .pointer (some ⟨w.heap.size + 1, 0, none⟩)]) ∧ Blk w' w.heap.size TBs #[.slice q m c] ∧ Blk w' (w.heap.size + 1) TI #[.int .i64 232] ∧ Gr w w' ∧ w.heap.size + 1 < w'.heap.size := by
 have h1 := Blk.new w TBs #[.slice q m c]; have h2 := Blk.new (w.alloc (.cells #[.slice q m c] TBs)) TI #[.int .i64 232]
 simp only [World.size_alloc] at h2
 have H1 := Lib.hid (h1.alloc (.cells #[.int .i64 232] TI)); have H2 := Lib.hid h2; have HG := Lib.hid (Gr.trans (Gr.new w (.cells #[.slice q m c] TBs)) (Gr.new _ (.cells #[.int .i64 232] TI))); have c1 := h2.cell 0
 simp at c1
 clear h1 h2
 go_enter Tryz.func77, Tryz.ntmps77
 go_wp2_with fail
 go_ret
 exact ⟨rfl, H1.out, H2.out, HG.out, by simp⟩
set_option maxRecDepth 100000 in
set_option maxHeartbeats 2000000 in
theorem chunk1_told (n : Nat) (hn : 2 ≤ n) (Bs Bn : Nat) (q : Option Addr) (m c : Nat) (w : World) (hs : Blk w Bs TBs #[.slice q m c]) (hb : Blk w Bn TI #[.int .i64 232]) (hc : m ≤ c) (hm : m ≤ 1000000) :
  SeqTold Fence.wide n Tryz.prog 95 #[.pointer (some ⟨Bs, 0, none⟩), .pointer (some ⟨Bn, 0, none⟩)] encC (ChG q m c) (fun k => k = Bs ∨ k = Bn) (fun ys => ys.length = chN m) (fun _ => True) w := fun l J Jx W hW hJ hJx hY h0 => by
 have h1 : 1 ≤ n := by omega
 have HJ := Lib.hid hJ; have HY := Lib.hid hY; have H0 := Lib.hid h0; have HS := Lib.hid (hs.gr hW); have HN := Lib.hid (hb.gr hW); clear hW hJ hJx hY h0 hs hb; refine callsIn_of_wp Tryz.func95 rfl trivial ?_ rfl
 simp only [Tryz.ntmps95, List.size_toArray, List.length_cons, List.length_nil, Nat.reduceAdd, Nat.reduceSub, Array.replicate_succ, Array.replicate_zero, List.push_toArray, List.append_toArray, List.nil_append, List.cons_append]
 gi_wp2_with fail
 gi_loopw [4] (fun iv wr => ∃ (pre : List CX) (i : Nat), iv = .int .i64 (i : Int) ∧ i < m + 232 ∧ Hid (i = 232 * pre.length) ∧ Hid (J pre wr ∧ Blk wr Bs TBs #[.slice q m c] ∧ Blk wr Bn TI #[.int .i64 232] ∧ W.heap.size ≤ wr.heap.size)) (fun iv _ => m + 232 - (intOf iv).toNat)
 case atStart => exact ⟨[], 0, rfl, by omega, Lib.hid rfl, Lib.hid ⟨H0.out, HS.out, HN.out, Nat.le_refl _⟩⟩
 case round =>
  obtain ⟨pre, i, rfl, hp, HI, hh⟩ := hrel; have c1 := hh.out.2.1.cell 0; have c2 := hh.out.2.2.1.cell 0
  simp at c1 c2
  by_cases hlt : i < m
  ·
   have hlt2 : (i : Int) < (m : Int) := by omega
   obtain ⟨q1, hcut1, _⟩ := cut_l (p := q) (n := m) (c := c) i (by omega) hc; obtain ⟨K, hK⟩ : ∃ K, K = min 232 (m - i) := ⟨_, rfl⟩
   have hmin : min (232 : Int) ((m - i : Nat) : Int) = (K : Int) := by omega
   obtain ⟨E, hE⟩ : ∃ E, E = i + K := ⟨_, rfl⟩; obtain ⟨q2, hcut2, hof2⟩ := cut_lhm (p := q) (n := m) (c := c) i E E (by omega) (by omega) (Nat.le_refl _) (by omega)
   have hEK : E - i = K := by omega
   rw [hEK] at hcut2 hof2
   have hw1 : IntKind.i64.wrap ((i : Int) + (K : Int)) = (E : Int) := by rw [IntWalk.i64_in _ (by omega)]; omega
   have hi0 : (0 : Int) ≤ (i : Int) := by omega
   have hi2 : (i : Int) ≤ (m : Int) := by omega
   have hE2 : (E : Int) ≤ (c : Int) := by omega
   have hiE : (i : Int) ≤ (E : Int) := by omega
   have hx : ∃ x : CX, x = (pre.length, q2, K) := ⟨_, rfl⟩; obtain ⟨x, hx⟩ := hx
   have HG : Hid (∀ V, ChG q m c pre x V) := Lib.hid fun V => by
    rw [hx]; have h3 := HI.out; refine ⟨rfl, by show 232 * pre.length < m; omega, by show K = min 232 (m - 232 * pre.length); rw [← h3]; exact hK, ?_⟩
    show CutOf q m c (232 * pre.length) (232 * pre.length + K) K q2
    rw [← h3, ← hE]; exact hof2
   have HX := Lib.hid hx; have HK : Hid (E = i + K ∧ (K = 232 ∨ K = m - i) ∧ K ≤ 232 ∧ 0 < K) := Lib.hid ⟨hE, by omega, by omega, by omega⟩; clear hK hE hEK hof2 hx
   gi_wp2_with fail
   refine wpIn_wide.2 ?_
   go_quiet (fail)
   have gd : Gr wr (wr.drewN nq) := below_drewN (Gr.refl wr) nq; have HV : Hid (J pre (wr.drewN nq) ∧ Blk (wr.drewN nq) Bs TBs #[.slice q m c] ∧ Blk (wr.drewN nq) Bn TI #[.int .i64 232] ∧ W.heap.size ≤ (wr.drewN nq).heap.size) := Lib.hid ⟨HJ.out pre _ _ none hh.out.1 gd.grown (fun r e => by cases e), hh.out.2.1.gr gd, hh.out.2.2.1.gr gd, Nat.le_trans hh.out.2.2.2 gd.size⟩; obtain ⟨V, hV⟩ : ∃ V, V = wr.drewN nq := ⟨_, rfl⟩
   rw [← hV] at HV ⊢
   clear hV gd hh c1 c2 hcut1 hmin; have c1 := HV.out.2.1.cell 0; have c2 := HV.out.2.2.1.cell 0
   simp at c1 c2
   obtain ⟨fn, tmps, assign, body, hyl, hR⟩ := HY.out pre x V HV.out.1 (HG.out V)
   rw [HX.out] at hyl
   dsimp only [encC] at hyl
   have HR := Lib.hid hR; clear hR
   gi_wp2_with fail
   refine HR.out.mono ?_; rintro e2 V' (⟨rfl, hj2, hk⟩ | ⟨rfl, hx2⟩)
   ·
    have HV2 : Hid (J (pre ++ [x]) V' ∧ Blk V' Bs TBs #[.slice q m c] ∧ Blk V' Bn TI #[.int .i64 232] ∧ W.heap.size ≤ V'.heap.size) := Lib.hid ⟨hj2, hk.same Bs _ (.inl rfl) HV.out.2.1 rfl, hk.same Bn _ (.inr rfl) HV.out.2.2.1 rfl, Nat.le_trans HV.out.2.2.2 hk.size⟩; have c1' := HV2.out.2.1.cell 0; have c2' := HV2.out.2.2.1.cell 0
    simp at c1' c2'
    have hw3 : IntKind.i64.wrap ((i : Int) + 232) = (i : Int) + 232 := IntWalk.i64_in _ (by omega); clear hk hj2 hyl HR c1 c2
    gi_wp2_with fail
    go_roundw
    case rel => exact ⟨pre ++ [x], i + 232, by go_num, by omega, Lib.hid (by have := HI.out; simp; omega), HV2⟩
    case measure => simp [intOf]; omega
   ·
    clear hyl HR
    gi_wp2_with fail
    exact bodyPost_ret (results_none rfl _ _ _) rfl ⟨⟨_, rfl⟩, .inr ⟨pre ++ [x], trivial, hx2⟩⟩
  ·
   have hge : ¬ (i : Int) < (m : Int) := by omega
   gi_wp2_with fail
   exact bodyPost_end (results_none rfl _ _ _) rfl ⟨⟨_, rfl⟩, .inl ⟨pre, by have := HI.out; unfold chN; omega, hh.out.1⟩⟩
end Go.Proofs.YtbpgonmoepnnpaaGreat
namespace Go.Proofs.YtbpgonmoepnnpaaGreat
open Go.RowKit
theorem hold_grown {W W' : World} {row : Option Nat} (g : W.grownBy W' row) (hr : ∀ r, row = some r → ∃ o : Obj, W.heap[r]? = some o ∧ o.isCells = false) : HoldS Obj.isCells (fun _ => True) W W' :=
 ⟨g.size, fun k o _ hk hc => (g.block k (Array.getElem?_eq_some_iff.1 hk).1 (fun e => by
  obtain ⟨o2, h1, h2⟩ := hr k e.symm
  rw [hk] at h1
  cases h1
  rw [hc] at h2
  cases h2)).trans hk⟩
theorem Blk.held {W W' : World} {g : Nat} {t : TypeId} {cs : Array Value} (h : Blk W g t cs) (k : HoldS Obj.isCells (fun _ => True) W W') : Blk W' g t cs := k.same g _ trivial h rfl
theorem results_cell_one {fn : Func} {p : Tmp} {ty : TypeId} (h : fn.results = #[.cell p ty]) (ha : ∀ w, (isAgg ty).run Tryz.prog w = .ok false w) (tmps : Array Value) (w : World) (a : Addr) (v : Value) (hp : tmps.getD p undef = .pointer (some a)) (hc : w.cell? a = some v) : (results fn tmps).run Tryz.prog w = .ok v w := by
 simp only [results, h]
 simp [-Array.getD_eq_getD_getElem?, Sem.run_bind, Result.andThen, hp, asAddr, loadVar, ha, hc]
end Go.Proofs.YtbpgonmoepnnpaaGreat
namespace Go.Proofs.YtbpgonmoepnnpaaGreat
open Go.RowKit
def SeqToldK {α : Type} (F : Fence) (n : Nat) (P : Program) (g : Nat) (lb : Array Value) (encs : α → Array Value) (G : List α → α → World → Prop) (Ks : Nat → Prop) (S Sp : List α → Prop) (w : World) : Prop :=
 ∀ (l : Nat) (J Jx : List α → World → Prop) (W : World), Below w.heap.size w W → OwnFrom W.heap.size J → OwnFrom W.heap.size Jx →
  (∀ pre x V, J pre V → G pre x V → YieldAt F (n - 1) P l (encs x) V fun e V' => (e = .returned (.bool true) ∧ J (pre ++ [x]) V' ∧ HoldS firm Ks V V' ∧ KeepsFrom W.heap.size V V') ∨ (e = .returned (.bool false) ∧ Jx (pre ++ [x]) V' ∧ KeepsFrom W.heap.size V V')) →
  J [] W → CallsIn F n P g (#[.func (.yield l) #[] #[]] ++ lb) W fun e V => (∃ v, e = .returned v) ∧ ((∃ xs, S xs ∧ J xs V) ∨ ∃ pre, Sp pre ∧ Jx pre V)
theorem SeqTold.keeps {α : Type} {F : Fence} {n : Nat} {P : Program} {g : Nat} {lb : Array Value} {encs : α → Array Value} {G : List α → α → World → Prop} {Ks : Nat → Prop} {S Sp : List α → Prop} {w : World} (h : SeqTold F n P g lb encs G Ks S Sp w) : SeqToldK F n P g lb encs G Ks S Sp w :=
 fun l J Jx W hW hJ hJx hY h0 => h l J Jx W hW hJ hJx (fun pre x V hj hg => (hY pre x V hj hg).mono (fun e V' he => by
  rcases he with ⟨h1, h2, h3, _⟩ | ⟨h1, h2, _⟩
  · exact .inl ⟨h1, h2, h3⟩
  · exact .inr ⟨h1, h2⟩)) h0
variable {F : Fence} {n : Nat} {P : Program} {w : World}
theorem wpIn_range_toldK {α : Type} {g : Operand} {ps : Array Tmp} {assign body : Code} {Q : Exit → Act → World → Prop} {a : Act}
  (hro : F.round = none) (h1 : 1 ≤ n) {gf : Nat} {lb : Array Value} (hg : a.eval g = .func (.func gf) #[] lb) (hFg : F.fn gf) (eg : ∀ args w, (callFunc gf args).run P w = .ok (.enter gf args) w)
  {encs : α → Array Value} {G : List α → α → World → Prop} {Ks : Nat → Prop} {S Sp : List α → Prop} {w0 : World} (hseq : SeqToldK F (n - 1) P gf lb encs G Ks S Sp w0)
  (hb0 : Below w0.heap.size w0 w) (hps : ∀ x, (encs x).size = ps.size)
  (I Ir : List α → World → Prop) (hI : OwnFrom w.heap.size I) (hIr : OwnFrom w.heap.size Ir) (h0 : I [] w) (Ax : List α → α → Act → World → Prop) (hAx : ∀ pre x b, OwnFrom w.heap.size (fun (_ : Unit) W => Ax pre x b W))
  (hassign : ∀ (l : Nat) (pre : List α) (x : α) (W : World) (K : Act → World → Prop), I pre W → G pre x W → (∀ b V, KeepsFrom w.heap.size W V → HoldS firm Ks W V → I pre V → Ax pre x b V → K b V) →
   assign.wpIn (F.inRound l) (n - 1 - 1) P (Exit.then K (fun _ _ _ => False)) { tmps := (ps.zip (encs x)).foldl (fun t (p, v) => t.setIfInBounds p v) a.tmps, defers := [] } W)
  (hbody : ∀ (l : Nat) (pre : List α) (x : α) (b : Act) (W : World), w.heap.size ≤ l → I pre W → Ax pre x b W → body.wpIn (F.inRound l) (n - 1 - 1) P (toldPost w.heap.size Ks I Ir (pre ++ [x]) W) b W)
  (hdone : ∀ (D : Nat) (xs : List α) (W : World), w.heap.size ≤ D → S xs → I xs W → W.heap[D]? = some (.deferred (some [])) → Q .normal { a with defers := { target := .collected D, args := #[] } :: a.defers } W)
  (hstop : ∀ (D : Nat) (pre : List α) (W : World), w.heap.size ≤ D → Sp pre → Ir pre W → W.heap[D]? = some (.deferred (some [])) → Code.ret.wpIn F n P Q { a with defers := { target := .collected D, args := #[] } :: a.defers } W) :
  (Code.rangeFunc g ps assign body).wpIn F n P Q a w := by
 refine wpIn_rangeFunc fun fn hfn => ?_
 rw [hro]; obtain ⟨B, hB⟩ : ∃ B, B = w.heap.size := ⟨_, rfl⟩
 obtain ⟨rec, hrec⟩ : ∃ rec : LoopState → Option Code → Loop, rec = fun st pe => { state := st, pending := pe, fn, tmps := a.tmps, params := ps, assign, body, defers := w.heap.size } := ⟨_, rfl⟩
 obtain ⟨V, hV⟩ : ∃ V, V = (w.alloc (.deferred (some []))).alloc (.loop (rec .ready none)) := ⟨_, rfl⟩
 let Bk : LoopState → Option Code → World → Prop := fun st pe W => W.heap[B + 1]? = some (.loop (rec st pe)) ∧ W.heap[B]? = some (.deferred (some []))
 have hVs : V.heap.size = B + 1 + 1 := by rw [hV, hB]; simp
 have hBk : Bk .ready none V := ⟨by rw [hV, hB]; have := World.alloc_heap_new (w.alloc (.deferred (some []))) (.loop (rec .ready none)); rwa [World.size_alloc] at this,
  by rw [hV, hB]; exact (Below.heap_alloc _ _ _ (by simp)).trans (World.alloc_heap_new w _)⟩
 have hIV : I [] V := by rw [hV]; exact hI.alloc _ (hI.alloc _ h0)
 have hbV : Below w0.heap.size w0 V := by rw [hV]; exact hb0.trans ((((Below.refl _ w).alloc (Nat.le_refl _) _).alloc (by simp) _).mono hb0.size)
 have keep : ∀ {st pe} {X Y : World} {row : Option Nat}, Bk st pe X → X.grownBy Y row → (∀ r, row = some r → V.heap.size ≤ r ∧ ∃ o : Obj, X.heap[r]? = some o ∧ o.isCells = false) → Bk st pe Y := fun h hg' hr =>
  ⟨(hg'.block _ (Array.getElem?_eq_some_iff.1 h.1).1 (fun e => by have := (hr _ e.symm).1; omega)).trans h.1, (hg'.block _ (Array.getElem?_eq_some_iff.1 h.2).1 (fun e => by have := (hr _ e.symm).1; omega)).trans h.2⟩
 have cells : ∀ {X : World} {row : Option Nat}, (∀ r, row = some r → V.heap.size ≤ r ∧ ∃ o : Obj, X.heap[r]? = some o ∧ o.isCells = false) → ∀ r, row = some r → w.heap.size ≤ r ∧ ∃ o : Obj, X.heap[r]? = some o ∧ o.isCells = false := fun hr r e => by
  obtain ⟨h2, ho⟩ := hr r e; exact ⟨by omega, ho⟩
 have turn : ∀ {st pe} (st' : LoopState) (pe' : Option Code) {X : World}, Bk st pe X → Bk st' pe' (X.putObj (B + 1) (.loop (rec st' pe'))) := fun st' pe' X h =>
  ⟨World.putObj_heap_same (Array.getElem?_eq_some_iff.1 h.1).1, (World.putObj_heap_other (by omega)).trans h.2⟩
 refine ⟨B + 1, [{ target := .collected B, args := #[] }], V, { target := .fn (.func gf) lb, args := #[.func (.yield (B + 1)) #[] #[]] }, V, gf, #[.func (.yield (B + 1)) #[] #[]] ++ lb, V, ?_, ?_, ?_, ?_, fun _ => h1, ?_⟩
 · rw [hV, hB, hrec]; exact run_enterLoop_outer _ _ _ _ _
 ·
  simp only [resolve, hg]
  simp [go_sem]
 · intro f' hf'; simp [Target.leads] at hf'; subst hf'; exact hFg
 · simp [invoke, go_sem, eg]
 refine (hseq (B + 1) (fun pre W => I pre W ∧ Bk .ready none W) (fun pre W => Ir pre W ∧ Bk .done (some .ret) W) V hbV
  (fun s X Y row h hg' hr => ⟨hI s X Y row h.1 hg' (cells hr), keep h.2 hg' hr⟩) (fun s X Y row h hg' hr => ⟨hIr s X Y row h.1 hg' (cells hr), keep h.2 hg' hr⟩) ?round ⟨hIV, hBk⟩).mono ?after
 case round =>
  rintro pre x W ⟨hi, hk⟩ hG; have hy := run_yield (P := P) (args := encs x) hk.1 (by rw [hrec]; exact hps x)
  rw [hrec] at hy
  refine ⟨fn, _, assign, body, hy, roundIn_of_wpIn hfn (hassign _ pre x W _ hi hG fun b X hfx hsx hix hax => ?_)⟩; have hkx : Bk .ready none X := ⟨hfx.same _ _ (by omega) hk.1 rfl, hfx.same _ _ (by omega) hk.2 rfl⟩; refine ⟨_, run_beginRound hkx.1 (by rw [hrec]), ?_⟩; have hk2 := turn .busy none hkx
  have e2 : ({ rec .ready none with state := .busy } : Loop) = rec .busy none := by rw [hrec]
  rw [e2]; refine wpIn_mono (hbody _ pre x b _ (by omega) (hI.putObj _ hix (by omega) hkx.1 rfl) ((hAx pre x b).putObj (s := ()) _ hax (by omega) hkx.1 rfl)) ?_
  have fin : ∀ (jump : Option Code) (Y : World), KeepsFrom w.heap.size (X.putObj (B + 1) (.loop (rec .busy none))) Y → Bk .busy none Y ∧
    (Instr.endRound (B + 1) jump).run P Y = .ok (.bool jump.isNone) (Y.putObj (B + 1) (.loop (rec (if jump.isNone then .ready else .done) jump))) := fun jump Y hY => by
   have h3 : Bk .busy none Y := ⟨hY.same _ _ (by omega) hk2.1 rfl, hY.same _ _ (by omega) hk2.2 rfl⟩; have h4 := run_endRound (P := P) jump h3.1
   rw [hrec] at h4 ⊢
   exact ⟨h3, h4⟩
  have put : ∀ (Z : World) (o : Obj), KeepsFrom V.heap.size Z (Z.putObj (B + 1) o) := fun Z o => KeepsFrom.of_grownBy (grownBy_putObj' Z (B + 1) o) (fun j e => by cases e; omega)
  have low : ∀ {Y Z : World}, KeepsFrom w.heap.size Y Z → KeepsFrom V.heap.size Y Z := fun h => ⟨h.size, fun k o hB hk ho => h.same k o (by omega) hk ho⟩
  have kf : ∀ (jump : Option Code) (Y : World), KeepsFrom w.heap.size (X.putObj (B + 1) (.loop (rec .busy none))) Y → KeepsFrom V.heap.size W (Y.putObj (B + 1) (.loop (rec (if jump.isNone then .ready else .done) jump))) := fun jump Y hY => (low hfx).trans ((put _ _).trans ((low hY).trans (put _ _)))
  rintro e c Y hp
  cases e with
  | normal =>
   obtain ⟨hf, hs, hi3⟩ := hp; obtain ⟨h3, hr⟩ := fin none Y hf; exact ⟨_, _, hr, .inl ⟨rfl, ⟨hI.putObj _ hi3 (by omega) h3.1 rfl, turn .ready none h3⟩, hsx.trans ((HoldS.put _ _ _ _ hkx.1 rfl).trans (hs.trans (HoldS.put _ _ _ _ h3.1 rfl))), kf none Y hf⟩⟩
  | ret =>
   obtain ⟨hf, hi3⟩ := hp; obtain ⟨h3, hr⟩ := fin (some .ret) Y hf; exact ⟨_, _, hr, .inr ⟨rfl, ⟨hIr.putObj _ hi3 (by omega) h3.1 rfl, turn .done (some .ret) h3⟩, kf (some .ret) Y hf⟩⟩
  | exit id => exact hp.elim
  | goto t => exact hp.elim
  | panic ch => exact hp.elim
  | outgrown => exact hp.elim
 case after =>
  rintro e W2 ⟨⟨v, rfl⟩, ⟨xs, hS, hi, hk⟩ | ⟨pre, hSp, hi, hk⟩⟩
  ·
   have he := run_endLoop (P := P) hk.1 (by rw [hrec]; simp)
   rw [hrec] at he
   exact ⟨none, _, he, by rw [hB]; exact hdone _ xs _ (Nat.le_refl _) hS (by rw [← hB]; exact hI.putObj _ hi (by omega) hk.1 rfl) (by rw [← hB]; exact (World.putObj_heap_other (by omega)).trans hk.2)⟩
  ·
   have he := run_endLoop (P := P) hk.1 (by rw [hrec]; simp)
   rw [hrec] at he
   exact ⟨some .ret, _, he, by rw [hB]; exact hstop _ pre _ (Nat.le_refl _) hSp (by rw [← hB]; exact hIr.putObj _ hi (by omega) hk.1 rfl) (by rw [← hB]; exact (World.putObj_heap_other (by omega)).trans hk.2)⟩
theorem wpIn_range_toldF {α ρ : Type} {g : Operand} {ps : Array Tmp} {assign body : Code} {Q : Exit → Act → World → Prop} {a : Act}
  (hro : F.round = none) (h1 : 1 ≤ n) {gf : Nat} {lb : Array Value} (hg : a.eval g = .func (.func gf) #[] lb) (hFg : F.fn gf) (eg : ∀ args w, (callFunc gf args).run P w = .ok (.enter gf args) w)
  {encs : α → Array Value} {G : List α → α → World → Prop} {Ks : Nat → Prop} {S Sp : List α → Prop} {w0 : World} (hseq : SeqToldK F (n - 1) P gf lb encs G Ks S Sp w0)
  (hb0 : Below w0.heap.size w0 w) (hps : ∀ x, (encs x).size = ps.size)
  (I Ir : List α → World → Prop) (hI : OwnFrom w.heap.size I) (hIr : OwnFrom w.heap.size Ir) (h0 : I [] w) (upd : Array Value → α → ρ → Array Value) (Bx : List α → α → ρ → World → Prop) (hBx : ∀ pre x R, OwnFrom w.heap.size (fun (_ : Unit) W => Bx pre x R W))
  (hassign : ∀ (l : Nat) (pre : List α) (x : α) (W : World) (K : Act → World → Prop), I pre W → G pre x W → (∀ R V, KeepsFrom w.heap.size W V → HoldS firm Ks W V → I pre V → Bx pre x R V → K { tmps := upd a.tmps x R, defers := [] } V) →
   assign.wpIn (F.inRound l) (n - 1 - 1) P (Exit.then K (fun _ _ _ => False)) { tmps := (ps.zip (encs x)).foldl (fun t (p, v) => t.setIfInBounds p v) a.tmps, defers := [] } W)
  (hbody : ∀ (l : Nat) (pre : List α) (x : α) (R : ρ) (W : World), w.heap.size ≤ l → I pre W → Bx pre x R W → body.wpIn (F.inRound l) (n - 1 - 1) P (toldPost w.heap.size Ks I Ir (pre ++ [x]) W) { tmps := upd a.tmps x R, defers := [] } W)
  (hdone : ∀ (D : Nat) (xs : List α) (W : World), w.heap.size ≤ D → S xs → I xs W → W.heap[D]? = some (.deferred (some [])) → Q .normal { a with defers := { target := .collected D, args := #[] } :: a.defers } W)
  (hstop : ∀ (D : Nat) (pre : List α) (W : World), w.heap.size ≤ D → Sp pre → Ir pre W → W.heap[D]? = some (.deferred (some [])) → Code.ret.wpIn F n P Q { a with defers := { target := .collected D, args := #[] } :: a.defers } W) :
  (Code.rangeFunc g ps assign body).wpIn F n P Q a w :=
 wpIn_range_toldK hro h1 hg hFg eg hseq hb0 hps I Ir hI hIr h0 (fun pre x b V => ∃ R, Bx pre x R V ∧ b = { tmps := upd a.tmps x R, defers := [] })
  (fun pre x b s X Y row ⟨R, h, e⟩ hg hr => ⟨R, hBx pre x R () X Y row h hg hr, e⟩)
  (fun l pre x W K hi hx hK => hassign l pre x W K hi hx fun R V h1 h2 h3 h4 => hK _ V h1 h2 h3 ⟨R, h4, rfl⟩)
  (fun l pre x b W hl hi ⟨R, h, e⟩ => by subst e; exact hbody l pre x R W hl hi h) hdone hstop
end Go.Proofs.YtbpgonmoepnnpaaGreat
namespace Go.Proofs.YtbpgonmoepnnpaaGreat
open Go.RowKit Go.Maps Go.Shelf
attribute [local go_sem] Oper.semAt_some
def wrI (L : Lg) (j : Nat) : Nat := 3 + (L.lasts / 232 + j) % L.l.toNat
def wrX (L : Lg) (j : Nat) : Sec := Sx (secL (L.lasts / 232 + j) L.epoch ((L.txt.drop (232 * j)).take 232))
def wrAll (L : Lg) : Nat → Nat → St → St × Int
 | 0, _, s => (BaS s, BaE s)
 | n + 1, j, s => if s.refuses then ({ s with dead := true }, 8) else wrAll L n (j + 1) (s.wrote (wrI L j) (wrX L j))
theorem chunk_eq {xs : List Int} {a n m : Nat} (hl : xs.length = m) (hn : n = min 232 (m - a)) : (xs.take (a + n)).drop a = (xs.drop a).take 232 := by
 rw [List.drop_take, show a + n - a = n by omega]
 rcases Nat.le_total 232 (m - a) with h | h
 · rw [show n = 232 by omega]
 · rw [List.take_of_length_le (by rw [List.length_drop]; omega), List.take_of_length_le (by rw [List.length_drop]; omega)]
abbrev TPL2 : TypeId := 42
abbrev TEr : TypeId := 39
structure WaAt (w : World) (F0 : Nat → Prop) (X b : Nat) (p : Value) (q : Option Addr) (m c mm : Nat) (L : Lg) (r : Int) (k : Nat) (s : St) (F : Nat → Prop) (W : World) : Prop where
 dk : DkM W F p mm s
 lg : LgAt W b p q m c L
 apart : ∀ k, F k → ¬ lgS b q k
 box : Blk W w.heap.size TPL2 #[.pointer (some ⟨b, 0, none⟩)]
 res : Blk W (w.heap.size + 1) TEr #[.int .i64 r]
 num : Blk W (w.heap.size + 1 + 1) TU #[.int .u64 (k : Int)]
 upd : Upd (wlS F0 b q) (wlS F b q) w W
 far : ∀ k, F k → k < w.heap.size ∨ X ≤ k
 ml : mm < w.heap.size
 xs : w.heap.size + 1 + 1 < X ∧ X ≤ W.heap.size
 lgl : ∀ k, lgS b q k → k < w.heap.size
section
variable {w : World} {F0 : Nat → Prop} {X b : Nat} {p : Value} {q : Option Addr} {m c mm : Nat} {L : Lg} {r : Int} {k : Nat} {s : St} {F : Nat → Prop} {W W' : World}
theorem WaAt.wl (h : WaAt w F0 X b p q m c mm L r k s F W) : Wl W F b p q m c s L := ⟨h.dk.dk, h.lg, h.apart⟩
theorem WaAt.write {F' : Nat → Prop} {s' : St} (h : WaAt w F0 X b p q m c mm L r k s F W) (hd : DkM W' F' p mm s') (hu : Upd F F' W W') : WaAt w F0 X b p q m c mm L r k s' F' W' := by
 obtain ⟨h1, h2⟩ := hu.other h.lg.low h.apart; have hx := h.xs
 have hb : ∀ j, w.heap.size ≤ j → j < X → W'.heap[j]? = W.heap[j]? := fun j hj hj2 => hu.block j (by omega) (fun hf => by have := h.far j hf; omega)
 refine ⟨hd, h.lg.stays h1 hu.size, h2, h.box.stays (hb _ (by omega) (by omega)), h.res.stays (hb _ (by omega) (by omega)), h.num.stays (hb _ (by omega) (by omega)), h.upd.comp ⟨hu.os, hu.tape, hu.output, hu.size, fun j hj hn => hu.block j hj (fun e => hn (.inl e)), fun j hj => hj.elim (fun e => (hu.fresh j e).imp .inl id) (fun e => .inl (.inr e))⟩, fun j hj => ?_, h.ml, ⟨hx.1, Nat.le_trans hx.2 hu.size⟩, h.lgl⟩
 rcases hu.fresh j hj with h3 | h3
 · exact h.far j h3
 · exact .inr (by omega)
theorem WaAt.kept {F' : Nat → Prop} (h : WaAt w F0 X b p q m c mm L r k s F W) (hu : Upd F F' W W') : KeepsFrom X W W' ∧ ∀ Bs Bn, w.heap.size ≤ Bs → Bs < X → w.heap.size ≤ Bn → Bn < X → HoldS firm (fun k => k = Bs ∨ k = Bn) W W' := by
 refine ⟨⟨hu.size, fun j o hj h1 h2 => ?_⟩, fun Bs Bn h1 h2 h3 h4 => ⟨hu.size, fun j o hj h5 _ => ?_⟩⟩
 ·
  refine (hu.block j (Array.getElem?_eq_some_iff.1 h1).1 (fun hf => ?_)).trans h1
  rcases h.dk.2 j hf with e | ⟨cs, t, fr, hc⟩
  · have := h.ml; have := h.xs.1; omega
  ·
   rw [h1] at hc
   cases hc
   cases h2
 ·
  refine (hu.block j (Array.getElem?_eq_some_iff.1 h5).1 (fun hf => ?_)).trans h5; have := h.far j hf
  rcases hj with rfl | rfl <;> omega
theorem WaAt.held (h : WaAt w F0 X b p q m c mm L r k s F W) {row : Option Nat} (g : W.grownBy W' row) (hr : ∀ j, row = some j → X ≤ j ∧ ∃ o : Obj, W.heap[j]? = some o ∧ o.isCells = false) : WaAt w F0 X b p q m c mm L r k s F W' := by
 have hk := hold_grown g (fun j e => (hr j e).2); have hx := h.xs
 have hF : ∀ j, F j → W'.heap[j]? = W.heap[j]? := fun j hj => by
  rcases h.dk.2 j hj with e | ⟨cs, t, fr, hc⟩
  ·
   refine g.block j (h.dk.dk.low j hj) (fun e2 => ?_); have := (hr j e2.symm).1; have := h.ml
   omega
  · exact (hk.same j _ trivial hc rfl).trans hc.symm
 have hL : ∀ j, j < w.heap.size → j < W.heap.size → W'.heap[j]? = W.heap[j]? := fun j hj hj2 => g.block j hj2 (fun e => by have := (hr j e.symm).1; omega)
 refine ⟨h.dk.stays hF g.size, h.lg.stays (fun j hj => hL j (h.lgl j hj) (h.lg.low j hj)) g.size, h.apart, h.box.held hk, h.res.held hk, h.num.held hk, ⟨g.os.trans h.upd.os, g.tape.trans h.upd.tape, g.output.trans h.upd.output, Nat.le_trans h.upd.size g.size, fun j hj hn => (hL j hj (Nat.lt_of_lt_of_le hj h.upd.size)).trans (h.upd.block j hj hn), h.upd.fresh⟩, h.far, h.ml, ⟨hx.1, Nat.le_trans hx.2 g.size⟩, h.lgl⟩
theorem WaAt.cell (h : WaAt w F0 X b p q m c mm L r k s F W) (i : Nat) (hi : w.heap.size ≤ i) (hi2 : i < X) (u : Value) : (∀ j, j ≠ i → (W.setCell ⟨i, 0, none⟩ u).heap[j]? = W.heap[j]?) ∧ DkM (W.setCell ⟨i, 0, none⟩ u) F p mm s ∧ LgAt (W.setCell ⟨i, 0, none⟩ u) b p q m c L ∧ Upd (wlS F0 b q) (wlS F b q) w (W.setCell ⟨i, 0, none⟩ u) := by
 have ho := Only.cell i 0 W u; have hsz : W.heap.size ≤ (W.setCell ⟨i, 0, none⟩ u).heap.size := Nat.le_of_eq ho.size.symm; exact ⟨ho.block, h.dk.stays (fun j hj => ho.block j (fun e => by have := h.far j hj; omega)) hsz, h.lg.stays (fun j hj => ho.block j (fun e => by have := h.lgl j hj; omega)) hsz, ⟨ho.os.trans h.upd.os, ho.tape.trans h.upd.tape, ho.output.trans h.upd.output, Nat.le_trans h.upd.size hsz, fun j hj hn => (ho.block j (by omega)).trans (h.upd.block j hj hn), h.upd.fresh⟩⟩
theorem WaAt.next (h : WaAt w F0 X b p q m c mm L r k s F W) {k' : Nat} (u : Int) (hu : u = (k' : Int)) : WaAt w F0 X b p q m c mm L r k' s F (W.setCell ⟨w.heap.size + 1 + 1, 0, none⟩ (.int .u64 u)) := by
 have hx := h.xs; obtain ⟨h1, h2, h3, h4⟩ := h.cell (w.heap.size + 1 + 1) (by omega) (by omega) (.int .u64 u); subst hu; exact ⟨h2, h3, h.apart, h.box.stays (h1 _ (by omega)), h.res.stays (h1 _ (by omega)), h.num.set 0 _, h4, h.far, h.ml, ⟨hx.1, by simpa using hx.2⟩, h.lgl⟩
theorem WaAt.tell (h : WaAt w F0 X b p q m c mm L r k s F W) (r' : Int) : WaAt w F0 X b p q m c mm L r' k s F (W.setCell ⟨w.heap.size + 1, 0, none⟩ (.int .i64 r')) := by
 have hx := h.xs; obtain ⟨h1, h2, h3, h4⟩ := h.cell (w.heap.size + 1) (by omega) (by omega) (.int .i64 r'); exact ⟨h2, h3, h.apart, h.box.stays (h1 _ (by omega)), h.res.set 0 _, h.num.stays (h1 _ (by omega)), h4, h.far, h.ml, ⟨hx.1, by simpa using hx.2⟩, h.lgl⟩
end
end Go.Proofs.YtbpgonmoepnnpaaGreat
namespace Go.Proofs.YtbpgonmoepnnpaaGreat
open Go.RowKit Go.Maps Go.Shelf
attribute [local go_sem] Oper.semAt_some
set_option maxRecDepth 100000 in
set_option maxHeartbeats 4000000 in
theorem wwriteAll_any {F : Nat → Prop} {b : Nat} {p : Value} {q : Option Addr} {m c : Nat} {s : St} {L : Lg} (w : World) (h : Wl w F b p q m c s L) (ok : L.Ok) (hn : 3 + L.l ≤ s.ls.length) (hw : s.writes ≤ 900000000) :
  Calls Tryz.prog 53 #[.pointer (some ⟨b, 0, none⟩)] w (RetWl (.int .i64 (wrAll L (chN m) 0 s).2) (wrAll L (chN m) 0 s).1 L F b p q w) := by
 obtain ⟨F1, mm, hF1, hdm⟩ := h.dk.tight; obtain ⟨D, hD⟩ := h.lg.dsk; have hml := h.lg.mlen
 have hm1 : m ≤ 1000000 := by have := ok.len.2; omega
 have hcap := h.lg.txt.1.cap
 have hlb : L.lasts ≤ 9100000000000000000 := by have := ok.len.1; omega
 have HOK := Lib.hid ok; have HN := Lib.hid (show 3 + L.l ≤ s.ls.length ∧ s.writes ≤ 900000000 from ⟨hn, hw⟩); obtain ⟨K, hK⟩ : ∃ K, K = L.lasts / 232 := ⟨_, rfl⟩; have HK := Lib.hid hK
 have HKs : Hid (∀ W, Calls Tryz.prog 75 #[.int .u64 (L.lasts : Int)] W fun e w' => e = .returned (.int .u64 (K : Int)) ∧ W = w') := Lib.hid fun W => by rw [hK]; exact sectorOf_any _ W (by omega)
 obtain ⟨W1, hW1⟩ : ∃ W1, W1 = (w.alloc (.cells #[.pointer (some ⟨b, 0, none⟩)] TPL2)).alloc (.cells #[.int .i64 0] TEr) := ⟨_, rfl⟩; have hb1 := Blk.new w TPL2 #[.pointer (some ⟨b, 0, none⟩)]; have hb2 := Blk.new (w.alloc (.cells #[.pointer (some ⟨b, 0, none⟩)] TPL2)) TEr #[.int .i64 0]
 have hs1 : W1.heap.size = w.heap.size + 1 + 1 := by rw [hW1]; simp
 have H1 : Hid (Blk W1 w.heap.size TPL2 #[.pointer (some ⟨b, 0, none⟩)] ∧ Blk W1 (w.heap.size + 1) TEr #[.int .i64 0] ∧ Gr w W1) := Lib.hid (by
  simp only [World.size_alloc] at hb2
  rw [← hW1] at hb2
  refine ⟨by rw [hW1]; exact hb1.gr (Gr.new _ _), hb2, by rw [hW1]; exact Gr.trans (Gr.new _ _) (Gr.new _ _)⟩)
 have hW1' : (w.alloc (.cells #[.pointer (some ⟨b, 0, none⟩)] 42)).alloc (.cells #[.int .i64 0] 39) = W1 := hW1.symm; have HW1 := Lib.hid hW1'; obtain ⟨W2, hW2⟩ : ∃ W2, W2 = W1.alloc (.cells #[.int .u64 (K : Int)] TU) := ⟨_, rfl⟩; have hb4 := Blk.new W1 TU #[.int .u64 (K : Int)]
 rw [← hW2, hs1] at hb4
 have g12 : Gr W1 W2 := by rw [hW2]; exact Gr.new W1 _
 have hs2 : W2.heap.size = w.heap.size + 1 + 1 + 1 := by rw [hW2]; simp [hs1]
 have H2 : Hid (Blk W2 (w.heap.size + 1 + 1) TU #[.int .u64 (K : Int)] ∧ Gr w W2 ∧ Gr W1 W2 ∧ W2.heap.size = w.heap.size + 1 + 1 + 1) := Lib.hid ⟨hb4, Gr.trans H1.out.2.2 g12, g12, hs2⟩; have hW2' : W1.alloc (.cells #[.int .u64 (K : Int)] 30) = W2 := hW2.symm; have HW2 := Lib.hid hW2'; have HH := Lib.hid h; have HF1 := Lib.hid hF1; have HDM := Lib.hid hdm; have HDD := Lib.hid hD; have HS1 := Lib.hid hs1
 have c0 : ((w.alloc (.cells #[.pointer (some ⟨b, 0, none⟩)] 42)).alloc (.cells #[.int .i64 0] 39)).cell? ⟨w.heap.size, 0, none⟩ = some (.pointer (some ⟨b, 0, none⟩)) := by rw [hW1']; exact H1.out.1.cell 0
 have c6 : ((w.alloc (.cells #[.pointer (some ⟨b, 0, none⟩)] 42)).alloc (.cells #[.int .i64 0] 39)).cell? ⟨b, 6, none⟩ = some (.int .u64 (L.lasts : Int)) := by rw [hW1']; exact (h.lg.gr H1.out.2.2).blk.c10.2.2.2.2.2.2.1
 have d0 : (W1.alloc (.cells #[.int .u64 (K : Int)] 30)).cell? ⟨w.heap.size, 0, none⟩ = some (.pointer (some ⟨b, 0, none⟩)) := by rw [hW2']; exact (H1.out.1.gr H2.out.2.2.1).cell 0
 have d7 : (W1.alloc (.cells #[.int .u64 (K : Int)] 30)).cell? ⟨b, 7, none⟩ = some (.slice q m c) := by rw [hW2']; exact (h.lg.gr H2.out.2.1).blk.c10.2.2.2.2.2.2.2.1
 clear hW1 hW1' hW2 hW2' hb1 hb2 hb4 g12 hs1 hs2 h hdm hF1 hn hw ok hK hD hml; refine (callsIn_wide (n := 12)).1 ?_; refine callsIn_of_wp_marks Tryz.func53 rfl trivial ?_ rfl
 simp only [Tryz.ntmps53, List.size_toArray, List.length_cons, List.length_nil, Nat.reduceAdd, Nat.reduceSub, Array.replicate_succ, Array.replicate_zero, List.push_toArray, List.append_toArray, List.nil_append, List.cons_append]
 gi_wp2_with fail
 rw [HW1.out]; refine ⟨trivial, ?_⟩; refine (callsIn_wide.2 (HKs.out W1)).mono ?_; rintro e w1 ⟨rfl, rfl⟩
 gi_wp2_with fail
 rw [HW2.out, HS1.out]; refine ⟨trivial, ?_⟩; refine (callsIn_wide.2 (chunk_any q m c W2)).mono ?_; rintro e W3 ⟨rfl, hbs, hbn, g3, hs3⟩
 rw [H2.out.2.2.2] at hbs hbn hs3 ⊢
 obtain ⟨X, hX⟩ : ∃ X, X = W3.heap.size := ⟨_, rfl⟩; have HX := Lib.hid hX; have HBs := Lib.hid hbs; have HBn := Lib.hid hbn
 have HW3 : Hid (WaAt w F X b p q m c mm L 0 (K + 0) s F1 W3) := Lib.hid (by
  have g := Gr.trans H2.out.2.1 g3; have hh := HH.out.gr g; refine ⟨HDM.out.gr g, hh.lg, fun k hk => HH.out.apart k (HF1.out k hk), H1.out.1.gr (Gr.trans H2.out.2.2.1 g3), H1.out.2.1.gr (Gr.trans H2.out.2.2.1 g3), H2.out.1.gr g3, ⟨g.os, g.tape, g.output, g.size, fun k hk _ => g.block k hk, fun k hk => .inl (hk.imp (HF1.out k) id)⟩, fun k hk => .inl (HH.out.dk.low k (HF1.out k hk)), ?_, ⟨by omega, by omega⟩, HH.out.lg.low⟩; obtain ⟨⟨b0, lv0, L0, _, hd0⟩, _⟩ := HDM.out
  exact hd0.map.lt)
 have HXs : Hid (w.heap.size + 1 + 1 + 1 + 1 < X) := Lib.hid (by omega); clear hbs hbn g3 hs3 c0 c6 d0 d7 H1 H2 HW1 HW2 HKs
 gi_wp2_with fail
 refine wpIn_range_toldF (F := Fence.wide) rfl (by omega) (gf := 95) (lb := #[.pointer (some ⟨w.heap.size + 1 + 1 + 1, 0, none⟩), .pointer (some ⟨w.heap.size + 1 + 1 + 1 + 1, 0, none⟩)]) rfl trivial (enters_of Tryz.func95 (by kernel_rfl) rfl)
  (chunk1_told 11 (by omega) _ _ q m c W3 HBs.out HBn.out hcap hm1).keeps (Below.refl _ _) (fun _ => rfl)
  (fun pre V => ∃ s' F', WaAt w F X b p q m c mm L 0 (K + pre.length) s' F' V ∧ wrAll L (chN m) 0 s = wrAll L (chN m - pre.length) pre.length s' ∧ (s'.ls.length = s.ls.length ∧ s'.writes ≤ s.writes + pre.length ∧ pre.length ≤ chN m))
  (fun pre V => ∃ s' F' k', WaAt w F X b p q m c mm L 8 k' s' F' V ∧ wrAll L (chN m) 0 s = (s', 8)) ?hI ?hIr ⟨s, F1, HW3.out, rfl, rfl, Nat.le_refl _, Nat.zero_le _⟩
  (fun tm x (_ : Unit) => (tm.setIfInBounds 16 (.slice x.2.1 x.2.2 x.2.2)).setIfInBounds 4 (.slice x.2.1 x.2.2 x.2.2)) (fun pre x _ V => ChG q m c pre x V) ?hBx ?assign ?body ?done ?stop
 case hI =>
  rintro pre U V row ⟨s', F', h1, h2⟩ hg hr; exact ⟨s', F', h1.held hg (fun j e => by have := hr j e; rw [← HX.out] at this; exact this), h2⟩
 case hIr =>
  rintro pre U V row ⟨s', F', k', h1, h2⟩ hg hr; exact ⟨s', F', k', h1.held hg (fun j e => by have := hr j e; rw [← HX.out] at this; exact this), h2⟩
 case hBx =>
  rintro pre x R z U V row h hg hr; exact h
 case assign =>
  rintro l pre x V K' hi hx hK
  simp only [List.setIfInBounds_toArray, List.set_cons_succ, List.set_cons_zero] at hK
  dsimp only [encC]
  gi_wp2_with fail
  exact hK () _ (KeepsFrom.refl _ _) (HoldS.refl _ _ _) hi hx
 case body =>
  rintro l pre x R W8 hlw ⟨s', F', hi, hall, hls, hwr, hpre⟩ hx; obtain ⟨j, qj, nj⟩ := x; obtain ⟨hx1, hx2, hx3, hx4⟩ := hx
  simp only at hx1 hx2 hx3 hx4 ⊢
  subst hx1
  simp only [List.setIfInBounds_toArray, List.set_cons_succ, List.set_cons_zero]
  obtain ⟨J, hJ⟩ : ∃ J, J = K + pre.length := ⟨_, rfl⟩
  rw [← hJ] at hi
  have hlt : pre.length < chN m := by unfold chN; omega
  have hlen := HH.out.lg.mlen; have hyc := hx4.byt W8 _ hi.lg.txt.1
  rw [show 232 * pre.length + nj - 232 * pre.length = nj by omega, chunk_eq (m := m) hlen.symm hx3] at hyc
  have HWr : Hid (Calls Tryz.prog 74 #[.pointer (some ⟨b, 0, none⟩), .int .u64 (J : Int), .slice qj nj nj] W8 fun e w' => e = .returned (.int .i64 (putDE s')) ∧ ∃ F2, DkM w' F2 p mm (putD s' (wrI L pre.length) (wrX L pre.length)) ∧ Upd F' F2 W8 w') := Lib.hid (by
   have h := wwrite_m D b _ _ _ _ _ _ _ _ _ _ _ _ mm J qj nj nj _ W8 hi.lg.blk HDD.out hi.dk HOK.out.may (by have := HK.out; omega) (by have := HOK.out.e1; omega) hyc (by omega) (by rw [hls]; exact HN.out.1) (by have := HN.out.2; have := hlen; unfold chN at hpre; omega)
   have e1 : 3 + J % L.l.toNat = wrI L pre.length := by unfold wrI; rw [hJ, HK.out]
   have e2 : Sx (secL J L.epoch ((L.txt.drop (232 * pre.length)).take 232)) = wrX L pre.length := by unfold wrX; rw [hJ, HK.out]
   rw [e1, e2] at h
   exact h)
  have HI := Lib.hid hi; have HA : Hid (wrAll L (chN m) 0 s = wrAll L (chN m - pre.length - 1 + 1) pre.length s') := Lib.hid (by rw [hall, show chN m - pre.length - 1 + 1 = chN m - pre.length by omega]); have HL2 : Hid (s'.ls.length = s.ls.length ∧ s'.writes ≤ s.writes + pre.length ∧ pre.length < chN m) := Lib.hid ⟨hls, hwr, hlt⟩; have HJ := Lib.hid hJ; have HLW := Lib.hid hlw; have n1 := hi.box.cell 0; have n3 := hi.num.cell 0
  simp at n1 n3
  obtain ⟨E, hE⟩ : ∃ E, E = putDE s' := ⟨_, rfl⟩
  rw [← hE] at HWr
  have HE := Lib.hid hE; clear hi hall hls hwr hpre hx2 hx3 hx4 hyc hJ hlt hlen hlw hE
  gi_wp2_with fail
  refine ⟨trivial, ?_⟩; refine ((callsIn_wide.2 HWr.out).inRound l).mono ?_; rintro e W9 ⟨rfl, F2, hd2, hu2⟩; have hk9 := HI.out.kept hu2; have HI9 := Lib.hid (HI.out.write hd2 hu2); have HK9 : Hid (KeepsFrom W3.heap.size W8 W9) := Lib.hid (by rw [← HX.out]; exact hk9.1); have HH9 : Hid (HoldS firm (fun k => k = w.heap.size + 1 + 1 + 1 ∨ k = w.heap.size + 1 + 1 + 1 + 1) W8 W9) := Lib.hid (hk9.2 _ _ (by omega) (by have := HXs.out; omega) (by omega) HXs.out); clear hd2 hu2 hk9 n1 n3 HWr
  by_cases hr : s'.refuses
  ·
   have hE8 : E = 8 := by rw [HE.out]; unfold putDE; rw [if_pos hr]
   have HR9 : Hid (wrAll L (chN m) 0 s = (putD s' (wrI L pre.length) (wrX L pre.length), 8)) := Lib.hid (by rw [HA.out]; unfold wrAll putD; rw [if_pos hr, if_pos hr]); subst hE8; have f2 := HI9.out.res.frozen 0; have n2 := HI9.out.res.cell 0
   simp at n2
   clear hr HA HE
   gi_wp2_with fail
   exact And.intro (HK9.out.trans ((KeepsOthers.setCell _ _ _).from _)) ⟨_, F2, J, HI9.out.tell 8, HR9.out⟩
  ·
   have hE0 : E = 0 := by rw [HE.out]; unfold putDE; rw [if_neg hr]
   have HR9 : Hid (wrAll L (chN m) 0 s = wrAll L (chN m - (pre ++ [(pre.length, qj, nj)]).length) (pre ++ [(pre.length, qj, nj)]).length (putD s' (wrI L pre.length) (wrX L pre.length)) ∧ ((putD s' (wrI L pre.length) (wrX L pre.length)).ls.length = s.ls.length ∧ (putD s' (wrI L pre.length) (wrX L pre.length)).writes ≤ s.writes + (pre ++ [(pre.length, qj, nj)]).length ∧ (pre ++ [(pre.length, qj, nj)]).length ≤ chN m)) := Lib.hid (by
    have h4 := HL2.out; have hp := putD_alive (i := wrI L pre.length) (x := wrX L pre.length) hr; refine ⟨?_, by rw [hp.2.2]; exact h4.1, by rw [hp.2.1]; simp; omega, by simp; omega⟩; rw [HA.out, List.length_append, List.length_singleton]
    unfold putD
    rw [if_neg hr, show chN m - (pre.length + 1) = chN m - pre.length - 1 by omega]
    show (if s'.refuses then _ else _) = _
    rw [if_neg hr])
   subst hE0; have f3 := HI9.out.num.frozen 0; have n3 := HI9.out.num.cell 0
   simp at n3
   have hw3 : IntKind.u64.wrap ((J : Int) + 1) = (J : Int) + 1 := by rw [IntKind.wrap_u64]; have := HJ.out; have := HK.out; have := HL2.out.2.2; unfold chN at this; omega
   clear hr HA HE
   gi_wp2_with fail
   exact And.intro (HK9.out.trans ((KeepsOthers.setCell _ _ _).from _)) (And.intro (HH9.out.trans ⟨by simp, fun j o hj h1 _ => (heap_setCell_other W9 ⟨w.heap.size + 1 + 1, 0, none⟩ j _ (by rcases hj with rfl | rfl <;> (show _ ≠ w.heap.size + 1 + 1; omega))).trans h1⟩) ⟨_, F2, HI9.out.next _ (by have := HJ.out; simp; omega), HR9.out⟩)
 case done =>
  rintro D2 ys V hD2 hS ⟨s', F', hi, hall, hls, hwr, hpre⟩ hK
  rw [hS, Nat.sub_self] at hall
  have n1 := hi.box.cell 0; have c0 := hi.lg.blk.cell 0
  simp at n1 c0
  have HI := Lib.hid hi; have HA := Lib.hid hall; have HDk := Lib.hid hK; have HLW : Hid (X ≤ D2) := Lib.hid (by rw [HX.out]; exact hD2)
  have HBa : Hid (Calls Tryz.prog 76 #[p] V fun e w' => e = .returned (.int .i64 (BaE s')) ∧ DkFin F' p (BaS s') V w') := Lib.hid (by
   refine (Barrier_all V hi.dk.dk (by have := HN.out.2; rw [hS] at hwr; unfold chN at hwr; omega)).mono ?_; rintro e w' ⟨F2, rfl, hd, hu⟩
   exact ⟨rfl, F2, hd, hu⟩)
  obtain ⟨E, hE⟩ : ∃ E, E = BaE s' := ⟨_, rfl⟩
  rw [← hE] at HBa
  have HE := Lib.hid hE; have hR : Hid (wrAll L (chN m) 0 s = (BaS s', E)) := Lib.hid (by rw [hE]; exact hall); have f2 := hi.res.frozen 0
  have HNF : Hid (¬ F' D2 ∧ ¬ F' (w.heap.size + 1)) := Lib.hid (by
   refine ⟨fun hf => ?_, fun hf => ?_⟩
   ·
    rcases hi.dk.2 D2 hf with e | ⟨cs, t, fr, hc⟩
    · have := hi.ml; have := hi.xs.1; have := HLW.out; omega
    ·
     rw [hK] at hc
     cases hc
   ·
    have := hi.far _ hf; have := hi.xs.1
    omega)
  clear hi hall hls hwr hpre hK hD2 hE f2
  gi_wp2_with fail
  refine ⟨trivial, ?_⟩; refine (callsIn_wide.2 HBa.out).mono ?_; rintro e V2 ⟨rfl, hf⟩; have hf2 := hf; obtain ⟨F3, hd3, hu3⟩ := hf2; have HK2 : Hid (V2.heap[D2]? = some (.deferred (some []))) := Lib.hid ((hu3.block D2 (Array.getElem?_eq_some_iff.1 HDk.out).1 HNF.out.1).trans HDk.out); have HRs : Hid (Blk V2 (w.heap.size + 1) TEr #[.int .i64 0]) := Lib.hid (HI.out.res.stays (hu3.block _ HI.out.res.lt HNF.out.2)); obtain ⟨F2, hw2, hup2⟩ := HI.out.wl.disk hf; have HW2 : Hid (Wl V2 F2 b p q m c (BaS s') L ∧ Upd (wlS F b q) (wlS F2 b q) w V2) := Lib.hid ⟨hw2, HI.out.upd.comp hup2⟩
  have HF2 : Hid (¬ F2 (w.heap.size + 1) ∧ ¬ F2 D2) := Lib.hid (by
   have h1 := HI.out.res.lt; have h2 := (Array.getElem?_eq_some_iff.1 HDk.out).1; refine ⟨fun hf => ?_, fun hf => ?_⟩
   ·
    rcases hup2.fresh _ (.inl hf) with (h | h) | h
    · exact HNF.out.2 h
    · have := HI.out.lgl _ h; omega
    · omega
   ·
    rcases hup2.fresh _ (.inl hf) with (h | h) | h
    · exact HNF.out.1 h
    · have := HI.out.lgl _ h; have := HI.out.xs.1; have := HLW.out; omega
    · omega)
  have f2 := HRs.out.frozen 0; have n2 := HRs.out.cell 0
  simp at n2
  clear hd3 hu3 hf hw2 hup2 n1 c0 HBa
  gi_wp2_with fail
  have hoc := Only.cell (w.heap.size + 1) 0 V2 (.int .i64 E)
  have hD4 : D2 ≠ w.heap.size + 1 := by have := HI.out.xs.1; have := HLW.out; omega
  have hKd : (V2.setCell ⟨w.heap.size + 1, 0, none⟩ (.int .i64 E)).heap[D2]? = some (.deferred (some [])) := (hoc.block D2 hD4).trans HK2.out; refine ⟨by simp, .inl ⟨_, _, rfl, run_takeDeferred hKd, ?_⟩⟩; have hg := grownBy_putObj' (V2.setCell ⟨w.heap.size + 1, 0, none⟩ (.int .i64 E)) D2 (.deferred none)
  have hb2 : ∀ k, k ≠ w.heap.size + 1 → k ≠ D2 → k < V2.heap.size → ((V2.setCell ⟨w.heap.size + 1, 0, none⟩ (.int .i64 E)).putObj D2 (.deferred none)).heap[k]? = V2.heap[k]? := fun k h1 h2 h3 => (hg.block k (by rw [hoc.size]; exact h3) (fun e => h2 (Option.some.inj e))).trans (hoc.block k h1)
  have hr2 : Blk ((V2.setCell ⟨w.heap.size + 1, 0, none⟩ (.int .i64 E)).putObj D2 (.deferred none)) (w.heap.size + 1) TEr #[.int .i64 E] := Blk.stays (HRs.out.set 0 (.int .i64 E)) (hg.block _ (by rw [hoc.size]; exact HRs.out.lt) (fun e => hD4 (Option.some.inj e).symm))
  have hsz : V2.heap.size ≤ ((V2.setCell ⟨w.heap.size + 1, 0, none⟩ (.int .i64 E)).putObj D2 (.deferred none)).heap.size := by have := hg.size; rw [hoc.size] at this; exact this
  refine ⟨_, results_cell_one rfl Tryz.isAgg39 _ _ ⟨w.heap.size + 1, 0, none⟩ (.int .i64 E) rfl (hr2.cell 0), ?_⟩; rw [hR.out]
  have hl1 : ∀ k, lgS b q k → k ≠ w.heap.size + 1 ∧ k ≠ D2 := fun k hk => by have := HI.out.lgl k hk; have := HI.out.xs.1; have := HLW.out; omega
  refine ⟨F2, q, m, c, rfl, ⟨HW2.out.1.dk.stays (fun k hk => hb2 k (fun e => HF2.out.1 (e ▸ hk)) (fun e => HF2.out.2 (e ▸ hk)) (HW2.out.1.dk.low k hk)) hsz, HW2.out.1.lg.stays (fun k hk => hb2 k (hl1 k hk).1 (hl1 k hk).2 (HW2.out.1.lg.low k hk)) hsz, HW2.out.1.apart⟩, ⟨hg.os.trans (hoc.os.trans HW2.out.2.os), hg.tape.trans (hoc.tape.trans HW2.out.2.tape), hg.output.trans (hoc.output.trans HW2.out.2.output), Nat.le_trans HW2.out.2.size hsz, fun k hk hn => (hb2 k (by omega) (by have := HI.out.xs.1; have := HLW.out; omega) (Nat.lt_of_lt_of_le hk HW2.out.2.size)).trans (HW2.out.2.block k hk hn), HW2.out.2.fresh⟩⟩
 case stop =>
  rintro D2 pre V hD2 _ ⟨s', F', k', hi, hall⟩ hK
  have hD3 : X ≤ D2 := by rw [HX.out]; exact hD2
  have hK3 := hi.held (grownBy_putObj' V D2 (.deferred none)) (fun r e => by cases e; exact ⟨hD3, _, hK, rfl⟩); have HI := Lib.hid hK3; have HA := Lib.hid hall; clear hi hall hD2
  gi_wp2_with fail
  refine ⟨by simp, .inl ⟨_, _, rfl, run_takeDeferred hK, ?_⟩⟩; refine ⟨_, results_cell_one rfl Tryz.isAgg39 _ _ ⟨w.heap.size + 1, 0, none⟩ (.int .i64 8) rfl (HI.out.res.cell 0), ?_⟩; rw [HA.out]; exact ⟨F', q, m, c, rfl, HI.out.wl, HI.out.upd⟩
end Go.Proofs.YtbpgonmoepnnpaaGreat
namespace Go.Proofs.YtbpgonmoepnnpaaGreat
open Go.RowKit Go.Maps
set_option maxRecDepth 100000 in
theorem wlast_any (b : Nat) (p : Value) (n : Int) (l : Int) (g : Int) (ep : Nat) (tl : Nat) (la : Nat) (q : Option Addr) (m : Nat) (c : Nat) (rs : Int) (bg : Bool) (q1 : Option Addr) (m1 c1 : Nat) (E : Nat) (w : World) (h : Blk w b TLg #[p, .int .i64 n, .int .i64 l, .int .i64 g, .int .u64 ep, .int .u64 tl, .int .u64 la, .slice q m c, .int .i64 rs, .bool bg]) (hE : E ≤ 18446744073709551615) (hA : E % 232 ≤ m1) (hc : m1 ≤ c1) (hb : c1 ≤ 9223372036854775807) :
  Calls Tryz.prog 54 #[.pointer (some ⟨b, 0, none⟩), .slice q1 m1 c1, .int .u64 (E : Int)] w fun e w' => e = .returned (.tuple #[]) ∧ ∃ q2, w' = (w.setCell ⟨b, 6, none⟩ (.int .u64 (E : Int))).setCell ⟨b, 7, none⟩ (.slice q2 (E % 232) (E % 232)) ∧ CutOf q1 m1 c1 (m1 - E % 232) m1 (E % 232) q2 := by
 obtain ⟨A, hA2⟩ : ∃ A, A = E % 232 := ⟨_, rfl⟩
 rw [← hA2] at hA ⊢
 obtain ⟨q2, hcut, hof⟩ := cut_lhm (p := q1) (n := m1) (c := c1) (m1 - A) m1 m1 (by omega) (Nat.le_refl _) (Nat.le_refl _) hc
 rw [show m1 - (m1 - A) = A by omega] at hcut hof
 have HA : Hid (∀ W, Calls Tryz.prog 55 #[.int .u64 (E : Int)] W fun e w' => e = .returned (.int .i64 (A : Int)) ∧ W = w') := Lib.hid fun W => by rw [hA2]; exact ahead_any _ W hE
 have HOf := Lib.hid hof; have HC := Lib.hid hcut; obtain ⟨I, hI⟩ : ∃ I, I = m1 - A := ⟨_, rfl⟩
 have hw : IntKind.i64.wrap ((m1 : Int) - (A : Int)) = (I : Int) := by rw [IntWalk.i64_in _ (by omega)]; omega
 rw [← hI] at HC
 have hcut2 := fun w => HC.out w
 have f6 := h.frozen 6; have f7 := h.frozen 7; have c6 := h.c10.2.2.2.2.2.2.1; have c7 := h.c10.2.2.2.2.2.2.2.1; clear h hof hcut hA2 hI hE
 go_enter Tryz.func54, Tryz.ntmps54
 go_wp2_with fail; refine (HA.out _).mono ?_; rintro e w1 ⟨rfl, rfl⟩; go_wp2_with fail; exact bodyPost_end (results_none rfl _ _ _) rfl ⟨rfl, q2, rfl, HOf.out⟩
def Lg.done (L : Lg) : Lg := { L with lasts := L.fin, txt := L.txt.drop (L.txt.length - L.fin % 232) }
theorem Lg.Ok.done {L : Lg} (ok : L.Ok) : L.done.Ok ∧ L.done.fin = L.fin ∧ L.fin % 232 ≤ L.txt.length := by
 have hn := ok.near; have hh := ok.has; have e0 : L.fin = L.lasts - L.lasts % 232 + L.txt.length := rfl
 have h1 : L.fin % 232 ≤ L.txt.length := by omega
 have hl : (L.txt.drop (L.txt.length - L.fin % 232)).length = L.fin % 232 := by rw [List.length_drop]; omega
 have hf : L.done.fin = L.fin := by
  show L.fin - L.fin % 232 + (L.txt.drop (L.txt.length - L.fin % 232)).length = L.fin
  rw [hl]; omega
 refine ⟨⟨ok.may, ok.e0, ok.e1, hn.1, ?_, by rw [hf]; exact ok.most, by rw [hf]; exact ok.room, ok.r0, ok.r1⟩, hf, h1⟩
 show L.fin % 232 ≤ (L.txt.drop (L.txt.length - L.fin % 232)).length
 rw [hl]; exact Nat.le_refl _
theorem Wl.last {w : World} {F : Nat → Prop} {b : Nat} {p : Value} {q : Option Addr} {m c : Nat} {s : St} {L : Lg} (h : Wl w F b p q m c s L) (ok : L.Ok) :
  Calls Tryz.prog 54 #[.pointer (some ⟨b, 0, none⟩), .slice q m c, .int .u64 (L.fin : Int)] w (RetWl (.tuple #[]) s L.done F b p q w) := by
 have hml := h.lg.mlen; have hd := ok.done; have hcap := h.lg.txt.1.cap; have hmost := h.lg.txt.1.most; refine (wlast_any b _ _ _ _ _ _ _ _ _ _ _ _ q m c L.fin w h.lg.blk (by have := ok.most; omega) (by rw [hml]; exact hd.2.2) hcap (by unfold maxLen at hmost; omega)).mono ?_; rintro e w' ⟨rfl, q2, rfl, hof⟩; have h1 := Only.cell b 6 w (.int .u64 (L.fin : Int)); have h2 := Only.cell b 7 (w.setCell ⟨b, 6, none⟩ (.int .u64 (L.fin : Int))) (.slice q2 (L.fin % 232) (L.fin % 232)); have ho := h1.trans h2
 have hb : ∀ y, q2 = some y → y.block ≠ b := fun y hy => by
  obtain ⟨z, hz, e⟩ := hof.blk y hy; rw [← e]; exact h.lg.apart z hz
 have hsub : ∀ k, lgS b q2 k → lgS b q k := fun k hk => hk.imp id fun ⟨y, hy, e⟩ => by
  obtain ⟨z, hz, e2⟩ := hof.blk y hy; exact ⟨z, hz, e2.trans e⟩
 have hy := hof.byt w _ h.lg.txt.1
 rw [show m - (m - L.fin % 232) = L.fin % 232 by have := hd.2.2; omega, drop_take_all h.lg.txt.1.len] at hy
 have hy2 := hy.stays (w' := (w.setCell ⟨b, 6, none⟩ (.int .u64 (L.fin : Int))).setCell ⟨b, 7, none⟩ (.slice q2 (L.fin % 232) (L.fin % 232))) (fun y hyy => ho.block _ (hb y hyy))
 refine ⟨F, q2, _, _, rfl, ⟨h.dk.stays (fun k hk => ho.block k (fun e => h.apart k hk (.inl e))) (Nat.le_of_eq ho.size.symm), ⟨(h.lg.blk.set 6 _).set 7 _, ⟨?_, .inl rfl⟩, hb, fun k hk => by rw [ho.size]; exact h.lg.low k (hsub k hk), h.lg.dsk⟩, fun k hk hl => h.apart k hk (hsub k hl)⟩,
  ⟨ho.os, ho.tape, ho.output, Nat.le_of_eq ho.size.symm, fun k _ hn => ho.block k (fun e => hn (.inr (.inl e))), fun k hk => .inl (hk.imp id (hsub k))⟩⟩
 show Byt _ q2 _ _ (L.txt.drop (L.txt.length - L.fin % 232))
 rw [hml] at hy2
 exact hy2
def flS (s : St) (L : Lg) (u : Nat) : St := if L.fin < u then s else if u ≤ L.lasts then s else if begE s L ≠ 0 then begS s L else (wrAll (begL s L) (chN L.txt.length) 0 (begS s L)).1
def flE (s : St) (L : Lg) (u : Nat) : Int := if L.fin < u then 2 else if u ≤ L.lasts then 0 else if begE s L ≠ 0 then begE s L else (wrAll (begL s L) (chN L.txt.length) 0 (begS s L)).2
def flL (s : St) (L : Lg) (u : Nat) : Lg := if L.fin < u then L else if u ≤ L.lasts then L else if begE s L ≠ 0 then begL s L else if (wrAll (begL s L) (chN L.txt.length) 0 (begS s L)).2 ≠ 0 then begL s L else (begL s L).done
theorem begL_cases (s : St) (L : Lg) : begL s L = L ∨ begL s L = { L with begun := true } := by
 unfold begL
 split
 · exact .inl rfl
 ·
  split
  · exact .inl rfl
  · exact .inr rfl
theorem begL_ok {s : St} {L : Lg} (ok : L.Ok) : (begL s L).Ok ∧ (begL s L).fin = L.fin ∧ (begL s L).txt = L.txt ∧ (begL s L).l = L.l := by
 rcases begL_cases s L with h | h
 · rw [h]; exact ⟨ok, rfl, rfl, rfl⟩
 · rw [h]; exact ⟨⟨ok.may, ok.e0, ok.e1, ok.tl, ok.has, ok.most, ok.room, ok.r0, ok.r1⟩, rfl, rfl, rfl⟩
theorem begS_bounds {s : St} {L : Lg} : (begS s L).ls.length = s.ls.length ∧ (begS s L).writes ≤ s.writes + 1 := by
 unfold begS putD BaS
 split
 · exact ⟨rfl, Nat.le_succ _⟩
 ·
  split
  · exact ⟨rfl, Nat.le_succ _⟩
  ·
   split
   · exact ⟨rfl, Nat.le_refl _⟩
   · exact ⟨by simp [St.barrier, St.wrote], Nat.le_refl _⟩
def SlFl (b : Nat) (q3 : Option Addr) (m3 : Nat) (c3 : Nat) (F1n : Nat) (slot : Nat) (v : Value) (_ : World) : Prop :=
 match slot with
 | 32 => v = .pointer (some ⟨b, 0, none⟩)
 | 33 => v = .pointer (some ⟨b, 0, none⟩)
 | 34 => v = .pointer (some ⟨b, 0, none⟩)
 | 35 => v = .pointer (some ⟨b, 7, none⟩)
 | 36 => v = .slice q3 m3 c3
 | 37 => v = .pointer (some ⟨b, 0, none⟩)
 | 38 => v = .int .u64 (F1n : Int)
 | 39 => v = .tuple #[]
 | _ => True
set_option maxRecDepth 100000 in
set_option maxHeartbeats 1000000 in
theorem wFlush_any {F : Nat → Prop} {b : Nat} {p : Value} {q : Option Addr} {m c : Nat} {s : St} {L : Lg} (w : World) (h : Wl w F b p q m c s L) (ok : L.Ok) (hn : 3 + L.l ≤ s.ls.length) (hw : s.writes ≤ 800000000) (u : Nat) (hu : u ≤ 18446744073709551615) :
  Calls Tryz.prog 17 #[.pointer (some ⟨b, 0, none⟩), .int .u64 (u : Int)] w (RetWl (.int .i64 (flE s L u)) (flS s L u) (flL s L u) F b p q w) := by
 obtain ⟨D, hD⟩ := h.lg.dsk; have HM := Lib.hid (wmissing_no D b _ _ _ _ _ _ _ _ _ _ _ _ w h.lg.blk hD); have HE := Lib.hid (h.lg.End ok); have HH := Lib.hid h; have HOK := Lib.hid ok; have c6 := h.lg.blk.c10.2.2.2.2.2.2.1; obtain ⟨Fn, hF⟩ : ∃ Fn, Fn = L.fin := ⟨_, rfl⟩; obtain ⟨La, hLa⟩ : ∃ La, La = L.lasts := ⟨_, rfl⟩
 rw [← hF] at HE
 rw [← hLa] at c6
 have HFL : Hid (Fn = L.fin ∧ La = L.lasts) := Lib.hid ⟨hF, hLa⟩
 by_cases h1 : Fn < u
 ·
  have g1 : (Fn : Int) < (u : Int) := by omega
  have HZ : Hid (flE s L u = 2 ∧ flS s L u = s ∧ flL s L u = L) := Lib.hid (by
   have h1' : L.fin < u := by omega
   unfold flE flS flL; simp [h1'])
  clear h hF hLa c6 h1
  go_enter Tryz.func17, Tryz.ntmps17
  go_wp2_with fail; refine HM.out.mono ?_; rintro e w1 ⟨rfl, rfl⟩; go_wp2_with fail; refine HE.out.mono ?_; rintro e w1 ⟨rfl, g⟩; have HG := Lib.hid g; clear g; go_wp2_with fail
  go_ret
  rw [HZ.out.1, HZ.out.2.1, HZ.out.2.2]; exact ⟨F, q, m, c, rfl, HH.out.gr HG.out, Upd.of_gr HG.out⟩
 ·
  have g1 : ¬ (Fn : Int) < (u : Int) := by omega
  by_cases h2 : u ≤ La
  ·
   have g2 : (u : Int) ≤ (La : Int) := by omega
   have HZ : Hid (flE s L u = 0 ∧ flS s L u = s ∧ flL s L u = L) := Lib.hid (by
    have h1' : ¬ L.fin < u := by omega
    have h2' : u ≤ L.lasts := by omega
    unfold flE flS flL; simp [h1', h2'])
   have HC6 := Lib.hid (fun W (g : Gr w W) => (h.lg.gr g).blk.c10.2.2.2.2.2.2.1); clear h hF hLa c6 h1 h2
   go_enter Tryz.func17, Tryz.ntmps17
   go_wp2_with fail; refine HM.out.mono ?_; rintro e w1 ⟨rfl, rfl⟩; go_wp2_with fail; refine HE.out.mono ?_; rintro e w1 ⟨rfl, g⟩; have HG := Lib.hid g; have c6 := HC6.out w1 g
   rw [← HFL.out.2] at c6
   clear g HC6; go_wp2_with fail
   go_ret
   rw [HZ.out.1, HZ.out.2.1, HZ.out.2.2]; exact ⟨F, q, m, c, rfl, HH.out.gr HG.out, Upd.of_gr HG.out⟩
  ·
   have g2 : ¬ (u : Int) ≤ (La : Int) := by omega
   obtain ⟨E1, hE1⟩ : ∃ E1, E1 = begE s L := ⟨_, rfl⟩; obtain ⟨r2, hr2⟩ : ∃ r2, r2 = wrAll (begL s L) (chN L.txt.length) 0 (begS s L) := ⟨_, rfl⟩
   have h1' : ¬ L.fin < u := by omega
   have h2' : ¬ u ≤ L.lasts := by omega
   have HZ : Hid (E1 ≠ 0 → flE s L u = E1 ∧ flS s L u = begS s L ∧ flL s L u = begL s L) := Lib.hid fun he => by
    rw [hE1] at he ⊢
    unfold flE flS flL
    rw [if_neg h1', if_neg h2', if_pos he, if_neg h1', if_neg h2', if_pos he, if_neg h1', if_neg h2', if_pos he]; exact ⟨rfl, rfl, rfl⟩
   have HZ2 : Hid (E1 = 0 → flE s L u = r2.2 ∧ flS s L u = r2.1 ∧ flL s L u = if r2.2 ≠ 0 then begL s L else (begL s L).done) := Lib.hid fun he => by
    rw [hE1] at he
    unfold flE flS flL
    rw [if_neg h1', if_neg h2', if_neg (fun e => e he), if_neg h1', if_neg h2', if_neg (fun e => e he), if_neg h1', if_neg h2', if_neg (fun e => e he), hr2]; exact ⟨rfl, rfl, rfl⟩
   have HB1 := Lib.hid (fun W (g : Gr w W) => wbegin_any W (h.gr g) ok hn (by omega))
   rw [← hE1] at HB1
   have HBL := Lib.hid (begL_ok (s := s) ok); have HBS := Lib.hid (begS_bounds (s := s) (L := L)); have HNN := Lib.hid (show 3 + L.l ≤ s.ls.length ∧ s.writes ≤ 800000000 from ⟨hn, hw⟩); have HC6 := Lib.hid (fun W (g : Gr w W) => (h.lg.gr g).blk.c10.2.2.2.2.2.2.1); have HR2 := Lib.hid hr2; obtain ⟨s1, hs1⟩ : ∃ s1, s1 = begS s L := ⟨_, rfl⟩; obtain ⟨L1, hL1⟩ : ∃ L1, L1 = begL s L := ⟨_, rfl⟩
   rw [← hs1, ← hL1] at HZ HB1 HR2
   rw [← hL1] at HZ2 HBL
   rw [← hs1] at HBS
   clear h hF hLa c6 h1 h2 hE1 hr2 h1' h2' hn hw hs1 hL1 ok hD
   go_enter Tryz.func17, Tryz.ntmps17
   go_wp2_with fail; refine HM.out.mono ?_; rintro e w1 ⟨rfl, rfl⟩; go_wp2_with fail; refine HE.out.mono ?_; rintro e w1 ⟨rfl, g⟩; have HG := Lib.hid g; have c6 := HC6.out w1 g
   rw [← HFL.out.2] at c6
   clear g HC6; go_wp2_with fail; refine (HB1.out w1 HG.out).mono ?_; rintro e w2 ⟨F2, q2, m2, c2, rfl, hw2, hu2⟩; have HW2 := Lib.hid hw2; have HU2 := Lib.hid ((Upd.of_gr HG.out).comp hu2); clear hw2 hu2 c6 HB1
   by_cases hE0 : E1 = 0
   ·
    subst hE0; have HZ3 := Lib.hid (HZ2.out rfl)
    have hm2 : m2 = L.txt.length := by rw [HW2.out.lg.mlen, HBL.out.2.2.1]
    have HWA : Hid (Calls Tryz.prog 53 #[.pointer (some ⟨b, 0, none⟩)] w2 (RetWl (.int .i64 r2.2) r2.1 L1 F2 b p q2 w2)) := Lib.hid (by
     have h := wwriteAll_any w2 HW2.out HBL.out.1 (by rw [HBL.out.2.2.2, HBS.out.1]; exact HNN.out.1) (by have := HBS.out.2; have := HNN.out.2; omega)
     rw [hm2, ← HR2.out] at h
     exact h)
    obtain ⟨E2, hE2⟩ : ∃ E2, E2 = r2.2 := ⟨_, rfl⟩
    rw [← hE2] at HWA HZ3
    clear hm2 hE2 HZ HZ2; go_wp2_with fail; refine HWA.out.mono ?_; rintro e w3 ⟨F3, q3, m3, c3, rfl, hw3, hu3⟩; have HW3 := Lib.hid hw3; have HU3 := Lib.hid (HU2.out.comp hu3); clear hw3 hu3 HWA
    by_cases hE20 : E2 = 0
    ·
     subst hE20; have HZ4 : Hid (flE s L u = 0 ∧ flS s L u = r2.1 ∧ flL s L u = L1.done) := Lib.hid ⟨HZ3.out.1, HZ3.out.2.1, by rw [HZ3.out.2.2, if_neg (fun e => e rfl)]⟩
     obtain ⟨Fin, hFin⟩ : ∃ Fin : World → Prop, Fin = fun W => ∃ F' q' m' c', Wl W F' b p q' m' c' r2.1 L1.done ∧ Upd (wlS F3 b q3) (wlS F' b q') w3 W := ⟨_, rfl⟩
     have HEn : Hid (∀ W, Gr w3 W → Calls Tryz.prog 18 #[.pointer (some ⟨b, 0, none⟩)] W (RetU L1.fin W)) := Lib.hid fun W g => (HW3.out.gr g).lg.End HBL.out.1
     have HLa : Hid (∀ W, Gr w3 W → Calls Tryz.prog 54 #[.pointer (some ⟨b, 0, none⟩), .slice q3 m3 c3, .int .u64 (L1.fin : Int)] W fun e w' => e = .returned (.tuple #[]) ∧ Fin w') := Lib.hid fun W g => by
      refine ((HW3.out.gr g).last HBL.out.1).mono ?_; rintro e w' ⟨F', q', m', c', rfl, hw', hu'⟩; rw [hFin]; exact ⟨rfl, F', q', m', c', hw', (Upd.of_gr g).comp hu'⟩
     have HB := Lib.hid HW3.out.lg.blk; have HFn := Lib.hid hFin; obtain ⟨F1n, hF1n⟩ : ∃ F1n, F1n = L1.fin := ⟨_, rfl⟩
     rw [← hF1n] at HEn HLa
     clear hFin hF1n HZ3; go_wp2_with fail; refine Flow.regionS [] 20 (SlFl b q3 m3 c3 F1n) (InC 7 w3 (Fin)) (fun _ _ _ => True) (by kernel_rfl) (by kernel_rfl) (fun _ _ _ _ _ _ h _ => h) (InC.start (by rfl) (Gr.refl _).drew) ?steps ?fin
     case steps =>
      refine .cons (fun l a W hfr hun hup hdn hinv hdep K hK => ?_) ?_
      · have t0 := tAt (.pointer (some ⟨b, 0, none⟩)) (hfr.at 0 (by kernel_rfl)); refine fW0 rfl ?_; clear hfr hdep hdn; go_simp; exact hK _ _ True.intro (hinv.other 0 (by decide)) (dsT (by trivial))
      refine .cons (fun l a W hfr hun hup hdn hinv hdep K hK => ?_) ?_
      · have t0 := tAt (.pointer (some ⟨b, 0, none⟩)) (hfr.at 0 (by kernel_rfl)); refine fW0 rfl ?_; clear hfr hdep hdn; go_simp; exact hK _ _ True.intro (hinv.other 1 (by decide)) (dsT (by trivial))
      refine .cons (fun l a W hfr hun hup hdn hinv hdep K hK => ?_) ?_
      · have t33 := tAt (.pointer (some ⟨b, 0, none⟩)) (hdep 33 (by kernel_rfl)); refine fW0 rfl ?_; clear hfr hdep hdn; go_simp; exact hK _ _ True.intro (hinv.other 2 (by decide)) (dsT (by trivial))
      refine .cons (fun l a W hfr hun hup hdn hinv hdep K hK => ?_) ?_
      · have t34 := tAt (.pointer (some ⟨b, 0, none⟩)) (hdep 34 (by kernel_rfl)); refine fW0 rfl ?_; clear hfr hdep hdn; go_simp; exact hK _ _ True.intro (hinv.other 3 (by decide)) (dsT (by trivial))
      refine .cons (fun l a W hfr hun hup hdn hinv hdep K hK => ?_) ?_
      · have t35 := tAt (.pointer (some ⟨b, 7, none⟩)) (hdep 35 (by kernel_rfl)); refine fW0 rfl ?_; clear hfr hdep hdn; have hlz : l 7 = false := hup 7 (by decide) (by kernel_rfl); have hin := hinv.pre hlz; have c7 := (HB.out.gr hin).c10.2.2.2.2.2.2.2.1; go_simp; exact hK _ _ True.intro (hinv.other 4 (by decide)) (dsT (by trivial))
      refine .cons (fun l a W hfr hun hup hdn hinv hdep K hK => ?_) ?_
      · have t0 := tAt (.pointer (some ⟨b, 0, none⟩)) (hfr.at 0 (by kernel_rfl)); refine fW0 rfl ?_; clear hfr hdep hdn; go_simp; exact hK _ _ True.intro (hinv.other 5 (by decide)) (dsT (by trivial))
      refine .cons (fun l a W hfr hun hup hdn hinv hdep K hK => ?_) ?_
      · have t37 := tAt (.pointer (some ⟨b, 0, none⟩)) (hdep 37 (by kernel_rfl)); refine fW0 rfl ?_; clear hfr hdep hdn; have hlz : l 7 = false := hup 7 (by decide) (by kernel_rfl); have hin := hinv.pre hlz; go_simp; refine (HEn.out W hin).mono ?_; rintro e W' ⟨rfl, g1⟩; exact hK _ _ True.intro (hinv.grow hlz g1 6 (by decide)) (dsT (by trivial))
      refine .cons (fun l a W hfr hun hup hdn hinv hdep K hK => ?_) ?_
      · have t32 := tAt (.pointer (some ⟨b, 0, none⟩)) (hdep 32 (by kernel_rfl)); have t36 := tAt (.slice q3 m3 c3) (hdep 36 (by kernel_rfl)); have t38 := tAt (.int .u64 (F1n : Int)) (hdep 38 (by kernel_rfl)); refine fW0 rfl ?_; clear hfr hdep hdn; have hin := hinv.pre hun; go_simp; refine (HLa.out W hin).mono ?_; rintro e W' ⟨rfl, h1⟩; exact hK _ _ True.intro (InC.fin h1) (dsT (by trivial))
      exact True.intro
     case fin =>
      intro a W l hfr hall hinv hsl
      have hfin := hinv.post (hall 7 (by decide)); have e := Flow.frame hfr [32, 33, 34, 35, 36, 37, 38, 39] (List.range 40) (by kernel_rfl) (by kernel_rfl)
      simp [List.range, List.range.loop] at e
      rw [e]; have HFin := Lib.hid hfin; clear e hfr hsl hall hinv hfin
      first
       | (rename_i hB; refine hB _ _ ?_)
       | (rename_i hB y0; refine hB _ _ ?_)
       | (rename_i hB y0 y1; refine hB _ _ ?_)
       | (rename_i hB y0 y1 y2; refine hB _ _ ?_)
       | (rename_i hB y0 y1 y2 y3; refine hB _ _ ?_)
       | (rename_i hB y0 y1 y2 y3 y4; refine hB _ _ ?_)
       | (rename_i hB y0 y1 y2 y3 y4 y5; refine hB _ _ ?_)
       | (rename_i hB y0 y1 y2 y3 y4 y5 y6; refine hB _ _ ?_)
       | (rename_i hB y0 y1 y2 y3 y4 y5 y6 y7; refine hB _ _ ?_)
       | (rename_i hB y0 y1 y2 y3 y4 y5 y6 y7 y8; refine hB _ _ ?_)
       | skip
      have hF := HFin.out
      rw [HFn.out] at hF
      obtain ⟨F4, q4, m4, c4, hw4, hu4⟩ := hF; have HW4 := Lib.hid hw4; have HU4 := Lib.hid (HU3.out.comp hu4); clear hw4 hu4 HFin; go_wp2_with fail
      go_ret
      rw [HZ4.out.1, HZ4.out.2.1, HZ4.out.2.2]; exact ⟨F4, q4, m4, c4, rfl, HW4.out, HU4.out⟩
    ·
     have hE2b : (E2 != 0) = true := by simpa using hE20
     have HZ4 : Hid (flE s L u = E2 ∧ flS s L u = r2.1 ∧ flL s L u = L1) := Lib.hid ⟨HZ3.out.1, HZ3.out.2.1, by rw [HZ3.out.2.2, if_pos hE20]⟩; clear hE20 HZ3; go_wp2_with fail
     go_ret
     rw [HZ4.out.1, HZ4.out.2.1, HZ4.out.2.2]; exact ⟨F3, q3, m3, c3, rfl, HW3.out, HU3.out⟩
   ·
    have hE1b : (E1 != 0) = true := by simpa using hE0
    have HZ4 := Lib.hid (HZ.out hE0); clear hE0 HZ HZ2; go_wp2_with fail
    go_ret
    rw [HZ4.out.1, HZ4.out.2.1, HZ4.out.2.2]; exact ⟨F2, q2, m2, c2, rfl, HW2.out, HU2.out⟩
end Go.Proofs.YtbpgonmoepnnpaaGreat
namespace Go.Proofs.YtbpgonmoepnnpaaGreat
open Go.RowKit Go.Maps
set_option maxRecDepth 100000 in
set_option maxHeartbeats 1000000 in
theorem wlay_no {b : Nat} {p : Value} {q : Option Addr} {m c : Nat} {L : Lg} (w : World) (h : LgAt w b p q m c L) (ok : L.Ok) (r : Rc) (hi : r.In) (pb : Option Addr) (nb cb : Nat) (pa : Option Addr) (na ca : Nat) (hb : Byt w pb nb cb r.b) (ha : Byt w pa na ca r.a) (room : Int) (hfit : mayR r = false) :
  Calls Tryz.prog 51 #[.pointer (some ⟨b, 0, none⟩), .agg (rcv r pb nb cb pa na ca), .int .i64 room] w (RetLayE 2 w) := by
 obtain ⟨W1, hW1⟩ : ∃ W1, W1 = w.alloc (.cells (rcv r pb nb cb pa na ca) TR) := ⟨_, rfl⟩; have HB1 : Hid (Blk W1 w.heap.size TR (rcv r pb nb cb pa na ca) ∧ Gr w W1) := Lib.hid (by rw [hW1]; exact ⟨Blk.new _ _ _, Gr.new _ _⟩); have HE := Lib.hid (LgAt.End (h.gr HB1.out.2) ok); have HBy := Lib.hid (fun W (g : Gr w W) => bytes_any r pb nb cb pa na ca L.fin W hi (hb.kept g) (ha.kept g) (by have := ok.most; omega)); have HW1 : Hid (w.alloc (.cells (rcv r pb nb cb pa na ca) 33) = W1) := Lib.hid hW1.symm; obtain ⟨F, hF⟩ : ∃ F, F = L.fin := ⟨_, rfl⟩
 rw [← hF] at HE HBy
 clear h hb ha hW1 hF
 unfold rcv at HW1 HB1 ⊢
 go_enter Tryz.func51, Tryz.ntmps51
 go_wp2_with fail; rw [HW1.out]; refine HE.out.mono ?_; rintro e W2 ⟨rfl, g2⟩; obtain ⟨c0, c1, c2, c3, c4, c5, c6, c7⟩ := (HB1.out.1.gr g2).c8; have HG2 := Lib.hid (Gr.trans HB1.out.2 g2); clear g2; go_wp2_with fail; refine (HBy.out W2 HG2.out).mono ?_; rintro e W3 ⟨q3, n3, d3, rfl, hy3, g3, f3⟩; have HG3 := Lib.hid (Gr.trans HG2.out g3)
 have hE0 : bytesE r = 2 := by unfold bytesE; rw [if_neg (by rw [hfit]; decide)]
 rw [hE0]; clear hE0 HBy HE g3 f3 hy3 HB1 HW1; go_wp2_with fail; refine bodyPost_ret_by (P := Tryz.prog) (v := .tuple #[.int .u64 0, .int .i64 2]) (by simp [results, Tryz.results51]) rfl ?_; exact ⟨rfl, HG3.out⟩
set_option maxRecDepth 100000 in
set_option maxHeartbeats 1000000 in
theorem wlay_full {b : Nat} {p : Value} {q : Option Addr} {m c : Nat} {L : Lg} (w : World) (h : LgAt w b p q m c L) (ok : L.Ok) (r : Rc) (hi : r.In) (pb : Option Addr) (nb cb : Nat) (pa : Option Addr) (na ca : Nat) (hb : Byt w pb nb cb r.b) (ha : Byt w pa na ca r.a) (room : Int) (hfit : mayR r = true) (hroom : room < (35 + r.b.length + r.a.length : Int)) :
  Calls Tryz.prog 51 #[.pointer (some ⟨b, 0, none⟩), .agg (rcv r pb nb cb pa na ca), .int .i64 room] w (RetLayE 5 w) := by
 obtain ⟨W1, hW1⟩ : ∃ W1, W1 = w.alloc (.cells (rcv r pb nb cb pa na ca) TR) := ⟨_, rfl⟩; have HB1 : Hid (Blk W1 w.heap.size TR (rcv r pb nb cb pa na ca) ∧ Gr w W1) := Lib.hid (by rw [hW1]; exact ⟨Blk.new _ _ _, Gr.new _ _⟩); have HE := Lib.hid (LgAt.End (h.gr HB1.out.2) ok); have HBy := Lib.hid (fun W (g : Gr w W) => bytes_any r pb nb cb pa na ca L.fin W hi (hb.kept g) (ha.kept g) (by have := ok.most; omega)); have HW1 : Hid (w.alloc (.cells (rcv r pb nb cb pa na ca) 33) = W1) := Lib.hid hW1.symm; obtain ⟨F, hF⟩ : ∃ F, F = L.fin := ⟨_, rfl⟩
 rw [← hF] at HE HBy
 clear h hb ha hW1 hF
 unfold rcv at HW1 HB1 ⊢
 go_enter Tryz.func51, Tryz.ntmps51
 go_wp2_with fail; rw [HW1.out]; refine HE.out.mono ?_; rintro e W2 ⟨rfl, g2⟩; obtain ⟨c0, c1, c2, c3, c4, c5, c6, c7⟩ := (HB1.out.1.gr g2).c8; have HG2 := Lib.hid (Gr.trans HB1.out.2 g2); clear g2; go_wp2_with fail; refine (HBy.out W2 HG2.out).mono ?_; rintro e W3 ⟨q3, n3, d3, rfl, hy3, g3, f3⟩; have HG3 := Lib.hid (Gr.trans HG2.out g3); obtain ⟨n, hn⟩ : ∃ n, n = 35 + r.b.length + r.a.length := ⟨_, rfl⟩
 have hy4 : Byt W3 q3 n3 d3 (recL r F) := by have h := hy3; unfold bytesL at h; rw [if_pos hfit] at h; exact h
 have hn3 : n3 = n := by rw [← hy4.len, recL_len, hn]
 subst hn3
 have hE0 : bytesE r = 0 := by unfold bytesE; rw [if_pos hfit]
 rw [hE0]
 have hr2 : room < (n3 : Int) := by omega
 have hr3 : (n3 : Int) ≤ 9223372036854775807 := by have := hy4.cap; have := hy4.most; unfold maxLen at *; omega
 clear hE0 HBy HE g3 f3 hy3 hy4 hn hroom HB1 HW1; go_wp2_with fail; refine bodyPost_ret_by (P := Tryz.prog) (v := .tuple #[.int .u64 0, .int .i64 5]) (by simp [results, Tryz.results51]) rfl ?_; exact ⟨rfl, HG3.out⟩
end Go.Proofs.YtbpgonmoepnnpaaGreat
namespace Go.Proofs.YtbpgonmoepnnpaaGreat
open Go.RowKit Go.Maps
def RetLg (v : Value) (L' : Lg) (b : Nat) (p : Value) (q : Option Addr) (w : World) (e : Ending) (w' : World) : Prop :=
 ∃ q' m' c', e = .returned v ∧ LgAt w' b p q' m' c' L' ∧ Upd (lgS b q) (lgS b q') w w'
section
variable {w w' : World} {b : Nat} {p : Value} {q : Option Addr} {m c : Nat} {L : Lg}
theorem LgAt.miss (h : LgAt w b p q m c L) : Calls Tryz.prog 50 #[.pointer (some ⟨b, 0, none⟩)] w fun e w' => e = .returned (.bool false) ∧ w = w' := by
 obtain ⟨d, hd⟩ := h.dsk; exact wmissing_no d b p L.n L.l L.g L.epoch L.tail L.lasts q m c L.rsv L.begun w h.blk hd
theorem LgAt.eight (h : LgAt w b p q m c L) (t : Int) : LgAt (w.setCell ⟨b, 8, none⟩ (.int .i64 t)) b p q m c { L with rsv := t } := by
 have ho := Only.cell b 8 w (.int .i64 t); exact ⟨h.blk.set 8 _, h.txt.stays (fun y hy => ho.block _ (h.apart y hy)), h.apart, fun k hk => by rw [ho.size]; exact h.low k hk, h.dsk⟩
theorem LgAt.same (h : LgAt w b p q m c L) {v : Value} {e : Ending} (he : e = .returned v) (g : Gr w w') : RetLg v L b p q w e w' := ⟨q, m, c, he, h.gr g, Upd.of_gr g⟩
def Lg.free (L : Lg) : Int := freeR L.l L.rsv L.tail L.fin
theorem free_le (ok : L.Ok) : 0 ≤ L.free ∧ L.free ≤ 60000 ∧ (0 < L.free → L.free + L.rsv ≤ 60000 ∧ L.free + L.rsv + (L.fin : Int) ≤ (L.tail - L.tail % 232 : Nat) + 232 * (L.l - 1)) := by
 have h1 := ok.l1; have h2 := ok.r0; have h3 := ok.near
 unfold Lg.free freeR
 omega
def rsvE (L : Lg) (r : Int) : Int := if r < 0 then 2 else if L.free < r then 5 else 0
def rsvL (L : Lg) (r : Int) : Lg := if r < 0 then L else if L.free < r then L else { L with rsv := L.rsv + r }
set_option maxRecDepth 100000 in
theorem LgAt.Reserve (h : LgAt w b p q m c L) (ok : L.Ok) (r : Int) : Calls Tryz.prog 15 #[.pointer (some ⟨b, 0, none⟩), .int .i64 r] w (RetLg (.int .i64 (rsvE L r)) (rsvL L r) b p q w) := by
 obtain ⟨d, hd⟩ := h.dsk
 have HF : Hid (∀ W, Gr w W → Calls Tryz.prog 19 #[.pointer (some ⟨b, 0, none⟩)] W fun e w' => e = .returned (.int .i64 L.free) ∧ Gr W w') := Lib.hid fun W g => LgAt.Free (h.gr g) ok
 unfold rsvE rsvL
 by_cases hr : r < 0
 · rw [if_pos hr, if_pos hr]; refine (wReserve_no d b _ _ _ _ _ _ _ _ _ _ _ _ r w h.blk hd hr).mono ?_; rintro e w1 ⟨rfl, g1⟩; exact h.same rfl g1
 ·
  rw [if_neg hr, if_neg hr]
  by_cases hf : L.free < r
  · rw [if_pos hf, if_pos hf]; refine (wReserve_full d b _ _ _ _ _ _ _ _ _ _ _ _ r L.free w h.blk hd (by omega) hf HF).mono ?_; rintro e w1 ⟨rfl, g1⟩; exact h.same rfl g1
  · rw [if_neg hf, if_neg hf]; refine (wReserve_yes d b _ _ _ _ _ _ _ _ _ _ _ _ r L.free w h.blk hd (by omega) (by omega) (by have := (free_le ok).2.1; omega) ok.r0 (by have := ok.r1; omega) HF).mono ?_; rintro e w1 ⟨rfl, W, g1, rfl⟩; exact ⟨q, m, c, rfl, (h.gr g1).eight _, (Upd.of_gr g1).comp (Upd.cell (.inl rfl) _ _)⟩
theorem rsvL_ok (ok : L.Ok) (r : Int) : (rsvL L r).Ok ∧ (rsvL L r).fin = L.fin := by
 unfold rsvL
 split
 · exact ⟨ok, rfl⟩
 ·
  split
  · exact ⟨ok, rfl⟩
  ·
   rename_i h1 h2
   have h3 := ok.r0; have h4 := ok.r1; have h5 := free_le ok; refine ⟨⟨ok.may, ok.e0, ok.e1, ok.tl, ok.has, ok.most, ok.room, ?_, ?_⟩, rfl⟩
   ·
    show 0 ≤ L.rsv + r
    omega
   ·
    show L.rsv + r ≤ 60000
    by_cases h6 : 0 < L.free
    ·
     have := (h5.2.2 h6).1
     omega
    · omega
def relL (L : Lg) (r : Int) : Lg := if r < 0 then L else { L with rsv := L.rsv - min r L.rsv }
set_option maxRecDepth 100000 in
theorem LgAt.Release (h : LgAt w b p q m c L) (ok : L.Ok) (r : Int) : Calls Tryz.prog 28 #[.pointer (some ⟨b, 0, none⟩), .int .i64 r] w (RetLg (.tuple #[]) (relL L r) b p q w) := by
 obtain ⟨d, hd⟩ := h.dsk
 unfold relL
 by_cases hr : r < 0
 · rw [if_pos hr]; refine (wRelease_no d b _ _ _ _ _ _ _ _ _ _ _ _ r w h.blk hd hr).mono ?_; rintro e w1 ⟨rfl, g1⟩; exact h.same rfl g1
 · rw [if_neg hr]; refine (wRelease_yes d b _ _ _ _ _ _ _ _ _ _ _ _ r w h.blk hd (by omega) ok.r0 (by have := ok.r1; omega)).mono ?_; rintro e w1 ⟨rfl, W, g1, rfl⟩; exact ⟨q, m, c, rfl, (h.gr g1).eight _, (Upd.of_gr g1).comp (Upd.cell (.inl rfl) _ _)⟩
theorem relL_ok (ok : L.Ok) (r : Int) : (relL L r).Ok ∧ (relL L r).fin = L.fin := by
 unfold relL
 split
 · exact ⟨ok, rfl⟩
 ·
  have h3 := ok.r0; have h4 := ok.r1; refine ⟨⟨ok.may, ok.e0, ok.e1, ok.tl, ok.has, ok.most, ok.room, ?_, ?_⟩, rfl⟩
  ·
   show 0 ≤ L.rsv - min r L.rsv
   omega
  ·
   show L.rsv - min r L.rsv ≤ 60000
   omega
end
def layE (r : Rc) (room : Int) : Int := if mayR r then (if room < (35 + r.b.length + r.a.length : Int) then 5 else 0) else 2
def layA (L : Lg) (r : Rc) (room : Int) : Nat := if layE r room = 0 then L.fin else 0
def layL (L : Lg) (r : Rc) (room : Int) : Lg := if layE r room = 0 then L.more (recL r L.fin) else L
set_option maxRecDepth 100000 in
theorem LgAt.lay {b : Nat} {p : Value} {q : Option Addr} {m c : Nat} {L : Lg} (w : World) (h : LgAt w b p q m c L) (ok : L.Ok) (r : Rc) (hi : r.In) (pb : Option Addr) (nb cb : Nat) (pa : Option Addr) (na ca : Nat) (hb : Byt w pb nb cb r.b) (ha : Byt w pa na ca r.a) (room : Int) :
  Calls Tryz.prog 51 #[.pointer (some ⟨b, 0, none⟩), .agg (rcv r pb nb cb pa na ca), .int .i64 room] w (RetLg (.tuple #[.int .u64 (layA L r room : Int), .int .i64 (layE r room)]) (layL L r room) b p q w) := by
 by_cases hf : mayR r = true
 ·
  by_cases hr : room < (35 + r.b.length + r.a.length : Int)
  ·
   have hE : layE r room = 5 := by unfold layE; rw [if_pos hf, if_pos hr]
   unfold layA layL
   rw [hE]; refine (wlay_full w h ok r hi pb nb cb pa na ca hb ha room hf hr).mono ?_; rintro e w1 ⟨rfl, g1⟩; exact h.same rfl g1
  ·
   have hE : layE r room = 0 := by unfold layE; rw [if_pos hf, if_neg hr]
   unfold layA layL
   rw [hE]; refine (wlay_any w h ok r hi pb nb cb pa na ca hb ha room hf (by omega)).mono ?_; rintro e w1 ⟨q', m', c', rfl, h1, h2⟩; exact ⟨q', m', c', rfl, h1, h2⟩
 ·
  have hE : layE r room = 2 := by unfold layE; rw [if_neg hf]
  unfold layA layL
  rw [hE]; refine (wlay_no w h ok r hi pb nb cb pa na ca hb ha room (by simpa using hf)).mono ?_; rintro e w1 ⟨rfl, g1⟩; exact h.same rfl g1
set_option maxRecDepth 100000 in
theorem LgAt.Append {b : Nat} {p : Value} {q : Option Addr} {m c : Nat} {L : Lg} (w : World) (h : LgAt w b p q m c L) (ok : L.Ok) (r : Rc) (hi : r.In) (pb : Option Addr) (nb cb : Nat) (pa : Option Addr) (na ca : Nat) (hb : Byt w pb nb cb r.b) (ha : Byt w pa na ca r.a) :
  Calls Tryz.prog 16 #[.pointer (some ⟨b, 0, none⟩), .agg (rcv r pb nb cb pa na ca)] w (RetLg (.tuple #[.int .u64 (layA L r L.free : Int), .int .i64 (layE r L.free)]) (layL L r L.free) b p q w) := by
 refine (append_core b 0 r.k r.t r.p r.x r.g r.o pb nb cb pa na ca (layA L r L.free) (layE r L.free) L.free (fun w' => ∃ q' m' c', LgAt w' b p q' m' c' (layL L r L.free) ∧ Upd (lgS b q) (lgS b q') w w') w (Lib.hid fun W g => (h.gr g).miss) (Lib.hid fun W g => LgAt.Free (h.gr g) ok) (Lib.hid fun W g => ?_)).mono ?_
 · refine (LgAt.lay W (h.gr g) ok r hi pb nb cb pa na ca (hb.kept g) (ha.kept g) L.free).mono ?_; rintro e w1 ⟨q', m', c', rfl, h1, h2⟩; exact ⟨rfl, q', m', c', h1, (Upd.of_gr g).comp h2⟩
 · rintro e w1 ⟨rfl, q', m', c', h1, h2⟩; exact ⟨q', m', c', rfl, h1, h2⟩
theorem layL_ok {L : Lg} (ok : L.Ok) (r : Rc) (room : Int) (h : room ≤ L.free ∨ room ≤ L.rsv) (hs : L.fin + room ≤ (L.tail - L.tail % 232 : Nat) + 232 * L.l) (h1 : (L.fin : Int) + room ≤ 9000000000000000000) : (layL L r room).Ok := by
 unfold layL
 split
 ·
  rename_i hE
  unfold layE at hE
  split at hE
  ·
   split at hE
   · cases hE
   ·
    rename_i h2 h3
    have h4 : (recL r L.fin).length = 35 + r.b.length + r.a.length := recL_len _ _
    have h5 : (L.more (recL r L.fin)).fin = L.fin + (35 + r.b.length + r.a.length) := by
     show L.lasts - L.lasts % 232 + (L.txt ++ recL r L.fin).length = _
     rw [List.length_append, h4]
     unfold Lg.fin
     omega
    have h6 := ok.l1; refine ⟨ok.may, ok.e0, ok.e1, ok.tl, ?_, ?_, ?_, ok.r0, ok.r1⟩
    ·
     show L.lasts % 232 ≤ (L.txt ++ recL r L.fin).length
     rw [List.length_append]; have := ok.has
     omega
    · rw [h5]; omega
    ·
     rw [h5]
     show _ ≤ L.tail - L.tail % 232 + 232 * L.l.toNat
     omega
  · cases hE
 · exact ok
end Go.Proofs.YtbpgonmoepnnpaaGreat
namespace Go.Proofs.YtbpgonmoepnnpaaGreat
open Go.RowKit Go.Maps
def Lg.Fits (L : Lg) : Prop := L.rsv = 0 ∨ (L.fin : Int) + L.rsv ≤ (L.tail - L.tail % 232 : Nat) + 232 * (L.l - 1)
theorem more_fin (L : Lg) (r : Rc) : (L.more (recL r L.fin)).fin = L.fin + (35 + r.b.length + r.a.length) := by
 have h4 : (recL r L.fin).length = 35 + r.b.length + r.a.length := recL_len _ _
 show L.lasts - L.lasts % 232 + (L.txt ++ recL r L.fin).length = _
 rw [List.length_append, h4]
 unfold Lg.fin
 omega
theorem layE_cases (r : Rc) (room : Int) : layE r room = 2 ∨ layE r room = 5 ∨ (layE r room = 0 ∧ mayR r = true ∧ (35 + r.b.length + r.a.length : Int) ≤ room) := by
 unfold layE
 split
 ·
  rename_i h
  split
  · exact .inr (.inl rfl)
  · exact .inr (.inr ⟨rfl, h, by omega⟩)
 · exact .inl rfl
theorem layL_fin (L : Lg) (r : Rc) (room : Int) : (layL L r room).fin = if layE r room = 0 then L.fin + (35 + r.b.length + r.a.length) else L.fin := by
 unfold layL
 split
 · exact more_fin L r
 · rfl
def useL (L : Lg) (r : Rc) : Lg := if layE r L.rsv = 0 then relL (layL L r L.rsv) (35 + r.b.length + r.a.length : Nat) else L
set_option maxRecDepth 100000 in
theorem LgAt.Use {b : Nat} {r : Rc} {p : Value} {q : Option Addr} {m c : Nat} {L : Lg} (w : World) (h : LgAt w b p q m c L) (ok : L.Ok) (ok2 : (layL L r L.rsv).Ok) (hi : Rc.In r) (pb : Option Addr) (nb cb : Nat) (pa : Option Addr) (na ca : Nat) (hb : Byt w pb nb cb r.b) (ha : Byt w pa na ca r.a) :
  Calls Tryz.prog 20 #[.pointer (some ⟨b, 0, none⟩), .agg (rcv r pb nb cb pa na ca)] w (RetLg (.tuple #[.int .u64 (layA L r L.rsv : Int), .int .i64 (layE r L.rsv)]) (useL L r) b p q w) := by
 obtain ⟨n, hn⟩ : ∃ n, n = 35 + r.b.length + r.a.length := ⟨_, rfl⟩; obtain ⟨E, hE⟩ : ∃ E, E = layE r L.rsv := ⟨_, rfl⟩; obtain ⟨A, hA⟩ : ∃ A, A = layA L r L.rsv := ⟨_, rfl⟩
 obtain ⟨A2, hA2⟩ : ∃ A2, A2 = if E = 0 then L.fin + n else 0 := ⟨_, rfl⟩
 have hAE : A = if E = 0 then L.fin else 0 := by rw [hA, hE]; rfl
 have hc : E ≠ 0 ∨ (E = 0 ∧ (n : Int) ≤ L.rsv) := by
  rcases layE_cases r L.rsv with h1 | h1 | ⟨h1, h2, h3⟩
  · exact .inl (by rw [hE, h1]; decide)
  · exact .inl (by rw [hE, h1]; decide)
  · exact .inr ⟨by rw [hE, h1], by omega⟩
 have hfin : E = 0 → (layL L r L.rsv).fin = A2 := fun e => by
  rw [layL_fin, ← hE, if_pos e, hA2, if_pos e, hn]
 have hd : E = 0 → A2 - A = n := fun e => by rw [hA2, hAE, if_pos e, if_pos e]; omega
 refine (use_core b 0 r.k r.t r.p r.x r.g r.o pb nb cb pa na ca A A2 E L.rsv (fun w' => ∃ q' m' c', LgAt w' b p q' m' c' (layL L r L.rsv) ∧ Upd (lgS b q) (lgS b q') w w') (fun w' => ∃ q' m' c', LgAt w' b p q' m' c' (relL (layL L r L.rsv) (n : Int)) ∧ Upd (lgS b q) (lgS b q') w w') #[] w (Lib.hid fun W g => (h.gr g).miss) (Lib.hid ⟨_, _, _, _, _, _, _, _, _, h.blk⟩) (Lib.hid fun W g => ?_) (Lib.hid fun e W hW => ?_) ?_ ?_ (Lib.hid fun e W W' hW g => ?_)).mono ?_
 · refine (LgAt.lay W (h.gr g) ok r hi pb nb cb pa na ca (hb.kept g) (ha.kept g) L.rsv).mono ?_; rintro e w1 ⟨q', m', c', rfl, h1, h2⟩; exact ⟨by rw [hA, hE], q', m', c', h1, (Upd.of_gr g).comp h2⟩
 · obtain ⟨q', m', c', h1, h2⟩ := hW; rw [← hfin e]; exact LgAt.End h1 ok2
 ·
  rw [hA2, hAE]
  split <;> omega
 ·
  have := ok.r1; rw [hA2, hAE]
  split
  ·
   rename_i e
   rcases hc with h1 | h1
   · exact absurd e h1
   · omega
  · omega
 · obtain ⟨q', m', c', h1, h2⟩ := hW; rw [hd e]; refine (LgAt.Release (h1.gr g) ok2 (n : Int)).mono ?_; rintro e w1 ⟨q2, m2, c2, rfl, h3, h4⟩; exact ⟨rfl, q2, m2, c2, h3, h2.comp ((Upd.of_gr g).comp h4)⟩
 ·
  unfold useL
  rw [← hE, ← hn, ← hA]; rintro e w1 (⟨h0, rfl, q', m', c', h1, h2⟩ | ⟨h0, rfl, q', m', c', h1, h2⟩)
  ·
   rw [if_neg h0]
   have hl : layL L r L.rsv = L := by unfold layL; rw [← hE, if_neg h0]
   rw [hl] at h1
   have hA0 : A = 0 := by rw [hAE, if_neg h0]
   exact ⟨q', m', c', by rw [hA0]; rfl, h1, h2⟩
  · rw [if_pos h0]; exact ⟨q', m', c', by rw [h0], h1, h2⟩
theorem append_ok {L : Lg} (ok : L.Ok) (r : Rc) (hm : L.fin ≤ 8000000000000000000) : (layL L r L.free).Ok := by
 have h5 := free_le ok
 rcases layE_cases r L.free with h1 | h1 | ⟨h1, h2, h3⟩
 · unfold layL; rw [h1]; exact ok
 · unfold layL; rw [h1]; exact ok
 · have h6 := h5.2.2 (by omega); exact layL_ok ok r L.free (.inl (Int.le_refl _)) (by have := ok.r0; omega) (by omega)
theorem lay_rsv_ok {L : Lg} (ok : L.Ok) (h : L.Fits) (r : Rc) (hm : L.fin ≤ 8000000000000000000) : (layL L r L.rsv).Ok := by
 have hr := ok.r1
 rcases layE_cases r L.rsv with h1 | h1 | ⟨h1, h2, h3⟩
 · unfold layL; rw [h1]; exact ok
 · unfold layL; rw [h1]; exact ok
 ·
  rcases h with h | h
  · exfalso; omega
  · exact layL_ok ok r L.rsv (.inr (Int.le_refl _)) (by omega) (by omega)
theorem use_ok {L : Lg} (ok : L.Ok) (h : L.Fits) (r : Rc) (hm : L.fin ≤ 8000000000000000000) : (useL L r).Ok ∧ (useL L r).Fits := by
 unfold useL
 split
 ·
  rename_i h1
  have ok2 := lay_rsv_ok ok h r hm; refine ⟨(relL_ok ok2 _).1, ?_⟩
  rcases layE_cases r L.rsv with h2 | h2 | ⟨_, h2, h3⟩
  · rw [h1] at h2; cases h2
  · rw [h1] at h2; cases h2
  ·
   rcases h with h | h
   · exfalso; omega
   ·
    have hf := layL_fin L r L.rsv
    rw [if_pos h1] at hf
    have hl : (layL L r L.rsv).rsv = L.rsv ∧ (layL L r L.rsv).tail = L.tail ∧ (layL L r L.rsv).l = L.l := by unfold layL; rw [h1]; exact ⟨rfl, rfl, rfl⟩
    unfold relL
    rw [if_neg (by omega)]; refine .inr ?_
    show ((layL L r L.rsv).fin : Int) + ((layL L r L.rsv).rsv - min ((35 + r.b.length + r.a.length : Nat) : Int) (layL L r L.rsv).rsv) ≤ ((layL L r L.rsv).tail - (layL L r L.rsv).tail % 232 : Nat) + 232 * ((layL L r L.rsv).l - 1)
    rw [hf, hl.1, hl.2.1, hl.2.2]
    omega
 · exact ⟨ok, h⟩
end Go.Proofs.YtbpgonmoepnnpaaGreat
namespace Go.Proofs.YtbpgonmoepnnpaaGreat
open Go.RowKit
theorem rof_any (p : Option Addr) (n c : Nat) (xs : List Int) (w : World) (h : Byt w p n c xs) (h8 : n ≤ 8) : Calls Tryz.prog 99 #[.slice p n c] w fun e w' => e = .returned (.int .u64 (Wd.dec xs)) ∧ w = w' := by
 have hlen := h.len; have hsm := Lib.hid h.small
 rcases Nat.eq_zero_or_pos n with rfl | hn
 ·
  obtain rfl : xs = [] := List.eq_nil_of_length_eq_zero hlen
  go_enter Tryz.func99, Tryz.ntmps99
  go_wp2
  go_rounds 1
  go_ret
  exact ⟨rfl, rfl⟩
 ·
  obtain ⟨b, o, rfl, hc⟩ := h.at hn
  have Hlen := Lib.hid hlen; have Hc := Lib.hid hc; clear hc hlen h
  go_enter Tryz.func99, Tryz.ntmps99
  go_wp2
  go_loop [3, 4] (fun t i => ∃ k : Nat, k ≤ n ∧ i = .int .i64 ((k : Int) - 1) ∧ t = .int .u64 (Wd.dec (xs.drop k))) (fun _ i => (intOf i + 1).toNat)
  case atStart => exact ⟨n, Nat.le_refl _, by go_num, by rw [List.drop_eq_nil_of_le (by rw [Hlen.out]; exact Nat.le_refl _)]; rfl⟩
  case round =>
   obtain ⟨k, hk, rfl, rfl⟩ := hrel
   by_cases hlt : 0 < k
   ·
    obtain ⟨j, rfl⟩ : ∃ j, k = j + 1 := ⟨k - 1, by omega⟩; rw [show ((j + 1 : Nat) : Int) - 1 = (j : Int) by omega]; have hcell : w.cell? ⟨b, o + j, none⟩ = some (.int .u8 (xs.getD j 0)) := Hc.out j (by omega); have hs := hsm.out.getD j; have hst := Wd.dec_drop xs j (by rw [Hlen.out]; omega)
    have hlt2 : Wd.dec (xs.drop (j + 1)) < 72057594037927936 := by
     have h1 := Wd.dec_lt _ (hsm.out.drop (j + 1))
     have h2 : (xs.drop (j + 1)).length ≤ 7 := by rw [List.length_drop, Hlen.out]; omega
     have h3 := Wd.pow_lt _ h2
     omega
    generalize hx : xs.getD j 0 = x at *
    generalize hy : Wd.dec (xs.drop (j + 1)) = y at *
    have Hst := Lib.hid hst; clear hst hx hy; obtain ⟨X, rfl⟩ := Int.eq_ofNat_of_zero_le hs.1; have hs2 : (X : Int) < 256 := hs.2; clear hs
    go_wp2
    go_round
    case rel => exact ⟨j, by omega, by go_num, congrArg (Value.int .u64) (by rw [Hst.out]; simp; omega)⟩
    case measure => simp [intOf]
   ·
    obtain rfl : k = 0 := by omega
    go_wp2
    go_ret
    exact ⟨rfl, rfl⟩
end Go.Proofs.YtbpgonmoepnnpaaGreat
namespace Go.Proofs.YtbpgonmoepnnpaaGreat
open Go.RowKit
theorem zeroCells_u8 (k : Nat) : Builtin.zeroCells (Value.int .u8 0).cells k = ((List.replicate k (0 : Int)).map (Value.int .u8)).toArray := by
 unfold Builtin.zeroCells
 apply Array.ext
 · simp [Value.cells]
 ·
  intro i h1 h2
  simp [Value.cells, Nat.mod_one]
theorem small_zeros (k : Nat) : Wd.Small (List.replicate k (0 : Int)) := fun x h => by
 rw [List.mem_replicate] at h
 omega
theorem run_app_zeros {P : Program} {tS tB tn : TypeId} (T : BT P tS tB) (htn : P.underlying tn = some (.int .i64)) {w : World} {ty : TypeId} {base : Nat} {v : Value} {xs : List Int} (h : OwnB w base tB v xs) (k : Nat) (hb : xs.length + k ≤ 140737488355328) (hbase : base ≤ w.heap.size) :
  ∃ v' w', (Builtin.append_ #[tS, tn] ty #[v, .int .i64 (k : Int)]).run P w = .ok v' w' ∧ OwnB w' base tB v' (xs ++ List.replicate k 0) ∧ w.grownBy w' v.ownBlock ∧ (v'.ownBlock = v.ownBlock ∨ v'.ownBlock = some w.heap.size) := by
 obtain ⟨i, hi, hz0, hz1, hz2⟩ := info_parts T.info
 have hw : IntKind.i64.wrap (k : Int) = k := by rw [IntKind.wrap_i64]; omega
 have hneg : ¬ ((k : Int) < 0) := by omega
 have h48 : ¬ (281474976710656 < (k : Int)) := by omega
 by_cases hk : k = 0
 ·
  subst hk
  have hw0 : IntKind.i64.wrap 0 = 0 := by decide
  rcases h.row.2 with ⟨rfl, hn⟩ | ⟨g, cap, cur, rfl, hbg, hg, hnc, hcm, hcs, htake⟩
  ·
   refine ⟨_, w, ?_, by simpa using h, ⟨rfl, rfl, rfl, Nat.le_refl _, fun _ _ _ => rfl⟩, .inl rfl⟩
   simp [Builtin.append_, run_underlying T.us, run_underlying htn, sizeOf, typeInfo, hi, hz1, hz2, asInt, asIntOf, hw0]
  ·
   refine ⟨_, w, ?_, by simpa using h, ⟨rfl, rfl, rfl, Nat.le_refl _, fun _ _ _ => rfl⟩, .inl rfl⟩
   simp [Builtin.append_, run_underlying T.us, run_underlying htn, sizeOf, typeInfo, hi, hz1, hz2, asInt, asIntOf, hw0, hnc, storeCells]
 ·
  have hs := h.small.app (small_zeros k)
  have hlen : ((xs ++ List.replicate k (0 : Int)).map (Value.int .u8)).length = (xs ++ List.replicate k (0 : Int)).length * 1 := by simp
  have grown : ∀ (old : Nat) (row : Option Nat), old < xs.length + k →
    OwnB (w.drew.alloc (.cells ((xs.map (Value.int .u8)).toArray ++ Builtin.zeroCells (Value.int .u8 0).cells k ++ Builtin.zeroCells (Value.int .u8 0).cells (grownCap w (xs.length + k) old tB - (xs.length + k))) tB)) base tB
     (.slice (some ⟨w.heap.size, 0, none⟩) (xs.length + k) (grownCap w (xs.length + k) old tB)) (xs ++ List.replicate k 0) ∧
    w.grownBy (w.drew.alloc (.cells ((xs.map (Value.int .u8)).toArray ++ Builtin.zeroCells (Value.int .u8 0).cells k ++ Builtin.zeroCells (Value.int .u8 0).cells (grownCap w (xs.length + k) old tB - (xs.length + k))) tB)) row := fun old row ho => by
   have hge := grownCap_ge w (xs.length + k) old tB; have hcm : grownCap w (xs.length + k) old tB ≤ maxLen := grownCap_le_maxLen w (xs.length + k) old tB (by unfold maxLen; omega); refine ⟨⟨⟨hlen, .inr ⟨w.heap.size, grownCap w (xs.length + k) old tB, _, by simp, hbase, heap_alloc_new w.drew _, by simpa using hge, hcm, ?_, ?_⟩⟩, hs⟩, ⟨rfl, rfl, rfl, by simp, fun j hj _ => heap_alloc_old w.drew _ hj⟩⟩
   ·
    simp only [Array.size_append, List.size_toArray, size_zeroCells, List.length_map]
    simp [Value.cells]
    omega
   ·
    rw [zeroCells_u8]
    simp only [Array.toList_append, List.append_assoc]
    rw [← List.append_assoc, ← List.map_append, ← hlen]; exact List.take_left
  rcases h.row.2 with ⟨rfl, hn⟩ | ⟨g, cap, cur, rfl, hbg, hg, hnc, hcm, hcs, htake⟩
  ·
   obtain rfl : xs = [] := List.eq_nil_of_length_eq_zero hn; have hr := Lib.run_append_nil_zeros (P := P) w tS tn ty tB i (.int .u8 0) .i64 .i64 T.us htn hi hz0 k (by omega) (by omega) (by omega) (by rw [hz2]; omega); have hg := grown 0 (Value.ownBlock (.slice none 0 0)) (by simp; omega)
   simp only [List.length_nil, Nat.zero_add, List.map_nil, List.nil_append] at hg ⊢
   exact ⟨_, _, hr, by simpa using hg.1, by simpa using hg.2, .inr rfl⟩
  ·
   by_cases hroom : xs.length + k ≤ cap
   ·
    have hst := run_storeCells_at P g (xs.length * 1) tB ((List.replicate k (0 : Int)).map (Value.int .u8)) 0 cur w hg (by simp; omega) (u8s_oneCell _)
    simp only [Nat.add_zero] at hst
    have hr : (Builtin.append_ #[tS, tn] ty #[.slice (some ⟨g, 0, none⟩) xs.length cap, .int .i64 (k : Int)]).run P w = .ok (.slice (some ⟨g, 0, none⟩) (xs.length + k) cap) (w.setRow g (cur.toList.take (xs.length * 1) ++ (List.replicate k (0 : Int)).map (Value.int .u8) ++ cur.toList.drop (xs.length * 1 + ((List.replicate k (0 : Int)).map (Value.int .u8)).length)).toArray) := by
     have hzc := zeroCells_u8 k
     simp only [Nat.mul_one] at hst ⊢
     simp [Builtin.append_, run_underlying T.us, run_underlying htn, sizeOf, typeInfo, zeroValue, hi, hz0, hz1, hz2, asInt, asIntOf, hw, hneg, h48, hroom, hk, Addr.add_lit, hzc] at hst ⊢
     rw [hst]
     rfl
    refine ⟨_, _, hr, ⟨⟨hlen, .inr ⟨g, cap, _, by simp, hbg, setRow_heap w g cur _ tB _ hg, by simpa using hroom, hcm, ?_, ?_⟩⟩, hs⟩, ⟨rfl, rfl, rfl, by simp, fun j _ hj => setRow_other w g j _ (fun e => hj (by simp [Value.ownBlock, e]))⟩, .inl rfl⟩
    ·
     simp only [List.size_toArray, List.length_append, List.length_take, List.length_drop, Array.length_toList, List.length_map, List.length_replicate]
     omega
    ·
     simp only [Nat.mul_one] at htake ⊢
     rw [htake, ← List.map_append]; rw [show (xs ++ List.replicate k (0 : Int)).length = ((xs ++ List.replicate k (0 : Int)).map (Value.int .u8)).length by simp]; exact List.take_left
   · have holds : ∀ j u, (xs.map (Value.int .u8))[j]? = some u → w.drew.cell? ((⟨g, 0, none⟩ : Addr).add j) = some u := h.row.cells (g := g) rfl; have hfc := run_firstCells_some (P := P) w.drew i.size xs.length ⟨g, 0, none⟩ xs.length cap (xs.map (Value.int .u8)) (by rw [List.length_map, hz1, Nat.mul_one]) holds; have hr := Lib.run_append_grow_zeros (P := P) w tS tn ty tB i (.int .u8 0) .i64 .i64 T.us htn hi hz0 (some ⟨g, 0, none⟩) xs.length cap (xs.map (Value.int .u8)) hfc k (by omega) (by omega) (by omega) (by omega) (by rw [hz2]; omega) (growslice_fits (by omega) (by rw [hz2]; omega)); have hgr := grown cap (Value.ownBlock (.slice (some ⟨g, 0, none⟩) xs.length cap)) (by omega); exact ⟨_, _, hr, hgr.1, hgr.2, .inr rfl⟩
theorem wpList_app_zeros {P : Program} {tS tB tn : TypeId} (T : BT P tS tB) (htn : P.underlying tn = some (.int .i64)) {w : World} {ops : Array Oper} {rest : List Oper} {o : Oper} {a : Act} {Q : Exit → Act → World → Prop} (hgd : o.guard = none) (s x : Operand)
  (ho : o.op = .call { callee := .builtin .append, args := #[s, x], argTypes := #[tS, tn] }) (base : Nat) (v : Value) (xs : List Int) (hs : a.eval s = v) (h : OwnB w base tB v xs) (k : Nat) (hx : a.eval x = .int .i64 (k : Int)) (hb : xs.length + k ≤ 140737488355328) (hbase : base ≤ w.heap.size)
  (hQ : ∀ v' w', OwnB w' base tB v' (xs ++ List.replicate k 0) → w.grownBy w' v.ownBlock → (v'.ownBlock = v.ownBlock ∨ v'.ownBlock = some w.heap.size) → wpList P ops Q rest (a.put o.dst v') w') : wpList P ops Q (o :: rest) a w := by
 obtain ⟨v', w', hr, h1, h2, h3⟩ := run_app_zeros T htn (ty := o.type) h k hb hbase; exact Lib.wpList_append_run w hgd s x tS tn ho v _ hs hx v' w' hr (hQ v' w' h1 h2 h3)
end Go.Proofs.YtbpgonmoepnnpaaGreat
