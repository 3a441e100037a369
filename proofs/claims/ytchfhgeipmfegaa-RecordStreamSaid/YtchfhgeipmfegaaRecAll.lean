
/-
  All: its closure, what that sees; what the closure gives.
-/
import Derived.Test.YtchfhgeipmfegaaRecOfO
import Derived.Test.YtchfhgeipmfegaaRecAllMath
import Derived.Test.YtchfhgeipmfegaaTold
import Derived.Shelf.Abstract
import Derived.Shelf.RegionOpen
import Derived.WalkKit
import Derived.OwnWalkIn
import Derived.TacticsInMore
import Derived.LoopNIn
import Derived.LoopIn
namespace Go.Proofs.Ytchfhgeipmfegaa
open Go.RowKit Go.Shelf Cr
attribute [local go_sem] Oper.semAt_some

abbrev TU : TypeId := 54
/-- What All's closure sees: the bytes, the place. -/
structure AllAt (W : World) (Bb Ba : Nat) (q : Option Addr) (m d : Nat) (xs : List Int) (at' : Nat) : Prop where
  b : Blk W Bb TBy #[.slice q m d]
  a : Blk W Ba TU #[.int .u64 at']
  y : Byt W q m d xs
theorem AllAt.up {W W' : World} {Bb Ba : Nat} {q : Option Addr} {m d : Nat} {xs : List Int} {at' : Nat} (h : AllAt W Bb Ba q m d xs at') (g : Gr W W') : AllAt W' Bb Ba q m d xs at' :=
  ⟨h.b.below g h.b.lt, h.a.below g h.a.lt, h.y.kept g⟩

set_option maxRecDepth 100000 in
set_option maxHeartbeats 1000000 in
theorem all_any (p : Option Addr) (n c : Nat) (xs : List Int) (at' : Nat) (w : World) (hb : Byt w p n c xs) (hl : n ≤ 20000) :
    Calls Try.prog 56 #[.slice p n c, .int .u64 at'] w fun e w' => ∃ q m d, e = .returned (.func (.func 74) #[] #[.pointer (some ⟨w.heap.size, 0, none⟩), .pointer (some ⟨w.heap.size + 1, 0, none⟩)]) ∧ AllAt w' w.heap.size (w.heap.size + 1) q m d xs at' ∧ (∀ y, q = some y → w.heap.size + 1 < y.block) ∧ Gr w w' := by
  have h1 := Blk.new w TBy #[.slice p n c]
  have h2 := Blk.new (w.alloc (.cells #[.slice p n c] TBy)) TU #[.int .u64 at']
  have h3 := Blk.new ((w.alloc (.cells #[.slice p n c] TBy)).alloc (.cells #[.int .u64 at'] TU)) 22 #[.slice p n c]
  simp only [World.size_alloc] at h2 h3
  have g1 := (Gr.refl w).alloc (Nat.le_refl _) (.cells #[.slice p n c] TBy)
  have g2 := g1.alloc g1.size (.cells #[.int .u64 at'] TU)
  have HB := Lib.hid ((h1.alloc (.cells #[.int .u64 at'] TU)).alloc (.cells #[.slice p n c] 22))
  have HA := Lib.hid (h2.alloc (.cells #[.slice p n c] 22))
  have HG := Lib.hid (g2.alloc g2.size (.cells #[.slice p n c] 22))
  have hr := Rows.one (t := 22) (hb.kept g2) rfl
  simp only [World.size_alloc] at hr
  have HR := Lib.hid hr
  have HT : Hid (tot [xs] ≤ 140737488355328) := Lib.hid (by have := hb.len; unfold tot; simp; omega)
  have HFL : Hid ([xs].flatten = xs) := Lib.hid (by simp)
  have c0 : (w.alloc (.cells #[.slice p n c] TBy)).cell? ⟨w.heap.size, 0, none⟩ = some (.slice p n c) := h1.cell 0
  clear h1 h2 h3 g1 g2 hr hb
  go_enter Try.func56, Try.ntmps56
  go_wp2_with fail
  refine (join_any _ _ _ _ _ HR.out HT.out).mono ?_
  rintro e w1 ⟨q, m, d, rfl, hy, g1, hf⟩
  have HB1 := Lib.hid (HB.out.below g1 HB.out.lt)
  have HA1 := Lib.hid (HA.out.below g1 HA.out.lt)
  have HG1 := Lib.hid (Gr.trans HG.out g1)
  have HY1 := Lib.hid (HFL.out ▸ hy)
  have HF1 : Hid (∀ y, q = some y → w.heap.size + 1 < y.block) := Lib.hid fun y h => by
    have h2 := hf y h
    simp only [World.size_alloc] at h2
    omega
  clear hy g1 hf HB HA HG HR HT HFL c0
  have c0 := HB1.out.cell 0
  have f0 := HB1.out.frozen 0
  go_wp2_with fail
  go_ret
  have hgr := HG1.out.setCell (p := ⟨w.heap.size, 0, none⟩) (Nat.le_refl _) (.slice q m d)
  exact ⟨q, m, d, rfl, ⟨HB1.out.set 0 _, HA1.out.far (by show w.heap.size + 1 ≠ w.heap.size; omega) _, ((Oth.refl w.heap.size _).set _).byt HY1.out (fun y h => by have := HF1.out y h; omega)⟩, HF1.out, hgr⟩

/-- What comes: a place, a record, its slices. -/
structure RX where
  e : Nat
  c : Rc
  pb : Option Addr
  nb : Nat
  cb : Nat
  pa : Option Addr
  na : Nat
  ca : Nat
abbrev RX.agg (x : RX) : Value := .agg #[.int .i64 x.c.k, .int .u64 x.c.t, .int .u64 x.c.p, .int .u64 x.c.x, .int .i64 x.c.g, .int .i64 x.c.o, .slice x.pb x.nb x.cb, .slice x.pa x.na x.ca]
abbrev RX.encs (x : RX) : Array Value := #[.int .u64 x.e, x.agg]
/-- What is told of it. -/
structure RX.Good (x : RX) (W : World) : Prop where
  b : OwnB W 0 5 (.slice x.pb x.nb x.cb) x.c.b
  a : OwnB W 0 5 (.slice x.pa x.na x.ca) x.c.a
  e : x.e ≤ 18446744073709551615
  i : x.c.In
def RX.two (x : RX) : Nat × Rc := (x.e, x.c)

theorem Byt.held {κ : Obj → Bool} {Ks : Nat → Prop} {W W' : World} {p : Option Addr} {n c : Nat} {xs : List Int} (h : Byt W p n c xs) (hκ : ∀ o : Obj, o.isCells = true → κ o = true) (g : HoldS κ Ks W W') (hk : ∀ y, p = some y → Ks y.block) : Byt W' p n c xs :=
  ⟨h.len, h.cap, h.most, fun hn => by
    obtain ⟨b, o, rfl, hc⟩ := h.at hn
    refine ⟨b, o, rfl, fun i hi => ?_⟩
    have hci := hc i hi
    have hb : ∃ ob, W.heap[b]? = some ob ∧ ob.isCells = true := by
      unfold World.cell? at hci
      cases ho : W.heap[b]? with
      | none => simp [ho] at hci
      | some ob =>
        refine ⟨ob, rfl, ?_⟩
        cases ob <;> simp [ho] at hci <;> rfl
    obtain ⟨ob, h1, h2⟩ := hb
    have h3 := g.same b ob (hk _ rfl) h1 (hκ _ h2)
    rw [← hci]
    unfold World.cell?
    rw [h3, h1], h.nilCap, h.small⟩
theorem Gr.grown {W W' : World} (g : Gr W W') : W.grownBy W' none := ⟨g.os, g.tape, g.output, g.size, fun k hk _ => g.block k hk⟩
theorem firm_cells (o : Obj) (h : o.isCells = true) : firm o = true := by unfold firm; rw [h]; rfl
theorem Gr.hold {κ : Obj → Bool} {Ks : Nat → Prop} {W W' : World} (g : Gr W W') : HoldS κ Ks W W' := ⟨g.size, fun k _ _ h1 _ => (g.block k (Array.getElem?_eq_some_iff.1 h1).1).trans h1⟩

set_option maxRecDepth 100000 in
set_option maxHeartbeats 4000000 in
theorem all1_told (n : Nat) (hn : 2 ≤ n) (Bb Ba : Nat) (q : Option Addr) (m d : Nat) (xs : List Int) (at' : Nat) (w : World) (h : AllAt w Bb Ba q m d xs at') (hat : at' ≤ 18446744073709551615) (hm : m ≤ 20000) :
    SeqTold Fence.wide n Try.prog 74 #[.pointer (some ⟨Bb, 0, none⟩), .pointer (some ⟨Ba, 0, none⟩)] RX.encs (fun pre x V => x.Good V ∧ ∃ zs, (pre ++ [x]).map RX.two ++ zs = allL xs at') (fun k => ∃ y, q = some y ∧ y.block = k) (fun ys => ys.map RX.two = allL xs at') (fun _ => True) w := fun l J Jx W hW hJ hJx hY h0 => by
  have hA := Lib.hid (h.up hW)
  have h1 : 1 ≤ n := by omega
  have c0 : W.cell? ⟨Bb, 0, none⟩ = some (.slice q m d) := hA.out.b.cell 0
  have c1 : W.cell? ⟨Ba, 0, none⟩ = some (.int .u64 at') := hA.out.a.cell 0
  have HJ := Lib.hid hJ
  have HY := Lib.hid hY
  have H0 := Lib.hid h0
  clear hW hJ hJx hY h0 h
  refine callsIn_of_wp Try.func74 rfl trivial ?_ rfl
  simp only [Try.ntmps74, List.size_toArray, List.length_cons, List.length_nil, Nat.reduceAdd, Nat.reduceSub, Array.replicate_succ, Array.replicate_zero, List.push_toArray, List.append_toArray, List.nil_append, List.cons_append]
  gi_wp2_with fail
  gi_region
  gi_wp2_with fail
  have gd : Gr W W.drew := (Gr.refl W).drew
  have HE : Hid (∀ ys e, ofB ys e = true → ofE ys e = 0) := Lib.hid fun ys e h => by simp [ofE, h]
  have HE1 : Hid (∀ ys e, ofB ys e = false → ofE ys e = 4) := Lib.hid fun ys e h => by simp [ofE, h]
  have HY0 := Lib.hid (hA.out.y.kept gd)
  have HJ0 := Lib.hid (HJ.out [] W _ none H0.out gd.grown (fun r e => by cases e))
  have HS0 := Lib.hid gd.size
  generalize W.drew = W0 at HY0 HJ0 HS0 ⊢
  clear c0 c1 hA H0 gd
  gi_loopw [4, 5] (fun rest en wr => ∃ (pre : List RX) (ys : List Int) (e : Nat) (q' : Option Addr) (m' d' : Nat), rest = .slice q' m' d' ∧ en = .int .u64 e ∧ Hid (Byt wr q' m' d' ys) ∧ Hid (∀ y, q' = some y → ∃ z, q = some z ∧ z.block = y.block) ∧ Hid (pre.map RX.two ++ allL ys e = allL xs at') ∧ e ≤ 18446744073709551615 ∧ m' ≤ 20000 ∧ Hid (J pre wr ∧ W.heap.size ≤ wr.heap.size)) (fun rest _ _ => match rest with | .slice _ k _ => k | _ => 0)
  case atStart => exact ⟨[], xs, at', q, m, d, rfl, rfl, HY0, Lib.hid fun y h => ⟨y, h, rfl⟩, Lib.hid rfl, hat, hm, Lib.hid ⟨HJ0.out, HS0.out⟩⟩
  case round =>
    obtain ⟨pre, ys, e, q', m', d', rfl, rfl, hy, hq, hs, he, hm', hj⟩ := hrel
    clear HY0 HJ0 HS0 hat hm
    gi_wp2_with fail
    refine ⟨trivial, ?_⟩
    refine (callsIn_wide.2 (of_own q' m' d' ys e _ hy.out he)).mono ?_
    rintro e1 V ⟨pb, nb, cb, pa, na, ca, rfl, ho1, ho2, g1⟩
    have gn := Gr.trans g1 ((Gr.refl V).alloc (Nat.le_refl _) (.cells #[.int .i64 (ofR ys e).k, .int .u64 (ofR ys e).t, .int .u64 (ofR ys e).p, .int .u64 (ofR ys e).x, .int .i64 (ofR ys e).g, .int .i64 (ofR ys e).o, .slice pb nb cb, .slice pa na ca] TR))
    cases hB : ofB ys e
    · rw [HE1.out _ _ hB]
      gi_wp2_with fail
      refine bodyPost_ret (results_none rfl _ _ _) rfl ?_
      exact ⟨⟨_, rfl⟩, .inl ⟨pre, by rw [← hs.out, allL_no hB, List.append_nil], HJ.out pre _ _ none hj.out.1 gn.grown (fun r e => by cases e)⟩⟩
    · rw [HE.out _ _ hB]
      have hn := ofN_yes hB
      have hly := hy.out.len
      have hcy := hy.out.cap
      obtain ⟨b, o, rfl, _⟩ := hy.out.at (by omega)
      obtain ⟨N, hN⟩ : ∃ N, N = ofN ys e := ⟨_, rfl⟩
      obtain ⟨R, hR⟩ : ∃ R, R = ofR ys e := ⟨_, rfl⟩
      have hN2 := ofN_small hB
      have hs2 := hs.out
      rw [allL_yes hB, ← hN, ← hR] at hs2
      rw [← hR] at ho1 ho2 gn ⊢
      rw [← hN] at hn hN2 ⊢
      have hRI : R.In := by rw [hR]; exact ofR_in hy.out.small e
      clear hN hR hB
      have hw : IntKind.u64.wrap ((e : Int) + (N : Int)) = ((onW e N : Nat) : Int) := by rw [IntKind.wrap_u64]; unfold onW; omega
      have hqb := hq.out _ rfl
      have HX : ∃ x : RX, x = ⟨onW e N, R, pb, nb, cb, pa, na, ca⟩ := ⟨_, rfl⟩
      obtain ⟨x, hx⟩ := HX
      have hgood : x.Good (V.alloc (.cells #[.int .i64 R.k, .int .u64 R.t, .int .u64 R.p, .int .u64 R.x, .int .i64 R.g, .int .i64 R.o, .slice pb nb cb, .slice pa na ca] TR)) := by
        rw [hx]
        exact ⟨(ho1.base_le (Nat.zero_le _)).alloc _, (ho2.base_le (Nat.zero_le _)).alloc _, onW_le _ _, hRI⟩
      obtain ⟨fn, tmps, assign, body, hyl, hR⟩ := HY.out pre x _ (HJ.out pre _ _ none hj.out.1 gn.grown (fun r e => by cases e)) ⟨hgood, allL (ys.drop N) (onW e N), by rw [← hs2, hx]; simp [RX.two]⟩
      rw [hx] at hyl
      dsimp only [RX.encs, RX.agg] at hyl
      have HR := Lib.hid hR
      have hyt := Lib.hid (hy.out.kept gn)
      have hsz := Lib.hid (Nat.le_trans hj.out.2 gn.size)
      have hss : Hid ((pre ++ [x]).map RX.two ++ allL (ys.drop N) (onW e N) = allL xs at') := Lib.hid (by rw [← hs2, hx]; simp [RX.two])
      have hbr := (Blk.new V TR #[.int .i64 R.k, .int .u64 R.t, .int .u64 R.p, .int .u64 R.x, .int .i64 R.g, .int .i64 R.o, .slice pb nb cb, .slice pa na ca]).c8
      obtain ⟨r0, r1, r2, r3, r4, r5, r6, r7⟩ := hbr
      have hm2 : N ≤ m' := by omega
      clear hgood hR hx hs2 hs hj hy hq gn g1 ho1 ho2 hRI
      by_cases hd : d' = N
      · gi_wp2_with fail
        refine HR.out.mono ?_
        rintro e2 V' (⟨rfl, hj2, hk⟩ | ⟨rfl, hx2⟩)
        · have hy2 : Hid (Byt V' (some ⟨b, o, none⟩) (m' - N) 0 (ys.drop N)) := Lib.hid ((show Byt _ (some ⟨b, o, none⟩) (m' - N) 0 (ys.drop N) from by have h := hyt.out.tail N hm2 (some ⟨b, o, none⟩) (fun h => absurd hd h); rw [hd, Nat.sub_self] at h; exact h).held firm_cells hk (fun y h => by cases h; exact hqb))
          have hj3 := Lib.hid (show J (pre ++ [x]) V' ∧ W.heap.size ≤ V'.heap.size from ⟨hj2, Nat.le_trans hsz.out hk.size⟩)
          clear hk hj2 hyt hsz r0 r1 r2 r3 r4 r5 r6 r7 hyl HR
          gi_wp2_with fail
          go_roundw
          case rel => exact ⟨pre ++ [x], ys.drop N, onW e N, (some ⟨b, o, none⟩), m' - N, 0, rfl, rfl, hy2, Lib.hid (fun y h => by cases h; exact hqb), hss, onW_le _ _, by omega, hj3⟩
          case measure => simp; omega
        · gi_wp2_with fail
          refine bodyPost_ret (results_none rfl _ _ _) rfl ?_
          exact ⟨⟨_, rfl⟩, .inr ⟨pre ++ [x], trivial, hx2⟩⟩
      · gi_wp2_with fail
        refine HR.out.mono ?_
        rintro e2 V' (⟨rfl, hj2, hk⟩ | ⟨rfl, hx2⟩)
        · have hy2 : Hid (Byt V' (some ⟨b, o + N, none⟩) (m' - N) (d' - N) (ys.drop N)) := Lib.hid ((hyt.out.tail N hm2 (some ⟨b, o + N, none⟩) (fun _ => rfl)).held firm_cells hk (fun y h => by cases h; exact hqb))
          have hj3 := Lib.hid (show J (pre ++ [x]) V' ∧ W.heap.size ≤ V'.heap.size from ⟨hj2, Nat.le_trans hsz.out hk.size⟩)
          clear hk hj2 hyt hsz r0 r1 r2 r3 r4 r5 r6 r7 hyl HR
          gi_wp2_with fail
          go_roundw
          case rel => exact ⟨pre ++ [x], ys.drop N, onW e N, (some ⟨b, o + N, none⟩), m' - N, (d' - N), rfl, rfl, hy2, Lib.hid (fun y h => by cases h; exact hqb), hss, onW_le _ _, by omega, hj3⟩
          case measure => simp; omega
        · gi_wp2_with fail
          refine bodyPost_ret (results_none rfl _ _ _) rfl ?_
          exact ⟨⟨_, rfl⟩, .inr ⟨pre ++ [x], trivial, hx2⟩⟩

end Go.Proofs.Ytchfhgeipmfegaa
