/-
  Texts on locks, put together: Lk46 Lk47.
-/
import Derived.Test.YtadopbpfnnpnaaaGreatL20
set_option linter.unusedVariables false
set_option linter.unusedSimpArgs false
/-
  The code's table of locks: an owner is taken out of a line (slices.DeleteFunc).
-/
namespace Go.Proofs.YtadopbpfnnpnaaaGreat
open Go.RowKit Go.Maps

section
variable {α : Type} {a c : List α} {x : α}
theorem gap_at {i : Nat} (h1 : a.length ≤ i) (h2 : i < (a ++ c).length) : ((a ++ c).take i ++ (a ++ x :: c).drop i)[i + 1]? = some ((a ++ c)[i]) := by
  have hl : ((a ++ c).take i).length = i := by rw [List.length_take]; omega
  rw [List.getElem?_append_right (by omega), hl, List.getElem?_drop, List.getElem?_append_right (by omega), show i + (i + 1 - i) - a.length = (i - a.length) + 1 by omega, List.getElem?_cons_succ]
  rw [List.getElem_append_right h1, List.getElem?_eq_getElem (by simp at h2; omega)]
theorem gap_len {i : Nat} (h2 : i ≤ (a ++ c).length) : ((a ++ c).take i ++ (a ++ x :: c).drop i).length = (a ++ c).length + 1 := by
  simp only [List.length_append, List.length_take, List.length_drop, List.length_cons] at h2 ⊢
  omega
theorem gap_set {i : Nat} (h2 : i < (a ++ c).length) : ((a ++ c).take i ++ (a ++ x :: c).drop i).set i ((a ++ c)[i]) = (a ++ c).take (i + 1) ++ (a ++ x :: c).drop (i + 1) := by
  have hl : ((a ++ c).take i).length = i := by rw [List.length_take]; omega
  have hlt : i < (a ++ x :: c).length := by simp at h2 ⊢; omega
  rw [List.set_append_right _ _ (by omega), hl, Nat.sub_self, List.drop_eq_getElem_cons hlt, List.set_cons_zero, List.take_succ_eq_append_getElem h2, List.append_assoc]
  rfl
end
set_option maxRecDepth 100000 in
set_option maxHeartbeats 4000000 in
theorem ldelete_any {w : World} {lb off J cap ob o : Nat} {a c : List (Nat × Int)} {m : Int} {pop : Bool} (h : LnAt w (some lb) (.slice (some ⟨lb, 2 * off, none⟩) (J + 1) cap) (a ++ (o, m) :: c) pop) (hJb : J < 1000000000) (hb : Blk w ob TOw #[.int .u64 (o : Int)]) (hne : ob ≠ lb)
    (ha : ∀ x, x ∈ a → x.1 ≠ o) (hc : ∀ x, x ∈ c → x.1 ≠ o) :
    Calls Tryz.prog 57 #[.slice (some ⟨lb, 2 * off, none⟩) (J + 1) cap, fnGone ob] w fun e w' => ∃ p n k, e = .returned (.slice p n k) ∧ LnAt w' (some lb) (.slice p n k) (a ++ c) pop ∧ w.grownBy w' (some lb) := by
  rcases h with ⟨h1, _, _⟩ | ⟨b', off', cap', cs, h1, h2, h3, h4, h5, h6, h7, h8⟩
  · cases h1
  cases h1
  simp only [Value.slice.injEq, Option.some.injEq, Addr.mk.injEq, and_true, true_and] at h2
  obtain ⟨e1, e2, rfl⟩ := h2
  have e3 : off' = off := by omega
  subst e3
  have hLJ : J = (a ++ c).length := by simp at e2 ⊢; omega
  obtain ⟨I, hI⟩ : ∃ I, I = a.length := ⟨_, rfl⟩
  have hIJ : I ≤ J := by rw [hLJ, hI]; simp
  have h40 : J + 1 ≤ cap := by rw [e2]; exact h4
  have hL : LnC w lb (2 * off') (a ++ (o, m) :: c) cs := ⟨h3, by have := h6; omega, h7⟩
  have HI := Lib.hid (lindex_any (cap := cap) hL e2 (by omega) hb ha)
  obtain ⟨Q, hQ⟩ : ∃ Q, Q = 2 * off' := ⟨_, rfl⟩
  rw [← hQ] at HI hL ⊢
  rw [← hI] at HI
  have HH := Lib.hid (And.intro hL (And.intro hb (And.intro hne (And.intro hc (And.intro hLJ hI)))))
  have H5 := Lib.hid (And.intro h5 (And.intro h6 (And.intro h8 hQ)))
  have eg : ∀ args w, (callFunc 58 args).run Tryz.prog w = .ok (.enter 58 args) w := enters_of Tryz.func58 (by kernel_rfl) rfl
  have hn1 : ((I : Int) == -1) = false := by rw [beq_eq_false_iff_ne]; omega
  have hw1 : IntKind.i64.wrap ((I : Int) + 1) = ((I + 1 : Nat) : Int) := by rw [IntWalk.i64_in _ (by omega)]; omega
  unfold fnGone at HI ⊢
  clear h3 h4 h5 h6 h7 h8 e2 e1 hLJ hI hL hb hne ha hc hQ
  go_enter Tryz.func57, Tryz.ntmps57
  go_wp2_with fail
  refine HI.out.mono ?_
  rintro e w1 ⟨rfl, g1⟩
  have G1 := Lib.hid g1
  clear g1 HI
  go_wp2_with fail
  go_loopw [5, 6] (fun s5 s6 wr => ∃ i : Nat, s5 = .int .i64 (i : Int) ∧ s6 = .int .i64 ((i + 1 : Nat) : Int) ∧ I ≤ i ∧ i ≤ J ∧ Hid (∃ cs', LnC wr lb Q ((a ++ c).take i ++ (a ++ (o, m) :: c).drop i) cs' ∧ cs'.size = cs.size ∧ w.grownBy wr (some lb))) (fun s5 _ _ => J - (intOf s5).toNat)
  case atStart =>
    refine ⟨I, rfl, by simp, Nat.le_refl _, hIJ, Lib.hid ⟨cs, ?_, rfl, ⟨G1.out.os, G1.out.tape, G1.out.output, G1.out.size, fun n hn _ => G1.out.block n hn⟩⟩⟩
    obtain ⟨hL, -, -, -, -, hI⟩ := HH.out
    have e : (a ++ c).take I ++ (a ++ (o, m) :: c).drop I = a ++ (o, m) :: c := by
      rw [hI, List.take_left' rfl, List.drop_left' rfl]
    rw [e]
    exact hL.gr G1.out
  case round =>
    obtain ⟨i, rfl, rfl, hi1, hi2, HR⟩ := hrel
    obtain ⟨cs', hL, hcs, hgr⟩ := HR.out
    by_cases hlt : i < J
    · have g3 : ((i + 1 : Nat) : Int) < ((J + 1 : Nat) : Int) := by omega
      obtain ⟨i1, hi1e⟩ : ∃ i1, i1 = i + 1 := ⟨_, rfl⟩
      rw [← hi1e] at g3 ⊢
      obtain ⟨-, hb, hne, hc, hLJ, hI⟩ := HH.out
      have hil : i < (a ++ c).length := by omega
      have hglen := gap_len (x := (o, m)) (Nat.le_of_lt hil)
      obtain ⟨x2, x3⟩ := hL.at i1 (by rw [hglen, ← hLJ]; omega)
      have hat := gap_at (x := (o, m)) (by rw [← hI]; exact hi1) hil
      have hge : ((a ++ c).take i ++ (a ++ (o, m) :: c).drop i)[i1]'(by rw [hglen, ← hLJ]; omega) = (a ++ c)[i] := by
        rw [← hi1e, List.getElem?_eq_getElem (by rw [hglen, ← hLJ]; omega)] at hat
        exact Option.some.inj hat
      rw [hge] at x2 x3
      obtain ⟨E, hE⟩ : ∃ E, E = (a ++ c)[i] := ⟨_, rfl⟩
      rw [← hE] at x2 x3
      have hset := hL.set i (by rw [hglen, ← hLJ]; omega) E.1 E.2
      rw [hE, gap_set hil, ← hE] at hset
      have hEo : E.1 ≠ o := by
        rw [hE]
        have e : (a ++ c)[i] = c[i - a.length]'(by simp at hil; omega) := List.getElem_append_right (by omega)
        rw [e]
        exact hc _ (List.getElem_mem _)
      obtain ⟨E1, E2⟩ := E
      have HEq : Hid ((E1, E2) = (a ++ c)[i]'(by have := HH.out.2.2.2.2.1; omega)) := Lib.hid hE
      have hbr := hb.stays (hgr.block ob hb.lt fun e => hne (by cases e; rfl))
      have gA : Gr wr (wr.alloc (.cells #[.int .u64 (E1 : Int), .int .i64 E2] TWt)) := (Gr.refl wr).alloc (Nat.le_refl _) _
      have bA := Blk.new wr TWt #[.int .u64 (E1 : Int), .int .i64 E2]
      obtain ⟨WA, hWA⟩ : ∃ WA, WA = wr.alloc (.cells #[.int .u64 (E1 : Int), .int .i64 E2] TWt) := ⟨_, rfl⟩
      rw [← hWA] at gA bA
      obtain ⟨vb, hvb⟩ : ∃ vb, vb = wr.heap.size := ⟨_, rfl⟩
      rw [← hvb] at bA
      have HC := Lib.hid (gone1_any (hbr.gr gA) E1 E2)
      rw [decide_eq_false hEo] at HC
      have y0 := bA.cell 0
      have y1 := bA.cell 1
      simp at y0 y1
      have hlbv : lb ≠ vb := by have := hL.1.lt; omega
      have HS := Lib.hid (And.intro hL (And.intro hcs (And.intro hgr (And.intro gA (And.intro bA (And.intro hlbv (And.intro hWA hvb)))))))
      have HSet := Lib.hid hset
      have HB := Lib.hid (show I ≤ i ∧ i < J ∧ i1 = i + 1 from ⟨hi1, hlt, hi1e⟩)
      have hw2 : IntKind.i64.wrap ((i : Int) + 1) = (i1 : Int) := by rw [IntWalk.i64_in _ (by omega)]; omega
      have hw3 : IntKind.i64.wrap ((i1 : Int) + 1) = ((i1 + 1 : Nat) : Int) := by rw [IntWalk.i64_in _ (by omega)]; omega
      have hb0 : (0 : Int) ≤ (i1 : Int) := by omega
      have hb1 : (0 : Int) ≤ (i : Int) := by omega
      have hb2 : (i : Int) < ((J + 1 : Nat) : Int) := by omega
      clear hb hne hc hLJ hI hglen hat hge hE hset hEo hbr gA bA hlbv hL hcs hgr hWA hvb hi1 hi2 hlt HR hi1e
      go_upto_region 8 with fail
      rw [show (wr.alloc (.cells #[.int .u64 (E1 : Int), .int .i64 E2] 61)) = WA from HS.out.2.2.2.2.2.2.1.symm, ← HS.out.2.2.2.2.2.2.2]
      go_upto_region 9 with (go_at_fn 58; refine HC.out.mono ?_; rintro e w7 ⟨rfl, g7⟩; have G7 := Lib.hid g7; clear g7)
      have g17 : Gr wr w7 := Gr.trans HS.out.2.2.2.1 G7.out
      obtain ⟨u0, u1⟩ := (HS.out.1.gr g17).at i (by rw [gap_len (x := (o, m)) (by have := HB.out; have := HH.out.2.2.2.2.1; omega)]; have := HB.out; have := HH.out.2.2.2.2.1; omega)
      have f0 := (HS.out.1.gr g17).1.frozen (Q + i * 2)
      have f1 := (HS.out.1.gr g17).1.frozen (Q + i * 2 + 1)
      have z0 := (HS.out.2.2.2.2.1.gr G7.out).cell 0
      have z1 := (HS.out.2.2.2.2.1.gr G7.out).cell 1
      simp at z0 z1
      have HE : Hid (∃ cs', LnC ((w7.setCell ⟨lb, Q + i * 2, none⟩ (.int .u64 (E1 : Int))).setCell ⟨lb, Q + i * 2 + 1, none⟩ (.int .i64 E2)) lb Q ((a ++ c).take i1 ++ (a ++ (o, m) :: c).drop i1) cs' ∧ cs'.size = cs.size ∧ w.grownBy ((w7.setCell ⟨lb, Q + i * 2, none⟩ (.int .u64 (E1 : Int))).setCell ⟨lb, Q + i * 2 + 1, none⟩ (.int .i64 E2)) (some lb)) := Lib.hid (by
        obtain ⟨hL, hcs, hgr, gA, bA, hlbv, -, -⟩ := HS.out
        obtain ⟨hi1, hlt, hi1e⟩ := HB.out
        obtain ⟨-, -, -, -, hLJ, hI⟩ := HH.out
        have hil : i < (a ++ c).length := by omega
        have hs := (hL.gr g17).set i (by rw [gap_len (Nat.le_of_lt hil)]; omega) E1 E2
        rw [show (E1, E2) = (a ++ c)[i] from HEq.out, gap_set hil, ← hi1e] at hs
        refine ⟨_, hs, by simp [hcs], ?_⟩
        have g := grown_gr hgr g17
        exact ⟨g.os, g.tape, g.output, by have := g.size; simpa using this, fun n hn hk => (Below.heap_setCell _ _ _ _ (fun e => hk (by rw [e]))).trans ((Below.heap_setCell _ _ _ _ (fun e => hk (by rw [e]))).trans (g.block n hn hk))⟩)
      clear g17 y0 y1
      go_upto_region 10 with fail
      obtain ⟨WE, hWE⟩ : ∃ WE, WE = (w7.setCell ⟨lb, Q + i * 2, none⟩ (.int .u64 (E1 : Int))).setCell ⟨lb, Q + i * 2 + 1, none⟩ (.int .i64 E2) := ⟨_, rfl⟩
      rw [← hWE] at HE ⊢
      have HMe : Hid (i1 ≤ J ∧ I ≤ i1 ∧ J - i1 < J - i) := Lib.hid (by have := HB.out; omega)
      clear u0 u1 f0 f1 z0 z1 hWE g3 hb2
      go_wp2_with fail
      go_roundw
      case rel => exact ⟨i1, rfl, by simp, HMe.out.2.1, HMe.out.1, HE⟩
      case measure => simpa [intOf] using HMe.out.2.2
    · have hiJ : J = i := by omega
      subst hiJ
      have g3 : ¬ (((J + 1 : Nat) : Int) < ((J + 1 : Nat) : Int)) := by omega
      have hbc : ¬ (cap = J) := by omega
      have hb0 : (0 : Int) ≤ (J : Int) := by omega
      have hb1 : (J : Int) ≤ ((J + 1 : Nat) : Int) := by omega
      have hb2 : (J : Int) ≤ (cap : Int) := by omega
      have hq2 : Q + J * 2 + 2 ≤ cs'.size := by
        have h1 := hL.2.1
        rw [gap_len (x := (o, m)) (Nat.le_of_eq HH.out.2.2.2.2.1), ← HH.out.2.2.2.2.1] at h1
        omega
      have hL1 := hL.1
      have HE : Hid (LnAt (wr.setRow lb (over cs'.toList (Q + J * 2) [.int .u64 0, .int .i64 0]).toArray) (some lb) (.slice (some ⟨lb, Q, none⟩) J cap) (a ++ c) pop ∧ w.grownBy (wr.setRow lb (over cs'.toList (Q + J * 2) [.int .u64 0, .int .i64 0]).toArray) (some lb)) := Lib.hid (by
        obtain ⟨-, -, -, -, hLJ, hI⟩ := HH.out
        obtain ⟨h5, h6, h8, hQ⟩ := H5.out
        have hfit : Q + J * 2 + ([.int .u64 0, .int .i64 0] : List Value).length ≤ cs'.toList.length := by rw [Array.length_toList]; simpa using hq2
        have hol : (over cs'.toList (Q + J * 2) [.int .u64 0, .int .i64 0]).length = cs'.size := (over_len hfit).trans Array.length_toList
        refine ⟨.inr ⟨lb, off', cap, _, rfl, by rw [hQ, hLJ], hL1.row _, by omega, h5, by simp only [List.size_toArray]; rw [hol, hcs]; exact h6, fun i u hi => ?_, fun hp => ⟨(h8 hp).1, by simp only [List.size_toArray]; rw [hol, hcs]; exact (h8 hp).2⟩⟩, ⟨hgr.os, hgr.tape, hgr.output, by have := hgr.size; simpa using this, fun n hn hk => (setRow_other wr lb n _ (fun e => hk (by rw [e]))).trans (hgr.block n hn hk)⟩⟩
        have hlt := (List.getElem?_eq_some_iff.1 hi).1
        rw [wcells_len, ← hLJ] at hlt
        rw [← hQ, List.getElem?_toArray, over_out hfit (.inl (by omega))]
        have e : (a ++ c).take J ++ (a ++ (o, m) :: c).drop J = (a ++ c) ++ (a ++ (o, m) :: c).drop J := by rw [List.take_of_length_le (by omega)]
        have hcell := hL.2.2 i u (by
          rw [e]
          unfold wcells
          rw [List.flatMap_append]
          have : (wcells (a ++ c))[i]? = some u := hi
          unfold wcells at this
          rw [List.getElem?_append_left (List.getElem?_eq_some_iff.1 this).1]
          exact this)
        simpa using hcell)
      clear hL hcs hgr hi1 hi2 hlt HR
      have hcl := fun (ty : TypeId) (k : Nat) => run_clear_one (c := k) hL1 hq2 ty
      go_wp2_with fail
      go_ret
      exact ⟨_, _, _, rfl, HE.out.1, HE.out.2⟩
end Go.Proofs.YtadopbpfnnpnaaaGreat

/-
  The code's table of locks: slices.Compact of rising keys of which one stands there twice.
-/
namespace Go.Proofs.YtadopbpfnnpnaaaGreat
open Go.RowKit Go.Maps

theorem run_clear_key {w : World} {g q c : Nat} {cur : Array Value} (hb : Blk w g TKey cur) (hq : q + 2 ≤ cur.size) (ty : TypeId) :
    (Builtin.clear_ #[TKs] ty #[.slice (some ⟨g, q, none⟩) 1 c]).run Tryz.prog w = .ok (.tuple #[]) (w.setRow g (over cur.toList q [.int .i64 0, .int .i64 0]).toArray) := by
  have hst := run_storeCells_at Tryz.prog g q TKey [.int .i64 0, .int .i64 0] 0 cur w hb (by simp; omega) (fun v hv => by simp at hv; rcases hv with rfl | rfl <;> rfl)
  have hz : (Builtin.zeroCells (Value.agg #[.int .i64 0, .int .i64 0]).cells 1).toList = [.int .i64 0, .int .i64 0] := by kernel_rfl
  simp only [Nat.add_zero] at hst
  have hzv := Tryz.zeroValue33 w
  simp [Builtin.clear_, run_underlying Tryz.underlying74, hzv, hz, hst, over]
theorem flat_set : ∀ (ss : List Key) (i : Nat) (X : Key), i < ss.length → ((ss.flatMap kcells).set (i * 2) (.int .i64 X.1)).set (i * 2 + 1) (.int .i64 X.2) = (ss.set i X).flatMap kcells
  | [], i, X, h => absurd h (Nat.not_lt_zero _)
  | a :: r, 0, X, _ => rfl
  | a :: r, i + 1, X, h => by
    have ih := flat_set r i X (by simpa using h)
    have e : (a :: r).flatMap kcells = .int .i64 a.1 :: .int .i64 a.2 :: r.flatMap kcells := rfl
    have e2 : ((a :: r).set (i + 1) X).flatMap kcells = .int .i64 a.1 :: .int .i64 a.2 :: (r.set i X).flatMap kcells := rfl
    rw [e, e2, show (i + 1) * 2 = i * 2 + 1 + 1 by omega, List.set_cons_succ, List.set_cons_succ, List.set_cons_succ, List.set_cons_succ, ih]
/-- A row of keys whose cells are known; one is stored. -/
theorem Kr.put {w : World} {base g N cap : Nat} {ys : List Key} (h : Kr w base (.slice (some ⟨g, 0, none⟩) N cap) ys) (hN : N = ys.length) (i : Nat) (hi : i < ys.length) (X : Key) :
    Kr ((w.setCell ⟨g, i * 2, none⟩ (.int .i64 X.1)).setCell ⟨g, i * 2 + 1, none⟩ (.int .i64 X.2)) base (.slice (some ⟨g, 0, none⟩) N cap) (ys.set i X) ∧ w.grownBy ((w.setCell ⟨g, i * 2, none⟩ (.int .i64 X.1)).setCell ⟨g, i * 2 + 1, none⟩ (.int .i64 X.2)) (some g) := by
  unfold Kr at h ⊢
  rw [List.length_set, ← flat_set ys i X hi, ← hN]
  rw [← hN] at h
  obtain ⟨a1, a2⟩ := World.ownsRow.stored h (i * 2) (.int .i64 X.1)
  obtain ⟨b1, b2⟩ := World.ownsRow.stored a1 (i * 2 + 1) (.int .i64 X.2)
  exact ⟨b1, grown_tr a2 b2⟩
/-- Its end is cleared. -/
theorem Kr.cut {w : World} {base g J cap : Nat} {ys zs : List Key} {z : Key} (h : Kr w base (.slice (some ⟨g, 0, none⟩) (J + 1) cap) ys) (hy : ys = zs ++ [z]) (hJ : J = zs.length) :
    ∃ cur, Blk w g TKey cur ∧ J * 2 + 2 ≤ cur.size ∧ Kr (w.setRow g (over cur.toList (J * 2) [.int .i64 0, .int .i64 0]).toArray) base (.slice (some ⟨g, 0, none⟩) J cap) zs ∧ w.grownBy (w.setRow g (over cur.toList (J * 2) [.int .i64 0, .int .i64 0]).toArray) (some g) := by
  have hl : ys.length = J + 1 := by rw [hy, hJ]; simp
  rcases h.2 with ⟨h', _⟩ | ⟨g', cap', cur, h', hb, hg, h1, h2, h3, h4⟩
  · cases h'
  · simp only [Value.slice.injEq, Option.some.injEq, Addr.mk.injEq, and_true, true_and] at h'
    obtain ⟨rfl, _, rfl⟩ := h'
    rw [hl] at h1 h4
    have hfit : J * 2 + ([.int .i64 0, .int .i64 0] : List Value).length ≤ cur.toList.length := by rw [Array.length_toList]; simp; omega
    have hol : (over cur.toList (J * 2) [.int .i64 0, .int .i64 0]).length = cur.size := (over_len hfit).trans Array.length_toList
    refine ⟨cur, hg, by omega, ⟨by have := kcells_len zs; rw [this], .inr ⟨g, cap, _, by rw [hJ], hb, setRow_heap w g cur _ TKey (0, 0) hg, by omega, h2, by simp only [List.size_toArray]; rw [hol, h3], ?_⟩⟩, ⟨rfl, rfl, rfl, by simp, fun n hn hk => setRow_other w g n _ (fun e => hk (by rw [e]))⟩⟩
    rw [← hJ]
    apply List.ext_getElem?
    intro t
    have hfl : (zs.flatMap kcells).length = J * 2 := by rw [kcells_len, hJ]
    by_cases ht : t < J * 2
    · rw [List.getElem?_take_of_lt ht, over_out hfit (.inl ht)]
      have h5 : (ys.flatMap kcells)[t]? = cur.toList[t]? := by
        rw [← h4, List.getElem?_take_of_lt (by omega)]
      rw [← h5, hy, List.flatMap_append, List.getElem?_append_left (by omega)]
    · rw [List.getElem?_eq_none (by rw [List.length_take]; omega), List.getElem?_eq_none (by omega)]
set_option maxRecDepth 100000 in
set_option maxHeartbeats 4000000 in
theorem compact_dup {w : World} {base : Nat} {v : Value} {a c : List Key} {x : Key} (h : Kr w base v ((a ++ [x]) ++ x :: c)) (hA : Beside (a ++ [x])) (hC : Beside (x :: c)) (hn : ((a ++ [x]) ++ x :: c).length ≤ 1000000000) :
    Calls Tryz.prog 61 #[v] w fun e w' => ∃ v', e = .returned v' ∧ Kr w' base v' ((a ++ [x]) ++ c) ∧ v'.ownBlock = v.ownBlock ∧ w.grownBy w' v.ownBlock := by
  obtain ⟨J, hJ⟩ : ∃ J, J = ((a ++ [x]) ++ c).length := ⟨_, rfl⟩
  obtain ⟨A, hAe⟩ : ∃ A, A = a ++ [x] := ⟨_, rfl⟩
  rw [← hAe] at h hA hn hJ ⊢
  have hNJ : (A ++ x :: c).length = J + 1 := by rw [hJ]; simp; omega
  obtain ⟨K, hK⟩ : ∃ K, K = A.length := ⟨_, rfl⟩
  have hK0 : K = a.length + 1 := by rw [hK, hAe]; simp
  have hlast : A.getD (K - 1) (0, 0) = x := by rw [hK0, hAe]; simp [List.getD]
  have hKJ : K ≤ J := by rw [hJ, hK]; simp
  rcases h.2 with ⟨rfl, h0⟩ | ⟨g, cap, cur, rfl, hbg, _, hc, hm, _⟩
  · rw [hNJ] at h0; omega
  have hgo : (Value.slice (some ⟨g, 0, none⟩) (A ++ x :: c).length cap).ownBlock = some g := rfl
  rw [hgo]
  rw [hNJ] at h hc ⊢
  have hnb : J + 1 ≤ 1000000000 := by omega
  -- what stands at a place
  have hat : ∀ (W : World) (ys : List Key), Kr W base (.slice (some ⟨g, 0, none⟩) (J + 1) cap) ys → ys.length = J + 1 → ∀ j, j < J + 1 → W.cell? ⟨g, j * 2, none⟩ = some (.int .i64 (ys.getD j (0, 0)).1) ∧ W.cell? ⟨g, j * 2 + 1, none⟩ = some (.int .i64 (ys.getD j (0, 0)).2) := fun W ys hk hl j hj => by
    rw [← hl] at hk
    exact Kr.at hk j (by omega)
  have e0 : decide (((J + 1 : Nat) : Int) < 2) = false := decide_eq_false (by omega)
  have HH := Lib.hid (And.intro h (And.intro hA (And.intro hC (And.intro hNJ (And.intro hJ (And.intro hK (And.intro hlast hat)))))))
  have HB := Lib.hid (show K ≤ J ∧ 1 ≤ K ∧ J + 1 ≤ 1000000000 ∧ J + 1 ≤ cap ∧ cap ≤ maxLen from ⟨hKJ, by omega, hnb, hc, hm⟩)
  obtain ⟨N, hN⟩ : ∃ N, N = J + 1 := ⟨_, rfl⟩
  rw [← hN] at e0 ⊢
  have HN := Lib.hid hN
  clear h hA hC hNJ hJ hK hlast hat hK0 hAe hKJ hnb hc hm hn hgo hN
  go_enter Tryz.func61, Tryz.ntmps61
  go_wp2
  go_loopw [3] (fun i wr => ∃ j : Nat, i = .int .i64 ((j : Int) + 1) ∧ j + 1 ≤ K ∧ Hid (Gr w wr)) (fun i _ => N - (intOf i).toNat)
  case atStart => exact ⟨0, rfl, HB.out.2.1, Lib.hid (Gr.refl _)⟩
  case round =>
    obtain ⟨j, rfl, hj2, HG⟩ := hrel
    have hrow := World.ownsRow.kept HH.out.1 (w' := wr) (row := none) ⟨HG.out.os, HG.out.tape, HG.out.output, HG.out.size, fun k hk _ => HG.out.block k hk⟩ (.inr (by simp [Value.ownBlock]))
    obtain ⟨-, -, -, hNJ, hJ, hK, hlast, hat⟩ := HH.out
    have hBo := HB.out
    have hNo := HN.out
    obtain ⟨c0, c1⟩ := hat _ _ hrow hNJ (j + 1) (by omega)
    obtain ⟨d0, d1⟩ := hat _ _ hrow hNJ j (by omega)
    obtain ⟨X, hX⟩ : ∃ X, X = (A ++ x :: c).getD (j + 1) (0, 0) := ⟨_, rfl⟩
    obtain ⟨Y, hY⟩ : ∃ Y, Y = (A ++ x :: c).getD j (0, 0) := ⟨_, rfl⟩
    rw [← hX] at c0 c1
    rw [← hY] at d0 d1
    have hq : ∀ W, (Op.equalIn 10000 TKey (.agg #[.int .i64 X.1, .int .i64 X.2]) (.agg #[.int .i64 Y.1, .int .i64 Y.2])).run Tryz.prog W = .ok (decide (X = Y)) W := fun W => eqi_key X Y W
    have e3 : decide ((j : Int) + 1 < (N : Int)) = true := decide_eq_true (by omega)
    have hw : IntKind.i64.wrap ((j : Int) + 1 - 1) = (j : Int) := by rw [Int.add_sub_cancel]; exact IntWalk.i64_in _ (by omega)
    have hw2 : ((j : Int) + 1).toNat = j + 1 := by omega
    have hp : (0 : Int) ≤ (j : Int) + 1 := by omega
    have hjN : j + 1 < N := by omega
    have hjz : (j : Int) + 1 < (N : Int) := by omega
    have hNb : N ≤ 1000000000 := by omega
    by_cases hlt : j + 1 < K
    · have hne : X ≠ Y := by
        have := HH.out.2.1 j (by omega)
        have e1 : (A ++ x :: c).getD (j + 1) (0, 0) = A.getD (j + 1) (0, 0) := by simp [List.getD, List.getElem?_append_left (show j + 1 < A.length by omega)]
        have e2 : (A ++ x :: c).getD j (0, 0) = A.getD j (0, 0) := by simp [List.getD, List.getElem?_append_left (show j < A.length by omega)]
        rw [hX, hY, e1, e2]
        exact fun e => this e.symm
      rw [decide_eq_false hne] at hq
      have HJ2 := Lib.hid (show j + 1 + 1 ≤ K ∧ N - (j + 2) < N - (j + 1) by omega)
      clear hrow hX hY hne hlt hNJ hJ hK hlast hat hBo hNo hj2
      go_wp2_with fail
      go_quiet (fail)
      go_wp2_with fail
      go_roundw
      case rel => exact ⟨j + 1, by simp, HJ2.out.1, Lib.hid (grD HG.out)⟩
      case measure => simp [intOf]; have := HJ2.out.2; omega
    · have hjK : j + 1 = K := by omega
      have HjK := Lib.hid hjK
      have hxy : X = Y := by
        have e1 : (A ++ x :: c).getD (j + 1) (0, 0) = x := by rw [hjK, hK]; simp [List.getD]
        have e2 : (A ++ x :: c).getD j (0, 0) = A.getD j (0, 0) := by simp [List.getD, List.getElem?_append_left (show j < A.length by omega)]
        rw [hX, hY, e1, e2]
        have : j = K - 1 := by omega
        rw [this, hlast]
      rw [decide_eq_true hxy] at hq
      have hrowd := World.ownsRow.kept hrow (w' := wr.drew) (row := none) ⟨rfl, rfl, rfl, Nat.le_refl _, fun k hk _ => rfl⟩ (.inr (by simp [Value.ownBlock]))
      have hbk : ¬ (cap = K) := by omega
      clear hX hY hxy hNJ hJ hK hlast hat hBo hNo hj2 hlt hjK
      go_wp2_with fail
      go_quiet (fail)
      rename_i nq
      have HV : Hid (Kr (wr.drewN nq) base (.slice (some ⟨g, 0, none⟩) (J + 1) cap) (A ++ x :: c) ∧ w.grownBy (wr.drewN nq) (some g)) := Lib.hid ⟨World.ownsRow.kept hrow (row := none) ⟨rfl, rfl, rfl, Nat.le_refl _, fun k hk _ => rfl⟩ (.inr (by simp [Value.ownBlock])), ⟨HG.out.os, HG.out.tape, HG.out.output, HG.out.size, fun n hn _ => HG.out.block n hn⟩⟩
      obtain ⟨V0, hV0⟩ : ∃ V0, V0 = wr.drewN nq := ⟨_, rfl⟩
      rw [← hV0] at HV ⊢
      clear hV0 hrow hrowd c0 c1 d0 d1 hq e3 hw
      obtain ⟨L2, hL2⟩ : ∃ L2, L2 = N - (j + 1) := ⟨_, rfl⟩
      obtain ⟨C2, hC2⟩ : ∃ C2, C2 = cap - (j + 1) := ⟨_, rfl⟩
      have hbk2 : ¬ (cap = j + 1) := by have := HjK.out; omega
      have hb1 : (j : Int) + 1 ≤ (cap : Int) := by have := HB.out; have := HjK.out; omega
      have HL2 := Lib.hid (And.intro hL2 hC2)
      go_upto_region 8 with fail
      rw [← hL2, ← hC2]
      clear hL2 hC2
      clear hp hw2 hjz hjN hb1 hbk hbk2 hNb e0
      go_wp2_with fail
      go_loopw [3, 5] (fun s3 s5 wx => ∃ t i : Nat, s3 = .int .i64 (i : Int) ∧ s5 = .int .i64 ((t : Int) + 1) ∧ i = j + 1 + t ∧ i ≤ J ∧ Hid (Kr wx base (.slice (some ⟨g, 0, none⟩) (J + 1) cap) ((A ++ c).take i ++ (A ++ x :: c).drop i) ∧ w.grownBy wx (some g))) (fun s3 _ _ => J - (intOf s3).toNat)
      case atStart =>
        obtain ⟨-, -, -, hNJ, hJ, hK, -, -⟩ := HH.out
        refine ⟨0, j + 1, by simp, by simp, by omega, by have := HB.out; have := HjK.out; omega, Lib.hid ⟨?_, HV.out.2⟩⟩
        have e : (A ++ c).take (j + 1) ++ (A ++ x :: c).drop (j + 1) = A ++ x :: c := by
          rw [HjK.out, hK, List.take_left' rfl, List.drop_left' rfl]
        rw [e]
        exact HV.out.1
      case round =>
        obtain ⟨t, i, rfl, rfl, hit, hiJ, HR⟩ := hrel
        obtain ⟨-, -, hC, hNJ, hJ, hK, -, hat⟩ := HH.out
        have hjK := HjK.out
        have hB := HB.out
        have hNN := HN.out
        have hL := HL2.out.1
        by_cases hlt : i < J
        · have hil : i < (A ++ c).length := by omega
          have hgl := gap_len (x := x) (Nat.le_of_lt hil)
          obtain ⟨c0, c1⟩ := hat _ _ HR.out.1 (by rw [hgl]; omega) (i + 1) (by omega)
          obtain ⟨d0, d1⟩ := hat _ _ HR.out.1 (by rw [hgl]; omega) i (by omega)
          have hX : ((A ++ c).take i ++ (A ++ x :: c).drop i).getD (i + 1) (0, 0) = (A ++ c)[i] := by
            rw [List.getD, gap_at (by omega) hil]; rfl
          have hXc : (A ++ c)[i] = (x :: c).getD (t + 1) (0, 0) := by
            have e1 : (A ++ c)[i]? = (x :: c)[t + 1]? := by
              rw [List.getElem?_append_right (by omega), List.getElem?_cons_succ, show i - A.length = t by omega]
            rw [List.getD, ← e1, List.getElem?_eq_getElem hil]
            rfl
          have hY : ((A ++ c).take i ++ (A ++ x :: c).drop i).getD i (0, 0) = (x :: c).getD t (0, 0) := by
            have hl : ((A ++ c).take i).length = i := by rw [List.length_take]; omega
            rw [List.getD, List.getElem?_append_right (by omega), hl, List.getElem?_drop, List.getElem?_append_right (by omega), show i + (i - i) - A.length = t by omega]
            rfl
          rw [hX] at c0 c1
          rw [hY] at d0 d1
          obtain ⟨X, hXe⟩ : ∃ X, X = (A ++ c)[i] := ⟨_, rfl⟩
          obtain ⟨Y, hYe⟩ : ∃ Y, Y = (x :: c).getD t (0, 0) := ⟨_, rfl⟩
          rw [← hXe] at c0 c1 hXc
          rw [← hYe] at d0 d1
          have hne : X ≠ Y := by
            rw [hXc, hYe]
            have := hC t (by simp at hil ⊢; omega)
            exact fun e => this e.symm
          have hq : ∀ W, (Op.equalIn 10000 TKey (.agg #[.int .i64 X.1, .int .i64 X.2]) (.agg #[.int .i64 Y.1, .int .i64 Y.2])).run Tryz.prog W = .ok false W := fun W => by
            have := eqi_key X Y W
            rw [decide_eq_false hne] at this
            exact this
          rw [show (i + 1) * 2 = (j + 1) * 2 + (t + 1) * 2 by omega] at c0 c1
          have d0' := d0
          have d1' := d1
          rw [show i * 2 = (j + 1) * 2 + t * 2 by omega] at d0' d1'
          have e3 : decide ((t : Int) + 1 < (L2 : Int)) = true := decide_eq_true (by omega)
          have hw : IntKind.i64.wrap ((t : Int) + 1 - 1) = (t : Int) := by rw [Int.add_sub_cancel]; exact IntWalk.i64_in _ (by omega)
          have hw2 : ((t : Int) + 1).toNat = t + 1 := by omega
          have hp : (0 : Int) ≤ (t : Int) + 1 := by omega
          have htL : t + 1 < L2 := by omega
          have htz : (t : Int) + 1 < (L2 : Int) := by omega
          have hLb : L2 ≤ 1000000000 := by omega
          have hiN : i < N := by omega
          have hiz : (i : Int) < (N : Int) := by omega
          have hNb : N ≤ 1000000000 := by omega
          have HX := Lib.hid (And.intro hXe (And.intro hil (And.intro hgl (And.intro hJ HR.out))))
          have HMe : Hid (i + 1 = j + 1 + (t + 1) ∧ i + 1 ≤ J ∧ J - (i + 1) < J - i) := Lib.hid (by omega)
          clear hX hXc hY hYe hne hlt hL hNN hB hjK hC hNJ hK hat hit hiJ hXe hgl HR hJ
          go_wp2_with fail
          go_quiet (fail)
          generalize hV1 : World.drewN wr _ = V1
          have HV1 : Hid (Kr V1 base (.slice (some ⟨g, 0, none⟩) (J + 1) cap) ((A ++ c).take i ++ (A ++ x :: c).drop i) ∧ w.grownBy V1 (some g)) := Lib.hid (by
            rw [← hV1]
            obtain ⟨-, -, -, -, h1, h2⟩ := HX.out
            exact ⟨World.ownsRow.kept h1 (row := none) ⟨rfl, rfl, rfl, Nat.le_refl _, fun k hk _ => rfl⟩ (.inr (by simp [Value.ownBlock])), ⟨h2.os, h2.tape, h2.output, h2.size, fun n hn hk => h2.block n hn hk⟩⟩)
          have c0v : V1.cell? ⟨g, (j + 1) * 2 + (t + 1) * 2, none⟩ = some (.int .i64 X.1) := by rw [← hV1]; exact c0
          have c1v : V1.cell? ⟨g, (j + 1) * 2 + (t + 1) * 2 + 1, none⟩ = some (.int .i64 X.2) := by rw [← hV1]; exact c1
          have d0v : V1.cell? ⟨g, i * 2, none⟩ = some (.int .i64 Y.1) := by rw [← hV1]; exact d0
          have d1v : V1.cell? ⟨g, i * 2 + 1, none⟩ = some (.int .i64 Y.2) := by rw [← hV1]; exact d1
          clear c0 c1 d0 d1 d0' d1' hV1 hq
          obtain ⟨hXe, hil, hgl, hJ, -, -⟩ := HX.out
          obtain ⟨b1, b2⟩ := Kr.put HV1.out.1 (by rw [hgl]; omega) i (by rw [hgl]; omega) X
          rw [hXe, gap_set hil, ← hXe] at b1
          have fr0 := World.ownsRow.frozenAt (by have h9 := HV1.out.1; unfold Kr at h9; rw [hgl, ← hJ] at h9; exact h9) (i * 2)
          have fr1 := World.ownsRow.frozenAt (by have h9 := HV1.out.1; unfold Kr at h9; rw [hgl, ← hJ] at h9; exact h9) (i * 2 + 1)
          have HE := Lib.hid (And.intro b1 (grown_tr HV1.out.2 b2))
          have hwi : IntKind.i64.wrap ((i : Int) + 1) = ((i + 1 : Nat) : Int) := by rw [IntWalk.i64_in _ (by omega)]; omega
          have hwt : IntKind.i64.wrap ((t : Int) + 1 + 1) = ((t + 1 : Nat) : Int) + 1 := by rw [IntWalk.i64_in _ (by omega)]; omega
          clear b1 b2 hXe hgl hJ
          go_wp2_with fail
          exact ⟨⟨t + 1, i + 1, by simp, by simp, HMe.out.1, HMe.out.2.1, HE⟩, by simpa [intOf] using HMe.out.2.2⟩
        · have hiJ' : i = J := by omega
          have htL : t + 1 = L2 := by omega
          have e3 : decide ((t : Int) + 1 < (L2 : Int)) = false := decide_eq_false (by omega)
          have hJl : (A ++ c).length = i := by omega
          have hzs : ∃ z, (A ++ c).take i ++ (A ++ x :: c).drop i = (A ++ c) ++ [z] := by
            have hl1 : ((A ++ x :: c).drop i).length = 1 := by rw [List.length_drop]; omega
            match hd : (A ++ x :: c).drop i, hl1 with
            | [z], _ => exact ⟨z, by rw [List.take_of_length_le (by omega)]⟩
          obtain ⟨z, hz⟩ := hzs
          obtain ⟨cur2, k1, k2, k3, k4⟩ := Kr.cut HR.out.1 hz hJ
          rw [← hiJ'] at k2 k3 k4
          have hcl := fun (ty : TypeId) (k : Nat) => run_clear_key (c := k) k1 k2 ty
          have HE := Lib.hid (And.intro k3 (grown_tr HR.out.2 k4))
          have hNi : N = i + 1 := by omega
          have hbc : ¬ (cap = i) := by omega
          have hi0 : (0 : Int) ≤ (i : Int) := by omega
          have hiN : (i : Int) ≤ ((i + 1 : Nat) : Int) := by omega
          have hic : (i : Int) ≤ (cap : Int) := by omega
          have hib : i ≤ 1000000000 := by omega
          clear hlt hL hNN hB hjK hC hNJ hJ hK hat hit hiJ HR hiJ' htL hJl hz k1 k2 k3 k4 HL2 HN
          subst hNi
          go_wp2_with fail
          go_ret
          exact ⟨_, rfl, HE.out.1, rfl, HE.out.2⟩
end Go.Proofs.YtadopbpfnnpnaaaGreat

