/-
  Texts on locks, put together: Lk46.
-/
import Derived.Test.YtbmcdlcoojmppaaA19
/-
  The code's table of locks: an owner is taken out of a line (slices.DeleteFunc).
-/
namespace Go.Proofs.Ytbmcdlcoojmppaa
open Go.RowKit Go.Maps

section
variable {α : Type} {a c : List α} {x : α}
theorem gap_at {i : Nat} (h1 : a.length ≤ i) (h2 : i < (a ++ c).length) : ((a ++ c).take i ++ (a ++ x :: c).drop i)[i + 1]? = some ((a ++ c)[i]) := by
  have hl : ((a ++ c).take i).length = i := by rw [List.length_take]; omega
  rw [List.getElem?_append_right (by omega), hl, List.getElem?_drop, List.getElem?_append_right (by omega), show i + (i + 1 - i) - a.length = (i - a.length) + 1 by omega, List.getElem?_cons_succ]
  rw [List.getElem_append_right h1, List.getElem?_eq_getElem (by simp at h2; omega)]
theorem gap_len {i : Nat} (h2 : i ≤ (a ++ c).length) : ((a ++ c).take i ++ (a ++ x :: c).drop i).length = (a ++ c).length + 1 := by
  simp only [List.length_append, List.length_take, List.length_drop, List.length_cons] at h2 ⊢
  omega
theorem gap_set {i : Nat} (h2 : i < (a ++ c).length) : ((a ++ c).take i ++ (a ++ x :: c).drop i).set i ((a ++ c)[i]) = (a ++ c).take (i + 1) ++ (a ++ x :: c).drop (i + 1) := by
  have hl : ((a ++ c).take i).length = i := by rw [List.length_take]; omega
  have hlt : i < (a ++ x :: c).length := by simp at h2 ⊢; omega
  rw [List.set_append_right _ _ (by omega), hl, Nat.sub_self, List.drop_eq_getElem_cons hlt, List.set_cons_zero, List.take_succ_eq_append_getElem h2, List.append_assoc]
  rfl
end
set_option maxRecDepth 100000 in
set_option maxHeartbeats 4000000 in
theorem ldelete_any {w : World} {lb off J cap ob o : Nat} {a c : List (Nat × Int)} {m : Int} {pop : Bool} (h : LnAt w (some lb) (.slice (some ⟨lb, 2 * off, none⟩) (J + 1) cap) (a ++ (o, m) :: c) pop) (hJb : J < 1000000000) (hb : Blk w ob TOw #[.int .u64 (o : Int)]) (hne : ob ≠ lb)
    (ha : ∀ x, x ∈ a → x.1 ≠ o) (hc : ∀ x, x ∈ c → x.1 ≠ o) :
    Calls Try.prog 37 #[.slice (some ⟨lb, 2 * off, none⟩) (J + 1) cap, fnGone ob] w fun e w' => ∃ p n k, e = .returned (.slice p n k) ∧ LnAt w' (some lb) (.slice p n k) (a ++ c) pop ∧ w.grownBy w' (some lb) := by
  rcases h with ⟨h1, _, _⟩ | ⟨b', off', cap', cs, h1, h2, h3, h4, h5, h6, h7, h8⟩
  · cases h1
  cases h1
  simp only [Value.slice.injEq, Option.some.injEq, Addr.mk.injEq, and_true, true_and] at h2
  obtain ⟨e1, e2, rfl⟩ := h2
  have e3 : off' = off := by omega
  subst e3
  have hLJ : J = (a ++ c).length := by simp at e2 ⊢; omega
  obtain ⟨I, hI⟩ : ∃ I, I = a.length := ⟨_, rfl⟩
  have hIJ : I ≤ J := by rw [hLJ, hI]; simp
  have h40 : J + 1 ≤ cap := by rw [e2]; exact h4
  have hL : LnC w lb (2 * off') (a ++ (o, m) :: c) cs := ⟨h3, by have := h6; omega, h7⟩
  have HI := Lib.hid (lindex_any (cap := cap) hL e2 (by omega) hb ha)
  obtain ⟨Q, hQ⟩ : ∃ Q, Q = 2 * off' := ⟨_, rfl⟩
  rw [← hQ] at HI hL ⊢
  rw [← hI] at HI
  have HH := Lib.hid (And.intro hL (And.intro hb (And.intro hne (And.intro hc (And.intro hLJ hI)))))
  have H5 := Lib.hid (And.intro h5 (And.intro h6 (And.intro h8 hQ)))
  have eg : ∀ args w, (callFunc 38 args).run Try.prog w = .ok (.enter 38 args) w := enters_of Try.func38 (by kernel_rfl) rfl
  have hn1 : ((I : Int) == -1) = false := by rw [beq_eq_false_iff_ne]; omega
  have hw1 : IntKind.i64.wrap ((I : Int) + 1) = ((I + 1 : Nat) : Int) := by rw [IntWalk.i64_in _ (by omega)]; omega
  unfold fnGone at HI ⊢
  clear h3 h4 h5 h6 h7 h8 e2 e1 hLJ hI hL hb hne ha hc hQ
  go_enter Try.func37, Try.ntmps37
  go_wp2_with fail
  refine HI.out.mono ?_
  rintro e w1 ⟨rfl, g1⟩
  have G1 := Lib.hid g1
  clear g1 HI
  go_wp2_with fail
  go_loopw [5, 6] (fun s5 s6 wr => ∃ i : Nat, s5 = .int .i64 (i : Int) ∧ s6 = .int .i64 ((i + 1 : Nat) : Int) ∧ I ≤ i ∧ i ≤ J ∧ Hid (∃ cs', LnC wr lb Q ((a ++ c).take i ++ (a ++ (o, m) :: c).drop i) cs' ∧ cs'.size = cs.size ∧ w.grownBy wr (some lb))) (fun s5 _ _ => J - (intOf s5).toNat)
  case atStart =>
    refine ⟨I, rfl, by simp, Nat.le_refl _, hIJ, Lib.hid ⟨cs, ?_, rfl, ⟨G1.out.os, G1.out.tape, G1.out.output, G1.out.size, fun n hn _ => G1.out.block n hn⟩⟩⟩
    obtain ⟨hL, -, -, -, -, hI⟩ := HH.out
    have e : (a ++ c).take I ++ (a ++ (o, m) :: c).drop I = a ++ (o, m) :: c := by
      rw [hI, List.take_left' rfl, List.drop_left' rfl]
    rw [e]
    exact hL.gr G1.out
  case round =>
    obtain ⟨i, rfl, rfl, hi1, hi2, HR⟩ := hrel
    obtain ⟨cs', hL, hcs, hgr⟩ := HR.out
    by_cases hlt : i < J
    · have g3 : ((i + 1 : Nat) : Int) < ((J + 1 : Nat) : Int) := by omega
      obtain ⟨i1, hi1e⟩ : ∃ i1, i1 = i + 1 := ⟨_, rfl⟩
      rw [← hi1e] at g3 ⊢
      obtain ⟨-, hb, hne, hc, hLJ, hI⟩ := HH.out
      have hil : i < (a ++ c).length := by omega
      have hglen := gap_len (x := (o, m)) (Nat.le_of_lt hil)
      obtain ⟨x2, x3⟩ := hL.at i1 (by rw [hglen, ← hLJ]; omega)
      have hat := gap_at (x := (o, m)) (by rw [← hI]; exact hi1) hil
      have hge : ((a ++ c).take i ++ (a ++ (o, m) :: c).drop i)[i1]'(by rw [hglen, ← hLJ]; omega) = (a ++ c)[i] := by
        rw [← hi1e, List.getElem?_eq_getElem (by rw [hglen, ← hLJ]; omega)] at hat
        exact Option.some.inj hat
      rw [hge] at x2 x3
      obtain ⟨E, hE⟩ : ∃ E, E = (a ++ c)[i] := ⟨_, rfl⟩
      rw [← hE] at x2 x3
      have hset := hL.set i (by rw [hglen, ← hLJ]; omega) E.1 E.2
      rw [hE, gap_set hil, ← hE] at hset
      have hEo : E.1 ≠ o := by
        rw [hE]
        have e : (a ++ c)[i] = c[i - a.length]'(by simp at hil; omega) := List.getElem_append_right (by omega)
        rw [e]
        exact hc _ (List.getElem_mem _)
      obtain ⟨E1, E2⟩ := E
      have HEq : Hid ((E1, E2) = (a ++ c)[i]'(by have := HH.out.2.2.2.2.1; omega)) := Lib.hid hE
      have hbr := hb.stays (hgr.block ob hb.lt fun e => hne (by cases e; rfl))
      have gA : Gr wr (wr.alloc (.cells #[.int .u64 (E1 : Int), .int .i64 E2] TWt)) := (Gr.refl wr).alloc (Nat.le_refl _) _
      have bA := Blk.new wr TWt #[.int .u64 (E1 : Int), .int .i64 E2]
      obtain ⟨WA, hWA⟩ : ∃ WA, WA = wr.alloc (.cells #[.int .u64 (E1 : Int), .int .i64 E2] TWt) := ⟨_, rfl⟩
      rw [← hWA] at gA bA
      obtain ⟨vb, hvb⟩ : ∃ vb, vb = wr.heap.size := ⟨_, rfl⟩
      rw [← hvb] at bA
      have HC := Lib.hid (gone1_any (hbr.gr gA) E1 E2)
      rw [decide_eq_false hEo] at HC
      have y0 := bA.cell 0
      have y1 := bA.cell 1
      simp at y0 y1
      have hlbv : lb ≠ vb := by have := hL.1.lt; omega
      have HS := Lib.hid (And.intro hL (And.intro hcs (And.intro hgr (And.intro gA (And.intro bA (And.intro hlbv (And.intro hWA hvb)))))))
      have HSet := Lib.hid hset
      have HB := Lib.hid (show I ≤ i ∧ i < J ∧ i1 = i + 1 from ⟨hi1, hlt, hi1e⟩)
      have hw2 : IntKind.i64.wrap ((i : Int) + 1) = (i1 : Int) := by rw [IntWalk.i64_in _ (by omega)]; omega
      have hw3 : IntKind.i64.wrap ((i1 : Int) + 1) = ((i1 + 1 : Nat) : Int) := by rw [IntWalk.i64_in _ (by omega)]; omega
      have hb0 : (0 : Int) ≤ (i1 : Int) := by omega
      have hb1 : (0 : Int) ≤ (i : Int) := by omega
      have hb2 : (i : Int) < ((J + 1 : Nat) : Int) := by omega
      clear hb hne hc hLJ hI hglen hat hge hE hset hEo hbr gA bA hlbv hL hcs hgr hWA hvb hi1 hi2 hlt HR hi1e
      go_upto_region 8 with fail
      rw [show (wr.alloc (.cells #[.int .u64 (E1 : Int), .int .i64 E2] 74)) = WA from HS.out.2.2.2.2.2.2.1.symm, ← HS.out.2.2.2.2.2.2.2]
      go_upto_region 9 with (go_at_fn 38; refine HC.out.mono ?_; rintro e w7 ⟨rfl, g7⟩; have G7 := Lib.hid g7; clear g7)
      have g17 : Gr wr w7 := Gr.trans HS.out.2.2.2.1 G7.out
      obtain ⟨u0, u1⟩ := (HS.out.1.gr g17).at i (by rw [gap_len (x := (o, m)) (by have := HB.out; have := HH.out.2.2.2.2.1; omega)]; have := HB.out; have := HH.out.2.2.2.2.1; omega)
      have f0 := (HS.out.1.gr g17).1.frozen (Q + i * 2)
      have f1 := (HS.out.1.gr g17).1.frozen (Q + i * 2 + 1)
      have z0 := (HS.out.2.2.2.2.1.gr G7.out).cell 0
      have z1 := (HS.out.2.2.2.2.1.gr G7.out).cell 1
      simp at z0 z1
      have HE : Hid (∃ cs', LnC ((w7.setCell ⟨lb, Q + i * 2, none⟩ (.int .u64 (E1 : Int))).setCell ⟨lb, Q + i * 2 + 1, none⟩ (.int .i64 E2)) lb Q ((a ++ c).take i1 ++ (a ++ (o, m) :: c).drop i1) cs' ∧ cs'.size = cs.size ∧ w.grownBy ((w7.setCell ⟨lb, Q + i * 2, none⟩ (.int .u64 (E1 : Int))).setCell ⟨lb, Q + i * 2 + 1, none⟩ (.int .i64 E2)) (some lb)) := Lib.hid (by
        obtain ⟨hL, hcs, hgr, gA, bA, hlbv, -, -⟩ := HS.out
        obtain ⟨hi1, hlt, hi1e⟩ := HB.out
        obtain ⟨-, -, -, -, hLJ, hI⟩ := HH.out
        have hil : i < (a ++ c).length := by omega
        have hs := (hL.gr g17).set i (by rw [gap_len (Nat.le_of_lt hil)]; omega) E1 E2
        rw [show (E1, E2) = (a ++ c)[i] from HEq.out, gap_set hil, ← hi1e] at hs
        refine ⟨_, hs, by simp [hcs], ?_⟩
        have g := grown_gr hgr g17
        exact ⟨g.os, g.tape, g.output, by have := g.size; simpa using this, fun n hn hk => (Below.heap_setCell _ _ _ _ (fun e => hk (by rw [e]))).trans ((Below.heap_setCell _ _ _ _ (fun e => hk (by rw [e]))).trans (g.block n hn hk))⟩)
      clear g17 y0 y1
      go_upto_region 10 with fail
      obtain ⟨WE, hWE⟩ : ∃ WE, WE = (w7.setCell ⟨lb, Q + i * 2, none⟩ (.int .u64 (E1 : Int))).setCell ⟨lb, Q + i * 2 + 1, none⟩ (.int .i64 E2) := ⟨_, rfl⟩
      rw [← hWE] at HE ⊢
      have HMe : Hid (i1 ≤ J ∧ I ≤ i1 ∧ J - i1 < J - i) := Lib.hid (by have := HB.out; omega)
      clear u0 u1 f0 f1 z0 z1 hWE g3 hb2
      go_wp2_with fail
      go_roundw
      case rel => exact ⟨i1, rfl, by simp, HMe.out.2.1, HMe.out.1, HE⟩
      case measure => simpa [intOf] using HMe.out.2.2
    · have hiJ : J = i := by omega
      subst hiJ
      have g3 : ¬ (((J + 1 : Nat) : Int) < ((J + 1 : Nat) : Int)) := by omega
      have hbc : ¬ (cap = J) := by omega
      have hb0 : (0 : Int) ≤ (J : Int) := by omega
      have hb1 : (J : Int) ≤ ((J + 1 : Nat) : Int) := by omega
      have hb2 : (J : Int) ≤ (cap : Int) := by omega
      have hq2 : Q + J * 2 + 2 ≤ cs'.size := by
        have h1 := hL.2.1
        rw [gap_len (x := (o, m)) (Nat.le_of_eq HH.out.2.2.2.2.1), ← HH.out.2.2.2.2.1] at h1
        omega
      have hL1 := hL.1
      have HE : Hid (LnAt (wr.setRow lb (over cs'.toList (Q + J * 2) [.int .u64 0, .int .i64 0]).toArray) (some lb) (.slice (some ⟨lb, Q, none⟩) J cap) (a ++ c) pop ∧ w.grownBy (wr.setRow lb (over cs'.toList (Q + J * 2) [.int .u64 0, .int .i64 0]).toArray) (some lb)) := Lib.hid (by
        obtain ⟨-, -, -, -, hLJ, hI⟩ := HH.out
        obtain ⟨h5, h6, h8, hQ⟩ := H5.out
        have hfit : Q + J * 2 + ([.int .u64 0, .int .i64 0] : List Value).length ≤ cs'.toList.length := by rw [Array.length_toList]; simpa using hq2
        have hol : (over cs'.toList (Q + J * 2) [.int .u64 0, .int .i64 0]).length = cs'.size := (over_len hfit).trans Array.length_toList
        refine ⟨.inr ⟨lb, off', cap, _, rfl, by rw [hQ, hLJ], hL1.row _, by omega, h5, by simp only [List.size_toArray]; rw [hol, hcs]; exact h6, fun i u hi => ?_, fun hp => ⟨(h8 hp).1, by simp only [List.size_toArray]; rw [hol, hcs]; exact (h8 hp).2⟩⟩, ⟨hgr.os, hgr.tape, hgr.output, by have := hgr.size; simpa using this, fun n hn hk => (setRow_other wr lb n _ (fun e => hk (by rw [e]))).trans (hgr.block n hn hk)⟩⟩
        have hlt := (List.getElem?_eq_some_iff.1 hi).1
        rw [wcells_len, ← hLJ] at hlt
        rw [← hQ, List.getElem?_toArray, over_out hfit (.inl (by omega))]
        have e : (a ++ c).take J ++ (a ++ (o, m) :: c).drop J = (a ++ c) ++ (a ++ (o, m) :: c).drop J := by rw [List.take_of_length_le (by omega)]
        have hcell := hL.2.2 i u (by
          rw [e]
          unfold wcells
          rw [List.flatMap_append]
          have : (wcells (a ++ c))[i]? = some u := hi
          unfold wcells at this
          rw [List.getElem?_append_left (List.getElem?_eq_some_iff.1 this).1]
          exact this)
        simpa using hcell)
      clear hL hcs hgr hi1 hi2 hlt HR
      have hcl := fun (ty : TypeId) (k : Nat) => run_clear_one (c := k) hL1 hq2 ty
      go_wp2_with fail
      go_ret
      exact ⟨_, _, _, rfl, HE.out.1, HE.out.2⟩
end Go.Proofs.Ytbmcdlcoojmppaa

