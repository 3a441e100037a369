
/-
  The document's: which records may be, how many bytes they have; what has too much.
-/
import Derived.Test.YtchfhgeipmfegaaRecBytes
namespace Go.Proofs.Ytchfhgeipmfegaa
open Go.RowKit Cr

theorem mayQ_no {k : Int} {t x : Nat} {g o : Int} {nb na : Nat} (h : ¬ (t ≠ 0 ∧ ((k = 1 ∧ x = 0 ∧ nb = na ∧ 0 ≤ g ∧ g < 4096 ∧ 1 ≤ na ∧ 0 ≤ o ∧ o + na ≤ 248) ∨ (k = 2 ∧ nb = 0 ∧ 0 ≤ g ∧ g < 4096 ∧ 1 ≤ na ∧ 0 ≤ o ∧ o + na ≤ 248) ∨ ((k = 3 ∨ k = 4) ∧ x = 0 ∧ g = 0 ∧ o = 0 ∧ nb = 0 ∧ na = 0)))) : mayQ k t x g o nb na = false := by
  cases hm : mayQ k t x g o nb na
  · rfl
  · exact absurd (mayQ_iff.1 hm) h

set_option maxRecDepth 100000 in
set_option maxHeartbeats 4000000 in
theorem refMay_any (c : Rc) (pb : Option Addr) (nb cb : Nat) (pa : Option Addr) (na ca : Nat) (w : World) (hb : Byt w pb nb cb c.b) (ha : Byt w pa na ca c.a) :
    Calls Try.prog 54 #[.agg #[.int .i64 c.k, .int .u64 c.t, .int .u64 c.p, .int .u64 c.x, .int .i64 c.g, .int .i64 c.o, .slice pb nb cb, .slice pa na ca]] w (RetB (mayR c) w) := by
  obtain ⟨k, t, p, x, g, o, b, a⟩ := c
  simp only at hb ha
  simp only
  have lb := hb.len
  have la := ha.len
  have na63 : (na : Int) ≤ 9223372036854775807 := by have h1 := ha.most; have h2 := ha.cap; unfold maxLen at h1; omega
  have nb63 : (nb : Int) ≤ 9223372036854775807 := by have h1 := hb.most; have h2 := hb.cap; unfold maxLen at h1; omega
  have HM : Hid (mayR ⟨k, t, p, x, g, o, b, a⟩ = mayQ k t x g o nb na) := Lib.hid (by unfold mayR; rw [← lb, ← la])
  rw [HM.out]
  have HG := Lib.hid ((Gr.refl w).alloc (Nat.le_refl _) (.cells #[.int .i64 k, .int .u64 t, .int .u64 p, .int .u64 x, .int .i64 g, .int .i64 o, .slice pb nb cb, .slice pa na ca] TR))
  have HS := Lib.hid (fun j => refSameRec_any ⟨k, t, p, x, g, o, b, a⟩ ⟨j, t, p, 0, 0, 0, [], []⟩ pb nb cb pa na ca none 0 0 none 0 0 _ (hb.kept HG.out) (ha.kept HG.out) (Byt.nil _) (Byt.nil _))
  have HE := Lib.hid (show (b = [] ↔ nb = 0) ∧ (a = [] ↔ na = 0) from ⟨by rw [len_nil', lb], by rw [len_nil', la]⟩)
  simp only at HS
  clear lb la hb ha HM
  by_cases hk1 : k = 1
  · subst hk1
    by_cases ht : t = 0
    · subst ht
      have HR : Hid (mayQ 1 0 x g o nb na = false) := Lib.hid (mayQ_no (by omega))
      go_enter Try.func54, Try.ntmps54
      go_wp2_with fail
      go_ret
      exact ⟨ret_b HR.out.symm, HG.out⟩
    · have ht2 : ¬ (t : Int) = 0 := by omega
      by_cases h1 : g < 0
      · skip
        have HR : Hid (mayQ 1 t x g o nb na = false) := Lib.hid (mayQ_no (by omega))
        go_enter Try.func54, Try.ntmps54
        go_wp2_with fail
        go_ret
        exact ⟨ret_b HR.out.symm, HG.out⟩
      · skip
        by_cases h2 : 4096 ≤ g
        · skip
          have HR : Hid (mayQ 1 t x g o nb na = false) := Lib.hid (mayQ_no (by omega))
          go_enter Try.func54, Try.ntmps54
          go_wp2_with fail
          go_ret
          exact ⟨ret_b HR.out.symm, HG.out⟩
        · skip
          by_cases h3 : o < 0
          · skip
            have HR : Hid (mayQ 1 t x g o nb na = false) := Lib.hid (mayQ_no (by omega))
            go_enter Try.func54, Try.ntmps54
            go_wp2_with fail
            go_ret
            exact ⟨ret_b HR.out.symm, HG.out⟩
          · skip
            by_cases h4 : 248 ≤ o
            · skip
              have HR : Hid (mayQ 1 t x g o nb na = false) := Lib.hid (mayQ_no (by omega))
              go_enter Try.func54, Try.ntmps54
              go_wp2_with fail
              go_ret
              exact ⟨ret_b HR.out.symm, HG.out⟩
            · skip
              by_cases h5 : na < 1
              · skip
                have HR : Hid (mayQ 1 t x g o nb na = false) := Lib.hid (mayQ_no (by omega))
                have h5b : (na : Int) < 1 := by omega
                go_enter Try.func54, Try.ntmps54
                go_wp2_with fail
                go_ret
                exact ⟨ret_b HR.out.symm, HG.out⟩
              · have h5b : ¬ (na : Int) < 1 := by omega
                by_cases h6 : 248 - o < (na : Int)
                · skip
                  have HR : Hid (mayQ 1 t x g o nb na = false) := Lib.hid (mayQ_no (by omega))
                  go_enter Try.func54, Try.ntmps54
                  go_wp2_with fail
                  go_ret
                  exact ⟨ret_b HR.out.symm, HG.out⟩
                · skip
                  by_cases hx : x = 0
                  · subst hx
                    by_cases hl : nb = na
                    · subst hl
                      have HR : Hid (mayQ 1 t 0 g o nb nb = true) := Lib.hid (mayQ_iff.2 (by omega))
                      go_enter Try.func54, Try.ntmps54
                      go_wp2_with fail
                      go_ret
                      exact ⟨ret_b HR.out.symm, HG.out⟩
                    · have hl2 : ¬ (nb : Int) = na := by omega
                      have HR : Hid (mayQ 1 t 0 g o nb na = false) := Lib.hid (mayQ_no (by omega))
                      go_enter Try.func54, Try.ntmps54
                      go_wp2_with fail
                      go_ret
                      exact ⟨ret_b (by rw [HR.out]; exact beq_eq_false_iff_ne.2 hl2), HG.out⟩
                  · have hx2 : ¬ (x : Int) = 0 := by omega
                    have HR : Hid (mayQ 1 t x g o nb na = false) := Lib.hid (mayQ_no (by omega))
                    go_enter Try.func54, Try.ntmps54
                    go_wp2_with fail
                    go_ret
                    exact ⟨ret_b HR.out.symm, HG.out⟩
  · skip
    by_cases hk2 : k = 2
    · subst hk2
      by_cases ht : t = 0
      · subst ht
        have HR : Hid (mayQ 2 0 x g o nb na = false) := Lib.hid (mayQ_no (by omega))
        go_enter Try.func54, Try.ntmps54
        go_wp2_with fail
        go_ret
        exact ⟨ret_b HR.out.symm, HG.out⟩
      · have ht2 : ¬ (t : Int) = 0 := by omega
        by_cases h1 : g < 0
        · skip
          have HR : Hid (mayQ 2 t x g o nb na = false) := Lib.hid (mayQ_no (by omega))
          go_enter Try.func54, Try.ntmps54
          go_wp2_with fail
          go_ret
          exact ⟨ret_b HR.out.symm, HG.out⟩
        · skip
          by_cases h2 : 4096 ≤ g
          · skip
            have HR : Hid (mayQ 2 t x g o nb na = false) := Lib.hid (mayQ_no (by omega))
            go_enter Try.func54, Try.ntmps54
            go_wp2_with fail
            go_ret
            exact ⟨ret_b HR.out.symm, HG.out⟩
          · skip
            by_cases h3 : o < 0
            · skip
              have HR : Hid (mayQ 2 t x g o nb na = false) := Lib.hid (mayQ_no (by omega))
              go_enter Try.func54, Try.ntmps54
              go_wp2_with fail
              go_ret
              exact ⟨ret_b HR.out.symm, HG.out⟩
            · skip
              by_cases h4 : 248 ≤ o
              · skip
                have HR : Hid (mayQ 2 t x g o nb na = false) := Lib.hid (mayQ_no (by omega))
                go_enter Try.func54, Try.ntmps54
                go_wp2_with fail
                go_ret
                exact ⟨ret_b HR.out.symm, HG.out⟩
              · skip
                by_cases h5 : na < 1
                · skip
                  have HR : Hid (mayQ 2 t x g o nb na = false) := Lib.hid (mayQ_no (by omega))
                  have h5b : (na : Int) < 1 := by omega
                  go_enter Try.func54, Try.ntmps54
                  go_wp2_with fail
                  go_ret
                  exact ⟨ret_b HR.out.symm, HG.out⟩
                · have h5b : ¬ (na : Int) < 1 := by omega
                  by_cases h6 : 248 - o < (na : Int)
                  · skip
                    have HR : Hid (mayQ 2 t x g o nb na = false) := Lib.hid (mayQ_no (by omega))
                    go_enter Try.func54, Try.ntmps54
                    go_wp2_with fail
                    go_ret
                    exact ⟨ret_b HR.out.symm, HG.out⟩
                  · skip
                    by_cases hl : nb = 0
                    · subst hl
                      have HR : Hid (mayQ 2 t x g o 0 na = true) := Lib.hid (mayQ_iff.2 (by omega))
                      go_enter Try.func54, Try.ntmps54
                      go_wp2_with fail
                      go_ret
                      exact ⟨ret_b HR.out.symm, HG.out⟩
                    · have hl2 : ¬ (nb : Int) = 0 := by omega
                      have HR : Hid (mayQ 2 t x g o nb na = false) := Lib.hid (mayQ_no (by omega))
                      go_enter Try.func54, Try.ntmps54
                      go_wp2_with fail
                      go_ret
                      exact ⟨ret_b (by rw [HR.out]; exact beq_eq_false_iff_ne.2 hl2), HG.out⟩
    · skip
      by_cases hk3 : k = 3
      · subst hk3
        by_cases ht : t = 0
        · subst ht
          have HR : Hid (mayQ 3 0 x g o nb na = false) := Lib.hid (mayQ_no (by omega))
          go_enter Try.func54, Try.ntmps54
          go_wp2_with fail
          go_ret
          exact ⟨ret_b HR.out.symm, HG.out⟩
        · have ht2 : ¬ (t : Int) = 0 := by omega
          have HR : Hid (sameR ⟨3, t, p, x, g, o, b, a⟩ ⟨3, t, p, 0, 0, 0, [], []⟩ = mayQ 3 t x g o nb na) := Lib.hid (by rw [Bool.eq_iff_iff, mayQ_iff]; simp [sameR, HE.out.1, HE.out.2, ht])
          go_enter Try.func54, Try.ntmps54
          go_wp2_with fail
          refine (HS.out 3).mono ?_
          rintro e w1 ⟨rfl, g1⟩
          have HG1 := Lib.hid (Gr.trans HG.out g1)
          clear g1
          go_wp2_with fail
          go_ret
          exact ⟨ret_b HR.out, HG1.out⟩
      · skip
        by_cases hk4 : k = 4
        · subst hk4
          by_cases ht : t = 0
          · subst ht
            have HR : Hid (mayQ 4 0 x g o nb na = false) := Lib.hid (mayQ_no (by omega))
            go_enter Try.func54, Try.ntmps54
            go_wp2_with fail
            go_ret
            exact ⟨ret_b HR.out.symm, HG.out⟩
          · have ht2 : ¬ (t : Int) = 0 := by omega
            have HR : Hid (sameR ⟨4, t, p, x, g, o, b, a⟩ ⟨4, t, p, 0, 0, 0, [], []⟩ = mayQ 4 t x g o nb na) := Lib.hid (by rw [Bool.eq_iff_iff, mayQ_iff]; simp [sameR, HE.out.1, HE.out.2, ht])
            go_enter Try.func54, Try.ntmps54
            go_wp2_with fail
            refine (HS.out 4).mono ?_
            rintro e w1 ⟨rfl, g1⟩
            have HG1 := Lib.hid (Gr.trans HG.out g1)
            clear g1
            go_wp2_with fail
            go_ret
            exact ⟨ret_b HR.out, HG1.out⟩
        · skip
          have HR : Hid (mayQ k t x g o nb na = false) := Lib.hid (mayQ_no (by omega))
          go_enter Try.func54, Try.ntmps54
          go_wp2_with fail
          go_ret
          exact ⟨ret_b HR.out.symm, HG.out⟩

def muchR (nb na : Nat) : Bool := decide (600 < nb) || decide (600 < na)
theorem refMuch_any (k : Int) (t : Nat) (p : Nat) (x : Nat) (g : Int) (o : Int) (pb : Option Addr) (nb : Nat) (cb : Nat) (pa : Option Addr) (na : Nat) (ca : Nat) (w : World) : Calls Try.prog 26 #[.agg #[.int .i64 k, .int .u64 t, .int .u64 p, .int .u64 x, .int .i64 g, .int .i64 o, .slice pb nb cb, .slice pa na ca]] w (RetB (muchR nb na) w) := by
  have HG := Lib.hid ((Gr.refl w).alloc (Nat.le_refl _) (.cells #[.int .i64 k, .int .u64 t, .int .u64 p, .int .u64 x, .int .i64 g, .int .i64 o, .slice pb nb cb, .slice pa na ca] TR))
  by_cases h1 : 600 < nb
  · have h1' : (600 : Int) < nb := by omega
    have HR : Hid (muchR nb na = true) := Lib.hid (by simp [muchR, h1])
    go_enter Try.func26, Try.ntmps26
    go_wp2_with fail
    go_ret
    exact ⟨ret_b HR.out.symm, HG.out⟩
  · have h1' : ¬ (600 : Int) < nb := by omega
    by_cases h2 : 600 < na
    · have h2' : (600 : Int) < na := by omega
      have HR : Hid (muchR nb na = true) := Lib.hid (by simp [muchR, h2])
      go_enter Try.func26, Try.ntmps26
      go_wp2_with fail
      go_ret
      exact ⟨ret_b HR.out.symm, HG.out⟩
    · have h2' : ¬ (600 : Int) < na := by omega
      have HR : Hid (muchR nb na = false) := Lib.hid (by simp [muchR, h1, h2])
      go_enter Try.func26, Try.ntmps26
      go_wp2_with fail
      go_ret
      exact ⟨ret_b HR.out.symm, HG.out⟩

end Go.Proofs.Ytchfhgeipmfegaa
