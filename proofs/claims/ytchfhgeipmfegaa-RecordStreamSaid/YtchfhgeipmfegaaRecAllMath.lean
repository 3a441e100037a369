
/-
  The records that stand in bytes one behind the other, as the mathematics has them.
-/
import Derived.Test.YtchfhgeipmfegaaRec
namespace Go.Proofs.Ytchfhgeipmfegaa
open Cr

/-- A place, and so many bytes on: the machine's numbers go round. -/
def onW (a n : Nat) : Nat := (a + n) % 18446744073709551616
theorem onW_le (a n : Nat) : onW a n ≤ 18446744073709551615 := by unfold onW; omega
theorem onW_of {a n : Nat} (h : a + n ≤ 18446744073709551615) : onW a n = a + n := by unfold onW; omega
theorem onW_on (a m n : Nat) : onW (onW a m) n = onW a (m + n) := by unfold onW; omega

/-- The records, each with the place where it ends; at most so many. -/
def allF : Nat → List Int → Nat → List (Nat × Rc)
  | 0, _, _ => []
  | k + 1, xs, a => if ofB xs a then (onW a (ofN xs a), ofR xs a) :: allF k (xs.drop (ofN xs a)) (onW a (ofN xs a)) else []
def allL (xs : List Int) (a : Nat) : List (Nat × Rc) := allF xs.length xs a

theorem ofN_yes {xs : List Int} {a : Nat} (h : ofB xs a = true) : 35 ≤ ofN xs a ∧ ofN xs a ≤ xs.length := by
  have h1 : ofN xs a = (recL (cand xs) a).length := by simp [ofN, h]
  unfold ofB at h
  rw [Bool.and_eq_true] at h
  have h2 := congrArg List.length (preB_iff.1 h.2)
  rw [List.length_take] at h2
  have h3 := recL_len (cand xs) a
  omega
theorem ofN_no {xs : List Int} {a : Nat} (h : ofB xs a = false) : ofN xs a = 0 := by simp [ofN, h]
theorem ofB_short {xs : List Int} {a : Nat} (h : xs.length < 35) : ofB xs a = false := by
  cases h2 : ofB xs a
  · rfl
  · have := ofN_yes h2
    omega
theorem ofN_small {xs : List Int} {a : Nat} (h : ofB xs a = true) : ofN xs a ≤ 531 := by
  have h1 : ofN xs a = (recL (cand xs) a).length := by simp [ofN, h]
  unfold ofB at h
  rw [Bool.and_eq_true] at h
  have f := mayR_fits h.1
  have f1 := f.na
  have f2 := f.nb1
  rw [h1, recL_len]
  omega
theorem allF_nil {k : Nat} {xs : List Int} {a : Nat} (h : ofB xs a = false) : allF k xs a = [] := by cases k <;> simp [allF, h]
/-- As many as there are bytes do. -/
theorem allF_more : ∀ (k j : Nat) (xs : List Int) (a : Nat), xs.length ≤ k → xs.length ≤ j → allF k xs a = allF j xs a
  | 0, j, xs, a, h, _ => by
    have h0 : ofB xs a = false := ofB_short (by omega)
    rw [allF_nil h0, allF_nil h0]
  | k + 1, 0, xs, a, _, h => by
    have h0 : ofB xs a = false := ofB_short (by omega)
    rw [allF_nil h0, allF_nil h0]
  | k + 1, j + 1, xs, a, h, h' => by
    cases hb : ofB xs a
    · rw [allF_nil hb, allF_nil hb]
    · have hn := ofN_yes hb
      simp only [allF, hb, if_true]
      rw [allF_more k j _ _ (by rw [List.length_drop]; omega) (by rw [List.length_drop]; omega)]
theorem allL_no {xs : List Int} {a : Nat} (h : ofB xs a = false) : allL xs a = [] := allF_nil h
theorem allL_yes {xs : List Int} {a : Nat} (h : ofB xs a = true) : allL xs a = (onW a (ofN xs a), ofR xs a) :: allL (xs.drop (ofN xs a)) (onW a (ofN xs a)) := by
  have hn := ofN_yes h
  have h1 : allL xs a = allF (xs.length + 1) xs a := allF_more _ _ _ _ (Nat.le_refl _) (by omega)
  rw [h1]
  simp only [allF, h, if_true]
  rw [allL]
  congr 1
  exact allF_more _ _ _ _ (by rw [List.length_drop]; omega) (Nat.le_refl _)
theorem allL_len : ∀ (k : Nat) (xs : List Int) (a : Nat), xs.length ≤ k → 35 * (allL xs a).length ≤ xs.length
  | 0, xs, a, h => by rw [allL_no (ofB_short (by omega))]; simp
  | k + 1, xs, a, h => by
    cases hb : ofB xs a
    · rw [allL_no hb]; simp
    · have hn := ofN_yes hb
      rw [allL_yes hb, List.length_cons]
      have := allL_len k (xs.drop (ofN xs a)) (onW a (ofN xs a)) (by rw [List.length_drop]; omega)
      rw [List.length_drop] at this
      omega
theorem ofR_in {xs : List Int} (hx : Wd.Small xs) (a : Nat) : (ofR xs a).In := by
  unfold ofR
  split
  · exact cand_in xs hx
  · exact ⟨by decide, by decide, by decide, (fun _ h => by cases h), fun _ h => by cases h⟩
/-- What has been gone over: the first places' bytes are as many as they say. -/
theorem allL_ends : ∀ (k : Nat) (xs : List Int) (a : Nat), xs.length ≤ k → ∀ e ∈ allL xs a, e.1 ≤ 18446744073709551615
  | 0, xs, a, h => by rw [allL_no (ofB_short (by omega))]; intro e he; cases he
  | k + 1, xs, a, h => by
    cases hb : ofB xs a
    · rw [allL_no hb]; intro e he; cases he
    · have hn := ofN_yes hb
      rw [allL_yes hb]
      intro e he
      rcases List.mem_cons.1 he with rfl | he
      · exact onW_le _ _
      · exact allL_ends k (xs.drop (ofN xs a)) (onW a (ofN xs a)) (by rw [List.length_drop]; omega) e he

/-- Records written one behind the other, each at its place. -/
def strL : List Rc → Nat → List Int
  | [], _ => []
  | r :: rs, a => recL r a ++ strL rs (onW a (recL r a).length)
def strE : List Rc → Nat → List (Nat × Rc)
  | [], _ => []
  | r :: rs, a => (onW a (recL r a).length, r) :: strE rs (onW a (recL r a).length)
theorem allL_str : ∀ (rs : List Rc) (a : Nat) (T : List Int), (∀ r ∈ rs, mayR r = true ∧ r.In) → T.length < 35 → allL (strL rs a ++ T) a = strE rs a
  | [], a, T, _, hT => by
    simp only [strL, strE, List.nil_append]
    exact allL_no (ofB_short hT)
  | r :: rs, a, T, h, hT => by
    obtain ⟨hm, hi⟩ := h r (List.mem_cons_self ..)
    simp only [strL, strE, List.append_assoc]
    rw [allL_yes (ofB_rec hm hi a _), ofN_rec hm hi, ofR_rec hm hi, List.drop_left' rfl, allL_str rs _ T (fun q hq => h q (List.mem_cons_of_mem _ hq)) hT]
theorem strL_snoc : ∀ (rs : List Rc) (r : Rc) (a : Nat), a ≤ 18446744073709551615 → strL (rs ++ [r]) a = strL rs a ++ recL r (onW a (strL rs a).length)
  | [], r, a, ha => by
    simp only [List.nil_append, strL, List.append_nil, List.length_nil]
    rw [onW_of (by omega), Nat.add_zero]
  | q :: rs, r, a, _ => by
    simp only [List.cons_append, strL]
    rw [strL_snoc rs r _ (onW_le _ _), onW_on, List.append_assoc, List.length_append]
theorem strE_snoc : ∀ (rs : List Rc) (r : Rc) (a : Nat), strE (rs ++ [r]) a = strE rs a ++ [(onW a (strL (rs ++ [r]) a).length, r)]
  | [], r, a => by simp [strE, strL]
  | q :: rs, r, a => by
    simp only [List.cons_append, strE, strL]
    rw [strE_snoc rs r, onW_on, List.length_append]

end Go.Proofs.Ytchfhgeipmfegaa
