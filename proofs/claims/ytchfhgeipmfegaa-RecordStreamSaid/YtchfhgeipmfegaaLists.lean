
/-
  Lists of bytes, one behind the other.
-/
import Derived.Test.YtchfhgeipmfegaaKit
namespace Go.Proofs.Ytchfhgeipmfegaa

/-- How many bytes lists have, taken together. -/
def tot (xss : List (List Int)) : Nat := xss.flatten.length

theorem flat_succ (xss : List (List Int)) (k : Nat) (h : k < xss.length) : (xss.take (k + 1)).flatten = (xss.take k).flatten ++ xss.getD k [] := by
  rw [List.take_succ_eq_append_getElem h, List.flatten_append]
  simp [List.getD, h]
theorem tot_le (xss : List (List Int)) (k : Nat) : tot (xss.take k) ≤ tot xss := by
  have h : xss.flatten = (xss.take k).flatten ++ (xss.drop k).flatten := by rw [← List.flatten_append, List.take_append_drop]
  unfold tot
  rw [h, List.length_append]
  exact Nat.le_add_right _ _
theorem tot_succ (xss : List (List Int)) (k m : Nat) (h : k < xss.length) (hm : (xss.getD k []).length = m) : tot (xss.take (k + 1)) = tot (xss.take k) + m := by
  unfold tot
  rw [flat_succ xss k h, List.length_append, hm]

end Go.Proofs.Ytchfhgeipmfegaa
