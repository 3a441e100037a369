
import Derived.Test.YtchfhgeipmfegaaHex2
namespace Go.Proofs.Ytchfhgeipmfegaa
open Go.RowKit

theorem hexL_getD : ∀ (l : List Int) (k : Nat), k < 2 * l.length → (hexL l).getD k 0 = if k % 2 = 1 then sign (l.getD (k / 2) 0 % 16) else sign (l.getD (k / 2) 0 / 16)
  | [], k, h => by simp at h
  | x :: r, 0, _ => by simp [hexL]
  | x :: r, 1, _ => by simp [hexL]
  | x :: r, k + 2, h => by
    have := hexL_getD r k (by simp only [List.length_cons] at h; omega)
    have e1 : (k + 2) / 2 = k / 2 + 1 := by omega
    have e2 : (k + 2) % 2 = k % 2 := by omega
    rw [e1, e2]
    simpa [hexL] using this

end Go.Proofs.Ytchfhgeipmfegaa
