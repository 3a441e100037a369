import Derived.Test.YtcbmgdigidpbeaaRef2
namespace Go.Proofs.Ytcbmgdigidpbeaa
open Go.RowKit

/-- The four bits of a sign; 16: it is none. -/
def four (c : Int) : Int := if 48 ≤ c ∧ c ≤ 57 then c - 48 else if 97 ≤ c ∧ c ≤ 102 then c - 87 else 16
/-- The sign of four bits. -/
def sign (x : Int) : Int := if x ≤ 9 then x + 48 else x + 87

theorem signs_any (w : World) : Calls Try.prog 35 #[] w fun e w' => e = .returned (.string ⟨#[48, 49, 50, 51, 52, 53, 54, 55, 56, 57, 97, 98, 99, 100, 101, 102]⟩) ∧ w = w' := by
  go_enter Try.func35, Try.ntmps35
  go_wp2
  go_ret
  exact ⟨rfl, rfl⟩

theorem refFour_any (c : Int) (w : World) : Calls Try.prog 27 #[.int .u8 c] w fun e w' => e = .returned (.int .i64 (four c)) ∧ w = w' := by
  go_enter Try.func27, Try.ntmps27
  go_wp2_with fail
  refine (signs_any _).mono ?_
  rintro e w' ⟨rfl, rfl⟩
  go_wp2
  go_rounds 17
  all_goals
    go_ret
    refine ⟨ret_i ?_, rfl⟩
    simp [ByteArray.getElem_eq_getElem_data] at *
    unfold four
    repeat' split
    all_goals omega

end Go.Proofs.Ytcbmgdigidpbeaa
