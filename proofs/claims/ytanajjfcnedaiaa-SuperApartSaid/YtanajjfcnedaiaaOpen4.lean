
/-
  Arguments that come in: layouts, masters.
-/
import Derived.Test.YtanajjfcnedaiaaProg
import Derived.Test.YtanajjfcnedaiaaOpen
import Derived.Deep.Strs
import Derived.Carry
import Derived.ShutString
import Derived.ChangeOld
import Derived.Deep.Slices
namespace Go.Proofs.Ytanajjfcnedaiaa
open Go.ChangeShapes Go.WideShapes Go.ChangeAt Go.RowKit

set_option maxRecDepth 100000 in
/-- An argument of type api.Super, opened. -/
theorem openLy {H : Type} {enc : TypeId × Value → H} {W : World} {r : Reach} {b : Nat} {v : Value} {d : DataW H} {p : List MemPlace} (hval : Value.okWide Try.prog W r b 23 v)
    (h : DataW.Trod enc Try.prog W 0 (fun _ => true) true 23 v d p) : ∃ n l g : Int, v = .agg #[.int .i64 n, .int .i64 l, .int .i64 g] ∧ (-9223372036854775808 ≤ n ∧ n ≤ 9223372036854775807) ∧ (-9223372036854775808 ≤ l ∧ l ≤ 9223372036854775807) ∧ (-9223372036854775808 ≤ g ∧ g ≤ 9223372036854775807) := by
  obtain ⟨cs, rfl, hs⟩ := okWide_struct Try.underlying23 hval
  obtain ⟨fuel, hf⟩ := h
  have hc : Try.prog.cellsOf 23 = 3 := by kernel_rfl
  have hc1 : Try.prog.cellsOf 3 = 1 := by kernel_rfl
  obtain ⟨y0, y1, y2, k, _, hl, t0, t1, t2⟩ := Go.Deep.trod_struct3 Try.underlying23 hf
  rw [hc] at hs
  obtain ⟨l⟩ := cs
  match l, hs with
  | [c0, c1, c2], _ =>
    simp only [hc1] at t0 t1 t2
    obtain ⟨n, e0, _, w0⟩ := DataW.trod_int Try.underlying3 t0
    obtain ⟨l, e1, _, w1⟩ := DataW.trod_int Try.underlying3 t1
    obtain ⟨g, e2, _, w2⟩ := DataW.trod_int Try.underlying3 t2
    simp [Value.cells] at e0 e1 e2
    subst e0 e1 e2
    exact ⟨n, l, g, rfl, i64Of w0, i64Of w1, i64Of w2⟩

set_option maxRecDepth 100000 in
/-- An argument of type api.Master, opened. -/
theorem openMa {H : Type} {enc : TypeId × Value → H} {W : World} {r : Reach} {b : Nat} {v : Value} {d : DataW H} {p : List MemPlace} (hval : Value.okWide Try.prog W r b 44 v)
    (h : DataW.Trod enc Try.prog W 0 (fun _ => true) true 44 v d p) : ∃ n l g : Nat, v = .agg #[.int .u64 n, .int .u64 l, .int .u64 g] ∧ n ≤ 18446744073709551615 ∧ l ≤ 18446744073709551615 ∧ g ≤ 18446744073709551615 := by
  obtain ⟨cs, rfl, hs⟩ := okWide_struct Try.underlying44 hval
  obtain ⟨fuel, hf⟩ := h
  have hc : Try.prog.cellsOf 44 = 3 := by kernel_rfl
  have hc1 : Try.prog.cellsOf 42 = 1 := by kernel_rfl
  obtain ⟨y0, y1, y2, k, _, hl, t0, t1, t2⟩ := Go.Deep.trod_struct3 Try.underlying44 hf
  rw [hc] at hs
  obtain ⟨l⟩ := cs
  match l, hs with
  | [c0, c1, c2], _ =>
    simp only [hc1] at t0 t1 t2
    obtain ⟨n, e0, _, w0⟩ := DataW.trod_int Try.underlying42 t0
    obtain ⟨l, e1, _, w1⟩ := DataW.trod_int Try.underlying42 t1
    obtain ⟨g, e2, _, w2⟩ := DataW.trod_int Try.underlying42 t2
    simp [Value.cells] at e0 e1 e2
    subst e0 e1 e2
    have b0 := u64Of w0
    have b1 := u64Of w1
    have b2 := u64Of w2
    obtain ⟨n, rfl⟩ := Int.eq_ofNat_of_zero_le b0.1
    obtain ⟨l, rfl⟩ := Int.eq_ofNat_of_zero_le b1.1
    obtain ⟨g, rfl⟩ := Int.eq_ofNat_of_zero_le b2.1
    exact ⟨n, l, g, rfl, by omega, by omega, by omega⟩

end Go.Proofs.Ytanajjfcnedaiaa
