
/-
  Arguments that come in: records, pages.
-/
import Derived.Test.YtchfhgeipmfegaaRec
import Derived.Test.YtchfhgeipmfegaaOpen
import Derived.Test.YtchfhgeipmfegaaPgArr
import Derived.Carry
import Derived.WideKeyArr2
namespace Go.Proofs.Ytchfhgeipmfegaa
open Go.ChangeShapes Go.WideShapes Go.ChangeAt Go.RowKit

/-- A cell that is a slice of bytes, opened. -/
theorem openCell {H : Type} {enc : TypeId × Value → H} {P : Program} {t e : TypeId} (ht : P.underlying t = some (.slice e)) (he : P.underlying e = some (.int .u8)) (hc : P.cellsOf e = 1) {W : World} {n : Nat} {v : Value} {x : DataW H × List MemPlace}
    (h : DataW.trod enc P W 0 (fun _ => true) true n t [v] = some x) : ∃ a len cap xs, v = .slice a len cap ∧ Byt W a len cap xs := by
  rcases open_ints ht he hc h with ⟨hcs, _⟩ | ⟨x, l, c, zs, hcs, _, hl, hm, hz, _, hcell, hwz⟩
  · simp at hcs
    exact ⟨none, 0, 0, [], hcs, Byt.nil W⟩
  · simp at hcs
    simp only [if_true] at hz
    refine ⟨some x, l, c, zs.take l, hcs, by simp; omega, hl, hm, Lib.BytesIn.of_cells (fun i hi => ?_), (fun h => by cases h), fun y hy => byteOf (hwz y (List.mem_of_mem_take hy))⟩
    rw [hcell i (by omega)]
    simp [List.getD, hi]

set_option maxRecDepth 100000 in
/-- An argument of type api.Record, opened. -/
theorem openRec {H : Type} {enc : TypeId × Value → H} {W : World} {r : Reach} {b : Nat} {v : Value} {d : DataW H} {p : List MemPlace} (hval : Value.okWide Try.prog W r b 57 v)
    (h : DataW.Trod enc Try.prog W 0 (fun _ => true) true 57 v d p) : ∃ (c : Rc) (pb : Option Addr) (nb cb : Nat) (pa : Option Addr) (na ca : Nat), v = .agg #[.int .i64 c.k, .int .u64 c.t, .int .u64 c.p, .int .u64 c.x, .int .i64 c.g, .int .i64 c.o, .slice pb nb cb, .slice pa na ca] ∧ Byt W pb nb cb c.b ∧ Byt W pa na ca c.a ∧ c.In ∧ (-9223372036854775808 ≤ c.k ∧ c.k ≤ 9223372036854775807) ∧ (-9223372036854775808 ≤ c.g ∧ c.g ≤ 9223372036854775807) ∧ (-9223372036854775808 ≤ c.o ∧ c.o ≤ 9223372036854775807) := by
  obtain ⟨cs, rfl, hs⟩ := okWide_struct Try.underlying57 hval
  obtain ⟨fuel, hf⟩ := h
  have hc : Try.prog.cellsOf 57 = 8 := by kernel_rfl
  have hc1 : Try.prog.cellsOf 3 = 1 := by kernel_rfl
  have hc2 : Try.prog.cellsOf 55 = 1 := by kernel_rfl
  have hc3 : Try.prog.cellsOf 54 = 1 := by kernel_rfl
  have hc4 : Try.prog.cellsOf 22 = 1 := by kernel_rfl
  obtain ⟨xs, n, _, _, hl, hlen, hff⟩ := DataW.trod_struct Try.underlying57 hf
  rw [hc] at hs
  obtain ⟨l⟩ := cs
  match l, hs with
  | [c0, c1, c2, c3, c4, c5, c6, c7], _ =>
    match xs, hlen with
    | [y0, y1, y2, y3, y4, y5, y6, y7], _ =>
      have t0 := hff 0 _ rfl
      have t1 := hff 1 _ rfl
      have t2 := hff 2 _ rfl
      have t3 := hff 3 _ rfl
      have t4 := hff 4 _ rfl
      have t5 := hff 5 _ rfl
      have t6 := hff 6 _ rfl
      have t7 := hff 7 _ rfl
      simp [hc2] at t0
      simp [hc3] at t1
      simp [hc3] at t2
      simp [hc3] at t3
      simp [hc1] at t4
      simp [hc1] at t5
      simp [hc4] at t6
      simp [hc4] at t7
      obtain ⟨v0, e0, _, w0⟩ := DataW.trod_int Try.underlying55 t0
      obtain ⟨v1, e1, _, w1⟩ := DataW.trod_int Try.underlying54 t1
      obtain ⟨v2, e2, _, w2⟩ := DataW.trod_int Try.underlying54 t2
      obtain ⟨v3, e3, _, w3⟩ := DataW.trod_int Try.underlying54 t3
      obtain ⟨v4, e4, _, w4⟩ := DataW.trod_int Try.underlying3 t4
      obtain ⟨v5, e5, _, w5⟩ := DataW.trod_int Try.underlying3 t5
      simp [Value.cells] at e0 e1 e2 e3 e4 e5
      subst e0 e1 e2 e3 e4 e5
      obtain ⟨pb, nb, cb, bs, rfl, hb⟩ := openCell (v := c6) Try.underlying22 Try.underlying5 (by kernel_rfl) t6
      obtain ⟨pa, na, ca, xa, rfl, ha⟩ := openCell (v := c7) Try.underlying22 Try.underlying5 (by kernel_rfl) t7
      have b1 := u64Of w1
      have b2 := u64Of w2
      have b3 := u64Of w3
      obtain ⟨v1, rfl⟩ := Int.eq_ofNat_of_zero_le b1.1
      obtain ⟨v2, rfl⟩ := Int.eq_ofNat_of_zero_le b2.1
      obtain ⟨v3, rfl⟩ := Int.eq_ofNat_of_zero_le b3.1
      exact ⟨⟨v0, v1, v2, v3, v4, v5, bs, xa⟩, pb, nb, cb, pa, na, ca, rfl, hb, ha, ⟨by show v1 ≤ _; omega, by show v2 ≤ _; omega, by show v3 ≤ _; omega, hb.small, ha.small⟩, i64Of w0, i64Of w4, i64Of w5⟩

end Go.Proofs.Ytchfhgeipmfegaa
