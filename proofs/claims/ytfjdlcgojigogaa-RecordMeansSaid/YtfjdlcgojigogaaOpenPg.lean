
/-
  Arguments that come in: pages.
-/
import Derived.Test.YtfjdlcgojigogaaOpenRec
import Derived.Test.YtfjdlcgojigogaaPgArr
import Derived.OpenShut
import Derived.WideKeyArr2
namespace Go.Proofs.Ytfjdlcgojigogaa
open Go.ChangeShapes Go.WideShapes Go.ChangeAt Go.RowKit

set_option maxRecDepth 100000 in
/-- An argument of type api.Page, opened. -/
theorem openPg {H : Type} {enc : TypeId × Value → H} {W : World} {r : Reach} {b : Nat} {v : Value} {d : DataW H} {p : List MemPlace} (hval : Value.okWide Try.prog W r b TS v)
    (h : DataW.Trod enc Try.prog W 0 (fun _ => true) true TS v d p) : ∃ xs, v = .agg (sec (Sx xs)) ∧ IsSec xs := by
  have hcs : ∃ cs : Array Value, v = .agg cs ∧ cs.size = 248 := by
    have hc : Try.prog.cellsOf TS = 248 := by kernel_rfl
    simp only [Value.okWide, under_sec] at hval
    obtain ⟨cs, h1, h2, _⟩ := hval
    exact ⟨cs, h1, by rw [h2, hc]⟩
  obtain ⟨cs, rfl, hs⟩ := hcs
  obtain ⟨fuel, hf⟩ := h
  have hc1 : Try.prog.cellsOf 5 = 1 := by kernel_rfl
  have ha := DataW.trod_array under_sec hf
  obtain ⟨ys, m, _, _, _, hl, hi⟩ := ha
  have hcells : (Value.agg cs).cells = cs := rfl
  rw [hcells] at hi
  have each : ∀ i, i < 248 → ∃ x : Int, (0 ≤ x ∧ x < 256) ∧ cs.toList[i]? = some (.int .u8 x) := fun i h => by
    have h1 := hi i h
    rw [hc1, Nat.mul_one, List.getElem?_eq_getElem (show i < ys.length by omega)] at h1
    obtain ⟨x, e, _, wx⟩ := DataW.trod_int Try.underlying5 h1
    refine ⟨x, byteOf wx, ?_⟩
    have e2 := congrArg (fun l : List Value => l[0]?) e
    simpa [List.getElem?_take, List.getElem?_drop] using e2
  obtain ⟨zs, hz⟩ : ∃ zs, zs = cs.toList.map fun v : Value => match v with | .int _ x => x | _ => 0 := ⟨_, rfl⟩
  have hzl : zs.length = 248 := by rw [hz]; simp [hs]
  have hzi : ∀ i, i < 248 → ∃ x : Int, (0 ≤ x ∧ x < 256) ∧ zs[i]? = some x ∧ cs.toList[i]? = some (.int .u8 x) := fun i h => by
    obtain ⟨x, hx, e⟩ := each i h
    refine ⟨x, hx, ?_, e⟩
    rw [hz, List.getElem?_map, e]
    rfl
  have hsec : IsSec zs := ⟨hzl, fun x hx => by
    obtain ⟨i, hi1, hi2⟩ := List.getElem_of_mem hx
    obtain ⟨y, hy, e, _⟩ := hzi i (by omega)
    rw [List.getElem?_eq_getElem hi1, hi2] at e
    cases e
    exact hy⟩
  refine ⟨zs, congrArg Value.agg ?_, hsec⟩
  unfold sec
  rw [Sx_cells hsec]
  apply Array.ext'
  show cs.toList = zs.map (Value.int .u8)
  apply List.ext_getElem?
  intro i
  by_cases h : i < 248
  · obtain ⟨x, _, e1, e2⟩ := hzi i h
    rw [e2, List.getElem?_map, e1]
    rfl
  · rw [List.getElem?_eq_none (by simp [hs]; omega), List.getElem?_eq_none (by simp [hzl]; omega)]

end Go.Proofs.Ytfjdlcgojigogaa
