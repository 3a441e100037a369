
/-
  Blocks of cells, held while other blocks turn; a result that lies in a cell. 
-/
import Derived.Test.YtiffbkgohlbgeaaProg
import Derived.Test.YtiffbkgohlbgeaaBlk
import Derived.Test.YtiffbkgohlbgeaaTold
namespace Go.Proofs.Ytiffbkgohlbgeaa
open Go.RowKit

abbrev TBo : TypeId := 4
/-- What turns no cells keeps them. -/
theorem hold_grown {W W' : World} {row : Option Nat} (g : W.grownBy W' row) (hr : ∀ r, row = some r → ∃ o : Obj, W.heap[r]? = some o ∧ o.isCells = false) : HoldS Obj.isCells (fun _ => True) W W' :=
  ⟨g.size, fun k o _ hk hc => (g.block k (Array.getElem?_eq_some_iff.1 hk).1 (fun e => by
    obtain ⟨o2, h1, h2⟩ := hr k e.symm
    rw [hk] at h1
    cases h1
    rw [hc] at h2
    cases h2)).trans hk⟩
theorem Blk.held {W W' : World} {g : Nat} {t : TypeId} {cs : Array Value} (h : Blk W g t cs) (k : HoldS Obj.isCells (fun _ => True) W W') : Blk W' g t cs := k.same g _ trivial h rfl
theorem results_cell_one {fn : Func} {p : Tmp} {ty : TypeId} (h : fn.results = #[.cell p ty]) (ha : ∀ w, (isAgg ty).run Try.prog w = .ok false w) (tmps : Array Value) (w : World) (a : Addr) (v : Value) (hp : tmps.getD p undef = .pointer (some a)) (hc : w.cell? a = some v) : (results fn tmps).run Try.prog w = .ok v w := by
  simp only [results, h]
  simp [-Array.getD_eq_getD_getElem?, Sem.run_bind, Result.andThen, hp, asAddr, loadVar, ha, hc]

end Go.Proofs.Ytiffbkgohlbgeaa
