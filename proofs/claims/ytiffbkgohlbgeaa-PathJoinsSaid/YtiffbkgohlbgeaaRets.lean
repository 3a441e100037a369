
/-
  Answers, and worlds that have grown by a block or two. Over whatever program.
-/
import Derived.Test.YtiffbkgohlbgeaaBlk
namespace Go.Proofs.Ytiffbkgohlbgeaa
open Go.RowKit

def RetB (b : Bool) (w : World) (en : Ending) (w' : World) : Prop := en = .returned (.bool b) ∧ Gr w w'
def RetI (i : Int) (w : World) (en : Ending) (w' : World) : Prop := en = .returned (.int .i64 i) ∧ Gr w w'
theorem grow2 {w w1 : World} {o o' : Obj} (g : Gr ((w.alloc o).alloc o') w1) : Gr w w1 := Gr.trans (((Gr.refl w).alloc (Nat.le_refl _) _).alloc (by simp) _) g
theorem grow1 {w w1 : World} {o : Obj} (g : Gr (w.alloc o) w1) : Gr w w1 := Gr.trans ((Gr.refl w).alloc (Nat.le_refl _) _) g
theorem lt_of_new {w w1 : World} {o : Obj} (g : Gr (w.alloc o) w1) : w.heap.size < w1.heap.size := by have := g.size; simp at this; omega

end Go.Proofs.Ytiffbkgohlbgeaa
