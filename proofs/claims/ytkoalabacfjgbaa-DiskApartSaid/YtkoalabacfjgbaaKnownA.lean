
import Derived.Test.YtkoalabacfjgbaaSector
namespace Go.Proofs.Ytkoalabacfjgbaa
open Go.RowKit Go.Maps

/-! ### the chapter's rows, as states -/
def k0 : St := fresh (List.replicate 2 Sec.zero)
def k1 : St := k0.wrote 1 Sec.some1
def k2 : St := k1.wrote 1 Sec.some2
def kPick (k : Nat) : Int := ([0, 1, 2, 5] : List Int).getD k 0
def kWant (k : Nat) : Sec := [Sec.zero, Sec.some1, Sec.some2, Sec.some2].getD k Sec.zero
theorem k_want : ∀ k, k < 4 → (k2.crash [kPick k]).nw 1 = kWant k
  | 0, _ => rfl
  | 1, _ => rfl
  | 2, _ => rfl
  | 3, _ => rfl
  | k + 4, h => by omega
theorem kPick_ok : ∀ k, k < 4 → 0 ≤ kPick k ∧ kPick k ≤ 5
  | 0, _ => by decide
  | 1, _ => by decide
  | 2, _ => by decide
  | 3, _ => by decide
  | k + 4, h => by omega
theorem k0_ok : ¬ k0.refuses := by unfold St.refuses k0 fresh; simp
theorem k1_ok : ¬ k1.refuses := by unfold St.refuses k1 k0 St.wrote fresh; simp
/-- The second disk: its fuse lets one write be done. -/
def f1 : St := { k0 with fuse := 1 }
def f2 : St := f1.wrote 0 Sec.some1
theorem f1_ok : ¬ f1.refuses := by unfold St.refuses f1 k0 fresh; simp
theorem f2_no : f2.refuses := by unfold St.refuses f2 f1 k0 St.wrote fresh; simp

/-- A block that is none of a disk's. -/
def Out (F : Nat → Prop) (w : World) (g : Nat) : Prop := ¬ F g ∧ g < w.heap.size
theorem Out.upd {F F' : Nat → Prop} {w w' : World} {g : Nat} (h : Out F w g) (u : Upd F F' w w') : Out F' w' g :=
  ⟨fun hf => by
    rcases u.fresh g hf with h1 | h1
    · exact h.1 h1
    · have := h.2; omega, Nat.lt_of_lt_of_le h.2 u.size⟩
theorem Blk.upd {F F' : Nat → Prop} {w w' : World} {g : Nat} {t : TypeId} {cs : Array Value} (h : Blk w g t cs) (o : Out F w g) (u : Upd F F' w w') : Blk w' g t cs := h.stays (u.block g o.2 o.1)
theorem Blk.rowFar {w : World} {g : Nat} {t : TypeId} {cs : Array Value} (h : Blk w g t cs) {k : Nat} (hk : g ≠ k) (cs' : Array Value) : Blk (w.setRow k cs') g t cs := h.stays (setRow_other w k g cs' hk)

theorem wpList_build_one {ops : Array Oper} {rest : List Oper} {o : Oper} {a : Act} {w : World} {Q : Exit → Act → World → Prop} (hg : o.guard = none) (x : Operand) (ho : o.op = .build TS #[(0, x)]) {v : Value} {s : Sec}
    (hb : Try.prog.built TS [(0, v)] = some (sec s)) (hx : a.eval x = v)
    (h : wpList Try.prog ops Q rest (a.put o.dst (.agg (sec s))) w) : wpList Try.prog ops Q (o :: rest) a w :=
  wpList_build_sec hg _ ho (by simp only [List.map_toArray, List.map_cons, List.map_nil, hx]; exact hb) h
theorem wpList_build_four {ops : Array Oper} {rest : List Oper} {o : Oper} {a : Act} {w : World} {Q : Exit → Act → World → Prop} (hg : o.guard = none) (x0 x1 x2 x3 : Operand) (ho : o.op = .buildSlice TL 4 #[(0, x0), (1, x1), (2, x2), (3, x3)]) {s0 s1 s2 s3 : Sec}
    (h0 : a.eval x0 = .agg (sec s0)) (h1 : a.eval x1 = .agg (sec s1)) (h2 : a.eval x2 = .agg (sec s2)) (h3 : a.eval x3 = .agg (sec s3))
    (h : wpList Try.prog ops Q rest (a.put o.dst (.slice (some ⟨w.heap.size, 0, none⟩) 4 4)) (w.alloc (.cells (cellsOf [s0, s1, s2, s3]).toArray TS))) : wpList Try.prog ops Q (o :: rest) a w :=
  wpList_buildSecs hg 4 _ ho [s0, s1, s2, s3] rfl (by omega) (by omega) (by simp only [List.map_toArray, List.map_cons, List.map_nil, h0, h1, h2, h3]; rfl) h

end Go.Proofs.Ytkoalabacfjgbaa
