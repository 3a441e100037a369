
/-
  The law DiskApart: what lies there while what was gone over is compared.
-/
import Derived.Test.YtkoalabacfjgbaaApartMid
namespace Go.Proofs.Ytkoalabacfjgbaa
open Go.RowKit Go.Maps Go.Shelf

theorem Row.held {W W' : World} {v : Value} {ss : List Sec} (h : Row W v ss) (k : HoldS Obj.isCells (fun _ => True) W W') : Row W' v ss := h.stays fun g hg => by
  obtain ⟨cs, hc⟩ := h.kind hg
  exact (k.same g _ trivial hc rfl).trans hc.symm

/-- IB has the place k; RB the sectors that were read, which lie in gu; the result says b. -/
structure FinA (w : World) (RB gu N cu IB : Nat) (s : St) (b : Bool) (k : Nat) (W : World) : Prop where
  gr : Gr w W
  res : Blk W w.heap.size TBo #[.bool b]
  rd : Blk W RB TL #[.slice (some ⟨gu, 0, none⟩) N cu]
  row : Row W (.slice (some ⟨gu, 0, none⟩) N cu) ((List.range N).map s.nw)
  cell : Blk W IB TI #[.int .i64 (k : Int)]
  ne : w.heap.size < RB ∧ w.heap.size < gu ∧ RB < IB ∧ gu < IB
section
variable {w : World} {RB gu N cu IB : Nat} {s : St} {b : Bool} {k : Nat} {W W' : World}
theorem FinA.up (h : FinA w RB gu N cu IB s b k W) (g : Gr W W') : FinA w RB gu N cu IB s b k W' := ⟨Gr.trans h.gr g, h.res.gr g, h.rd.gr g, h.row.gr g, h.cell.gr g, h.ne⟩
theorem FinA.held (h : FinA w RB gu N cu IB s b k W) (g : Gr w W') (hk : HoldS Obj.isCells (fun _ => True) W W') : FinA w RB gu N cu IB s b k W' := ⟨g, h.res.held hk, h.rd.held hk, h.row.held hk, h.cell.held hk, h.ne⟩
theorem FinA.step (h : FinA w RB gu N cu IB s b k W) {k' : Nat} (x : Int) (hx : x = (k' : Int)) : FinA w RB gu N cu IB s b k' (W.setCell ⟨IB, 0, none⟩ (.int .i64 x)) := by
  obtain ⟨n1, n2, n3, n4⟩ := h.ne
  subst hx
  exact ⟨h.gr.setCell (p := ⟨IB, 0, none⟩) (by show w.heap.size ≤ IB; omega) _, h.res.far (by show w.heap.size ≠ IB; omega) _, h.rd.far (by show RB ≠ IB; omega) _, h.row.stays (fun g hg => by
    cases hg
    exact heap_setCell_other W ⟨IB, 0, none⟩ gu _ (by show gu ≠ IB; omega)), h.cell.set 0 _, h.ne⟩
theorem FinA.tell (h : FinA w RB gu N cu IB s b k W) (b' : Bool) : FinA w RB gu N cu IB s b' k (W.setCell ⟨w.heap.size, 0, none⟩ (.bool b')) := by
  obtain ⟨n1, n2, n3, n4⟩ := h.ne
  exact ⟨h.gr.setCell (p := ⟨w.heap.size, 0, none⟩) (Nat.le_refl _) _, h.res.set 0 _, h.rd.far (by show RB ≠ w.heap.size; omega) _, h.row.stays (fun g hg => by
    cases hg
    exact heap_setCell_other W ⟨w.heap.size, 0, none⟩ gu _ (by show gu ≠ w.heap.size; omega)), h.cell.far (by show IB ≠ w.heap.size; omega) _, h.ne⟩
theorem FinA.over (h : FinA w RB gu N cu IB s b k W) {D : Nat} (hD : w.heap.size ≤ D) (hK : W.heap[D]? = some (.deferred (some []))) : FinA w RB gu N cu IB s b k (W.putObj D (.deferred none)) := by
  have g := grownBy_putObj' W D (.deferred none)
  exact h.held (Below.grown h.gr g h.gr.size (fun j e => by cases e; exact hD)) (hold_grown g (fun r e => by cases e; exact ⟨_, hK, rfl⟩))
end
theorem finA_own {w : World} {RB gu N cu IB : Nat} {s : St} {b : Bool} {B : Nat} (hB : w.heap.size ≤ B) (f : List SX → Nat → Prop) : OwnFrom B (fun pre W => ∃ k, FinA w RB gu N cu IB s b k W ∧ f pre k) := fun s X Y row hs hg hr => by
  obtain ⟨k, h1, h2⟩ := hs
  exact ⟨k, h1.held (Below.grown h1.gr hg h1.gr.size (fun k e => by have := (hr k e).1; omega)) (hold_grown hg (fun r e => (hr r e).2)), h2⟩
/-- From k on, up to j, all are noughts. -/
def noughts (s : St) (k j : Nat) : Prop := ∀ i, k ≤ i → i < j → s.nw i = Sec.zero
theorem upTo_skip {s : St} : ∀ {d k : Nat}, upTo s k = upTo s (k + d) → noughts s k (k + d)
  | 0, k, _ => fun i h1 h2 => absurd h2 (by omega)
  | d + 1, k, h => fun i h1 h2 => by
    have hmono : ∀ a b, (upTo s a).length ≤ (upTo s (a + b)).length := fun a b => by
      induction b with
      | zero => exact Nat.le_refl _
      | succ b ih =>
        by_cases hz : s.nw (a + b) = Sec.zero
        · rw [← Nat.add_assoc, upTo_no hz]; exact ih
        · rw [← Nat.add_assoc, upTo_yes hz]; simp; omega
    have hl := congrArg List.length h
    by_cases hz : s.nw (k + d) = Sec.zero
    · rw [← Nat.add_assoc, upTo_no hz] at h
      by_cases e : i = k + d
      · rw [e]; exact hz
      · exact upTo_skip h i h1 (by omega)
    · rw [← Nat.add_assoc, upTo_yes hz] at hl
      have := hmono k d
      simp at hl
      omega
theorem upTo_len_lt {s : St} {i : Nat} (h : s.nw i ≠ Sec.zero) : ∀ d, (upTo s i).length < (upTo s (i + 1 + d)).length
  | 0 => by rw [Nat.add_zero, upTo_yes h]; simp
  | d + 1 => by
    have := upTo_len_lt h d
    rw [← Nat.add_assoc]
    by_cases hz : s.nw (i + 1 + d) = Sec.zero
    · rw [upTo_no hz]; exact this
    · rw [upTo_yes hz]; simp; omega
/-- What comes next stands at k or behind it, and nothing but noughts ahead of it. -/
theorem upTo_next {s : St} {k i : Nat} (h : upTo s k = upTo s i) (hn : s.nw i ≠ Sec.zero) : k ≤ i ∧ noughts s k i := by
  have hk : k ≤ i := by
    rcases Nat.lt_or_ge i k with hlt | hge
    · exfalso
      obtain ⟨d, rfl⟩ : ∃ d, k = i + 1 + d := ⟨k - (i + 1), by omega⟩
      have := upTo_len_lt hn d
      rw [h] at this
      omega
    · exact hge
  obtain ⟨d, rfl⟩ : ∃ d, i = k + d := ⟨i - k, by omega⟩
  exact ⟨hk, upTo_skip h⟩

end Go.Proofs.Ytkoalabacfjgbaa
