
/-
  Worlds that only grow, and in which texts may be marked: what was read stays. Over whatever program.
-/
import Derived.Test.YtanajjfcnedaiaaWords
namespace Go.Proofs.Ytanajjfcnedaiaa
open Go.RowKit

/-- Each block of cells is there still, with its cells (its marks may be other ones). -/
structure Keeps (w w' : World) : Prop where
  size : w.heap.size ≤ w'.heap.size
  block : ∀ (g : Nat) (cs : Array Value) (t : TypeId) (fr : Nat × Nat), w.heap[g]? = some (.cells cs t fr) → ∃ fr', w'.heap[g]? = some (.cells cs t fr')
theorem Keeps.refl (w : World) : Keeps w w := ⟨Nat.le_refl _, fun _ _ _ fr h => ⟨fr, h⟩⟩
theorem Keeps.of {w w' : World} (h : Gr w w') : Keeps w w' := ⟨h.size, fun g cs t fr hg => ⟨fr, by
  have hlt : g < w.heap.size := by
    rcases Nat.lt_or_ge g w.heap.size with h' | h'
    · exact h'
    · rw [Array.getElem?_eq_none h'] at hg; cases hg
  rw [h.block g hlt]; exact hg⟩⟩
theorem Keeps.cell {w w' : World} (h : Keeps w w') {a : Addr} {v : Value} (hc : w.cell? a = some v) : w'.cell? a = some v := by
  unfold World.cell? at hc ⊢
  cases hg : w.heap[a.block]? with
  | none => rw [hg] at hc; cases hc
  | some o =>
    cases o with
    | cells cs t fr =>
      obtain ⟨fr', h'⟩ := h.block _ _ _ _ hg
      rw [h']
      rw [hg] at hc
      exact hc
    | _ => rw [hg] at hc; cases hc
theorem Byt.keeps {w w' : World} {p : Option Addr} {n c : Nat} {xs : List Int} (h : Byt w p n c xs) (g : Keeps w w') : Byt w' p n c xs :=
  ⟨h.len, h.cap, h.most, fun hn => by
    obtain ⟨b, o, rfl, hc⟩ := h.lies.at hn
    exact ⟨b, o, rfl, fun i hi => g.cell (hc i hi)⟩, h.nilCap, h.small⟩
theorem Rows.keeps {w w' : World} {p : Option Addr} {n c : Nat} {xss : List (List Int)} (h : Rows w p n c xss) (g : Keeps w w') : Rows w' p n c xss :=
  ⟨h.len, h.cap, h.most, fun hn => by
    obtain ⟨b, o, e, hc⟩ := h.lies hn
    refine ⟨b, o, e, fun i hi => ?_⟩
    obtain ⟨q, m, d, h1, h2⟩ := hc i hi
    exact ⟨q, m, d, g.cell h1, h2.keeps g⟩, h.nilCap⟩

/-- A slice over a whole block of the call's own that holds these bytes. -/
def Lit (tB B : Nat) (w : World) (v : Value) (n : Nat) (xs : List Int) : Prop := ∃ g fr, v = .slice (some ⟨g, 0, none⟩) n n ∧ B ≤ g ∧ w.heap[g]? = some (.cells (xs.map (Value.int .u8)).toArray tB fr) ∧ xs.length = n ∧ n ≤ maxLen ∧ Wd.Small xs
theorem Lit.keeps {tB B : Nat} {w w' : World} {v : Value} {n : Nat} {xs : List Int} (h : Lit tB B w v n xs) (k : Keeps w w') : Lit tB B w' v n xs := by
  obtain ⟨g, fr, e, hB, hg, r⟩ := h
  obtain ⟨fr', hg'⟩ := k.block _ _ _ _ hg
  exact ⟨g, fr', e, hB, hg', r⟩
theorem Lit.byt {tB B : Nat} {w : World} {v : Value} {n : Nat} {xs : List Int} (h : Lit tB B w v n xs) : ∃ p, v = .slice p n n ∧ Byt w p n n xs := by
  obtain ⟨g, fr, e, hB, hg, hl, hm, hs⟩ := h
  refine ⟨_, e, hl, Nat.le_refl _, hm, fun hn => ⟨g, 0, rfl, fun i hi => ?_⟩, (fun h => by cases h), hs⟩
  simp [World.cell?, hg, List.getD, hl, hi]
theorem Lit.new {tB B : Nat} {w : World} (hB : B ≤ w.heap.size) (xs : List Int) (n : Nat) (hn : xs.length = n) (hm : n ≤ 1000) (hs : Wd.Small xs) (C : Array Value) (hC : C = (xs.map (Value.int .u8)).toArray) : Lit tB B (w.alloc (.cells C tB)) (.slice (some ⟨w.heap.size, 0, none⟩) n n) n xs := by
  subst hC
  exact ⟨_, _, rfl, hB, heap_alloc_new w _, hn, by unfold maxLen; omega, hs⟩

/-- One list of bytes, as an argument of any number of lists. -/
def RowOf (w : World) (v : Value) (xs : List Int) : Prop := ∃ p c, v = .slice p 1 c ∧ Rows w p 1 c [xs]
theorem RowOf.keeps {w w' : World} {v : Value} {xs : List Int} (h : RowOf w v xs) (k : Keeps w w') : RowOf w' v xs := by
  obtain ⟨p, c, e, h⟩ := h
  exact ⟨p, c, e, h.keeps k⟩

/-- A block of bytes is marked: they were a text. -/
def mark (w : World) (g n : Nat) : World := w.freeze ⟨g, n, none⟩ 1
theorem mark_keeps (w : World) (g n : Nat) : Keeps w (mark w g n) := by
  unfold mark World.freeze
  rw [if_neg (by decide)]
  refine ⟨by simp, fun b cs t fr hb => ?_⟩
  simp only [Array.getElem?_modify]
  split
  · rw [hb]
    obtain ⟨lo, hi⟩ := fr
    exact ⟨_, rfl⟩
  · exact ⟨fr, hb⟩
theorem mark_below {B : Nat} {w0 w : World} (h : Below B w0 w) (g n : Nat) (hg : B ≤ g) : Below B w0 (mark w g n) := by
  unfold mark World.freeze
  rw [if_neg (by decide)]
  refine ⟨h.os, h.tape, h.output, ?_, ?_⟩
  · simpa using h.size
  · intro b hb
    simp only [Array.getElem?_modify]
    rw [if_neg (by omega)]
    exact h.block b hb

end Go.Proofs.Ytanajjfcnedaiaa
