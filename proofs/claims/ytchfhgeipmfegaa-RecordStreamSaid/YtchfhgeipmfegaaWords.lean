
/-
  Arrays of words: a block of them in memory, taken out whole, put in whole, one of them read. Over whatever program.
-/
import Derived.Test.YtchfhgeipmfegaaKit
import Derived.Test.YtchfhgeipmfegaaBits
import Derived.Laws.Rows
import Derived.Laws.Tables
import Derived.Deep.WholeRow
namespace Go.Proofs.Ytchfhgeipmfegaa
open Go.RowKit Cr

theorem ret_v {k : IntKind} {a b : Int} (h : a = b) : Value.int k a = .int k b := by rw [h]

/-- An array of words. -/
def words (n : Nat) (f : Nat → W) : Array Value := ((List.range n).map fun i => Value.int .u32 (U (f i))).toArray
theorem words_size (n : Nat) (f : Nat → W) : (words n f).size = n := by simp [words]
theorem words_get {n i : Nat} (f : Nat → W) (h : i < n) : (words n f)[i]? = some (.int .u32 (U (f i))) := by simp [words, h]
theorem words_one (n : Nat) (f : Nat → W) : (words n f).all (·.oneCell') = true := by
  rw [Array.all_eq_true_iff_forall_mem]
  intro v hv
  obtain ⟨i, _, rfl⟩ : ∃ i, i < n ∧ Value.int .u32 (U (f i)) = v := by simpa [words] using hv
  rfl
theorem words_congr {n : Nat} {f g : Nat → W} (h : ∀ i, i < n → f i = g i) : words n f = words n g := by
  unfold words
  congr 1
  apply List.map_congr_left
  intro i hi
  rw [h i (by simpa using hi)]
/-- One of them is set. -/
def put (f : Nat → W) (i : Nat) (s : W) : Nat → W := fun j => if j = i then s else f j
theorem words_put (n : Nat) (f : Nat → W) (i : Nat) (s : W) : (words n f).setIfInBounds i (.int .u32 (U s)) = words n (put f i s) := by
  apply Array.ext_getElem?
  intro j
  by_cases hj : j < n
  · rw [words_get _ hj, Array.getElem?_setIfInBounds]
    by_cases he : i = j
    · subst he; simp [words_size, hj, put]
    · rw [if_neg he, words_get _ hj]; simp [put, show ¬ j = i from fun e => he e.symm]
  · have h1 : ¬ j < (words n (put f i s)).size := by rw [words_size]; exact hj
    have h2 : ¬ j < ((words n f).setIfInBounds i (.int .u32 (U s))).size := by rw [Array.size_setIfInBounds, words_size]; exact hj
    rw [Array.getElem?_eq_none (by omega), Array.getElem?_eq_none (by omega)]

/-- A block that is known whole. -/
def Blk (w : World) (g : Nat) (t : TypeId) (cs : Array Value) : Prop := w.heap[g]? = some (.cells cs t (0, 0))
theorem Blk.lt {w : World} {g : Nat} {t : TypeId} {cs : Array Value} (h : Blk w g t cs) : g < w.heap.size := by
  rcases Nat.lt_or_ge g w.heap.size with hlt | hge
  · exact hlt
  · unfold Blk at h; rw [Array.getElem?_eq_none hge] at h; cases h
theorem Blk.cell {w : World} {g : Nat} {t : TypeId} {cs : Array Value} (h : Blk w g t cs) (i : Nat) : w.cell? ⟨g, i, none⟩ = cs[i]? := cell_of_row w g i cs t (0, 0) h
theorem Blk.frozen {w : World} {g : Nat} {t : TypeId} {cs : Array Value} (h : Blk w g t cs) (i : Nat) : w.frozen? ⟨g, i, none⟩ = false := frozen_of_row w g i cs t h
theorem Blk.new (w : World) (t : TypeId) (cs : Array Value) : Blk (w.alloc (.cells cs t)) w.heap.size t cs := heap_alloc_new w _
theorem Blk.alloc {w : World} {g : Nat} {t : TypeId} {cs : Array Value} (h : Blk w g t cs) (o : Obj) : Blk (w.alloc o) g t cs := (heap_alloc_old w o h.lt).trans h
theorem Blk.set {w : World} {g : Nat} {t : TypeId} {cs : Array Value} (h : Blk w g t cs) (i : Nat) (u : Value) : Blk (w.setCell ⟨g, i, none⟩ u) g t (cs.setIfInBounds i u) := heap_setCell_same w g i cs t u h
theorem Blk.far {w : World} {g : Nat} {t : TypeId} {cs : Array Value} (h : Blk w g t cs) {p : Addr} (hp : g ≠ p.block) (u : Value) : Blk (w.setCell p u) g t cs := (heap_setCell_other w p g u hp).trans h
theorem Blk.below {B : Nat} {w w' : World} {g : Nat} {t : TypeId} {cs : Array Value} (h : Blk w g t cs) (hb : Below B w w') (hg : g < B) : Blk w' g t cs := (hb.block g hg).trans h
theorem Blk.row {w : World} {g : Nat} {t : TypeId} {cs : Array Value} (h : Blk w g t cs) (cs' : Array Value) : Blk (w.setRow g cs') g t cs' := setRow_heap w g cs cs' t (0, 0) h
theorem Blk.heap {w w' : World} {g : Nat} {t : TypeId} {cs : Array Value} (h : Blk w g t cs) (e : w'.heap = w.heap) : Blk w' g t cs := by unfold Blk; rw [e]; exact h

/-- One word out of an array that is a value. -/
theorem run_index_words {P : Program} {t e : TypeId} {n : Nat} (ht : P.underlying t = some (.array n e)) (he : P.underlying e = some (.int .u32)) (hs : (P.info? e).map (·.size) = some 1) (f : Nat → W) (i : Nat) (hi : i < n) (w : World) :
    (Instr.index t (.agg (words n f)) (.int .i64 i)).run P w = .ok (.int .u32 (U (f i))) w := by
  have hin : (0 : Int) ≤ (i : Int) ∧ (i : Int) < (n : Int) := by omega
  cases hq : P.info? e with
  | none => simp [hq] at hs
  | some q =>
    have hz : q.size = 1 := by simpa [hq] using hs
    simp [Instr.index, run_underlying ht, run_underlying he, asIntOf, hi, go_sem, part, isAgg, sizeOf, typeInfo, hq, hz, words_get f hi]

end Go.Proofs.Ytchfhgeipmfegaa
