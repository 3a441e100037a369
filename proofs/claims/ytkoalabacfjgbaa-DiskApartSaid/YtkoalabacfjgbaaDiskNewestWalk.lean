
import Derived.Test.YtkoalabacfjgbaaDiskFuseWalk
namespace Go.Proofs.Ytkoalabacfjgbaa
open Go.RowKit Go.Maps

theorem getD_zeros (n j : Nat) : (List.replicate n Sec.zero).getD j Sec.zero = Sec.zero := by
  unfold List.getD
  rw [List.getElem?_replicate]
  split <;> rfl
/-- Twenty of noughts. -/
def zeros20 : List Sec := List.replicate 20 Sec.zero
theorem Blk.lies {w : World} {g : Nat} {t : TypeId} {ss : List Sec} (h : Blk w g t (cellsOf ss).toArray) (i : Nat) (hi : i < ss.length) : w.rangeAt g (i * 256) (ss[i]).cells := by
  intro j v hv
  have hj : j < 256 := by have := (List.getElem?_eq_some_iff.1 hv).1; rwa [Sec.cells_len] at this
  rw [← hv, ← cellsOf_at ss i hi j hj, h.cell]
  simp
theorem Blk.there {w : World} {g : Nat} {t : TypeId} {ss : List Sec} (h : Blk w g t (cellsOf ss).toArray) (i : Nat) (hi : i < ss.length) : w.there g (i * 256) 256 := by
  intro j hj
  have hl := h.lies i hi
  refine ⟨?_, h.frozen _⟩
  have hjl : j < (ss[i]).cells.length := by rw [Sec.cells_len]; exact hj
  rw [hl j _ (List.getElem?_eq_getElem hjl)]
  rfl
theorem Blk.put {w : World} {g : Nat} {t : TypeId} {ss : List Sec} (h : Blk w g t (cellsOf ss).toArray) (i : Nat) (hi : i < ss.length) (s : Sec) : Blk (w.setCells g (i * 256) s.cells) g t (cellsOf (ss.set i s)).toArray := by
  have hfit : i * 256 + s.cells.length ≤ (cellsOf ss).toArray.size := by
    rw [s.cells_len, List.size_toArray, cellsOf_len]
    have := Nat.mul_le_mul_right 256 (show i + 1 ≤ ss.length from hi)
    rwa [Nat.add_mul, Nat.one_mul] at this
  have := heap_setCells_same g t s.cells (i * 256) w _ h hfit
  unfold Blk
  rw [this, cellsOf_set ss i hi s, s.cells_len]

/-- Slices of bytes, of bools, as they come in. -/
structure Bys (w : World) (p : Option Addr) (n c : Nat) (xs : List Int) : Prop where
  len : xs.length = n
  most : n ≤ 9223372036854775807
  lies : 0 < n → ∃ b o, p = some ⟨b, o, none⟩ ∧ ∀ i, i < n → w.cell? ⟨b, o + i, none⟩ = some (.int .u8 (xs.getD i 0))
  ok : ∀ x ∈ xs, 0 ≤ x ∧ x < 256
structure Bls (w : World) (p : Option Addr) (n c : Nat) (xs : List Bool) : Prop where
  len : xs.length = n
  most : n ≤ 9223372036854775807
  lies : 0 < n → ∃ b o, p = some ⟨b, o, none⟩ ∧ ∀ i, i < n → w.cell? ⟨b, o + i, none⟩ = some (.bool (xs.getD i false))
theorem Bys.gr {w w' : World} {p : Option Addr} {n c : Nat} {xs : List Int} (h : Bys w p n c xs) (g : Gr w w') : Bys w' p n c xs :=
  ⟨h.len, h.most, fun hn => by
    obtain ⟨b, o, e, hc⟩ := h.lies hn
    exact ⟨b, o, e, fun i hi => by rw [g.cell (World.block_lt_of_cell? w _ (hc i hi))]; exact hc i hi⟩, h.ok⟩
theorem Bls.gr {w w' : World} {p : Option Addr} {n c : Nat} {xs : List Bool} (h : Bls w p n c xs) (g : Gr w w') : Bls w' p n c xs :=
  ⟨h.len, h.most, fun hn => by
    obtain ⟨b, o, e, hc⟩ := h.lies hn
    exact ⟨b, o, e, fun i hi => by rw [g.cell (World.block_lt_of_cell? w _ (hc i hi))]; exact hc i hi⟩⟩

theorem nw_wrote (s : St) (J j : Nat) (x : Sec) : (s.wrote J x).nw j = if j = J then x else s.nw j := by
  unfold St.nw St.wrote
  by_cases h : j = J
  · subst h; simp
  · simp [h]
theorem nw_barrier (s : St) (j : Nat) (hj : j < s.ls.length) : s.barrier.nw j = s.nw j := by
  rw [nw_none (s := s.barrier) rfl]
  unfold St.barrier
  simp [List.getD, hj]

/-- What the slots of the test hold. -/
def Sq (bl j _n8 : Nat) (S : Sec) (d : Nat) (v : Value) (_ : World) : Prop :=
  match d with
  | 100 => v = .int .i64 0
  | 101 | 102 | 107 | 108 => v = .bool false
  | 103 | 106 => v = .agg (sec S)
  | 104 => v = .int .i64 (j : Int)
  | 105 => v = .pointer (some ⟨bl, j * 256, none⟩)
  | _ => True

end Go.Proofs.Ytkoalabacfjgbaa
