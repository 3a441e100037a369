
/-
  Pages: arrays of 248 bytes, by value, in memory, compared.
-/
import Derived.Test.YtchfhgeipmfegaaProg
import Derived.WalkKit
import Derived.WalkSpells
import Derived.WalkLawsBesides
import Derived.Handy
import Derived.Laws.AppendOwnNone
import Derived.Deep.MidRow
import Derived.Deep.WholeRow
import Derived.Deep.RegionLaw
import Derived.ProofKit
import Derived.Lib.Hide
import Derived.Stop.BytesEq
import Derived.Carry
namespace Go.Proofs.Ytchfhgeipmfegaa
open Go.RowKit
open Extern.Stop (cell)

abbrev TS : TypeId := 93

/-- A sector. -/
structure Sec where
  bytes : List UInt8
  len : bytes.length = 248

theorem Sec.ext {s t : Sec} (h : s.bytes = t.bytes) : s = t := by
  cases s; cases t; cases h; rfl
instance : DecidableEq Sec := fun s t => if h : s.bytes = t.bytes then isTrue (Sec.ext h) else isFalse (fun e => h (by rw [e]))

/-- Its cells. -/
def Sec.cells (s : Sec) : List Value := s.bytes.map cell
def sec (s : Sec) : Array Value := s.cells.toArray
theorem Sec.cells_len (s : Sec) : s.cells.length = 248 := by unfold Sec.cells; rw [List.length_map, s.len]
theorem sec_size (s : Sec) : (sec s).size = 248 := by unfold sec; simp [Sec.cells_len]
theorem sec_list (s : Sec) : (sec s).toList = s.cells := rfl
theorem Sec.one (s : Sec) : ∀ v ∈ s.cells, v.oneCell' = true := by
  intro v hv
  obtain ⟨x, _, rfl⟩ := List.mem_map.1 hv
  rfl
theorem sec_one (s : Sec) : (sec s).all (·.oneCell') = true := all_oneCell_toArray s.one

/-- No byte but 0. -/
def Sec.zero : Sec := ⟨List.replicate 248 0, List.length_replicate ..⟩
theorem info_sec : (Try.prog.info? TS).map (fun i => (i.zero, i.size, i.bytes)) = some (some (.agg (sec Sec.zero)), 248, 248) := by kernel_rfl
theorem size_sec : (Try.prog.info? TS).map (·.size) = some 248 := by kernel_rfl
theorem zero_sec (w : World) : (zeroValue TS).run Try.prog w = .ok (.agg (sec Sec.zero)) w :=
  (zero_of_info (n := 248) (show (Try.prog.info? TS).map (fun i => (i.zero, i.size)) = some (some (.agg (sec Sec.zero)), 248) by kernel_rfl)).1 w
theorem under_sec : Try.prog.underlying TS = some (.array 248 5) := Try.underlying93
theorem size_u8 (w : World) : (sizeOf 5).run Try.prog w = .ok 1 w := by
  have h : (Try.prog.info? 5).map (·.size) = some 1 := by kernel_rfl
  cases hq : Try.prog.info? 5 with
  | none => rw [hq] at h; cases h
  | some i => rw [hq] at h; simp at h; simp [sizeOf, typeInfo, hq, h]

/-- Two sectors, compared. -/
theorem eqi_sec (s t : Sec) (w : World) : (Op.equalIn 10000 TS (.agg (sec s)) (.agg (sec t))).run Try.prog w = .ok (decide (s = t)) w := by
  have h := run_equalIn_bytes (P := Try.prog) w 9998 TS 5 248 under_sec Try.underlying5 size_u8 s.bytes t.bytes s.len t.len
  have e : (s.bytes == t.bytes) = decide (s = t) := by
    by_cases h : s = t
    · subst h; simp
    · have : ¬ s.bytes = t.bytes := fun e => h (Sec.ext e)
      simp [h, this]
  rw [← e]
  exact h
theorem eql_sec (s t : Sec) (w : World) : (binOp .eql TS (.agg (sec s)) (.agg (sec t))).run Try.prog w = .ok (.bool (decide (s = t))) w := by
  rw [run_eql_struct, eqi_sec]; rfl
theorem neq_sec (s t : Sec) (w : World) : (binOp .neq TS (.agg (sec s)) (.agg (sec t))).run Try.prog w = .ok (.bool (!decide (s = t))) w := by
  rw [run_neq_struct, eqi_sec]; rfl

/-- Sectors that are built. -/
theorem built_zero : Try.prog.built TS [] = some (sec Sec.zero) := by kernel_rfl

/-- What cells set one by one leave of a block. -/
theorem heap_setCells_other (b : Nat) : ∀ (vs : List Value) (o : Nat) (w : World) (k : Nat), k ≠ b → (w.setCells b o vs).heap[k]? = w.heap[k]?
  | [], _, _, _, _ => rfl
  | v :: r, o, w, k, h => by
    rw [World.setCells, heap_setCells_other b r (o + 1) _ k h]
    exact Below.heap_setCell w ⟨b, o, none⟩ v k h
theorem heap_setCells_same (b : Nat) (t : TypeId) : ∀ (vs : List Value) (o : Nat) (w : World) (cur : Array Value), w.heap[b]? = some (.cells cur t (0, 0)) → o + vs.length ≤ cur.size →
    (w.setCells b o vs).heap[b]? = some (.cells (cur.toList.take o ++ vs ++ cur.toList.drop (o + vs.length)).toArray t (0, 0))
  | [], o, w, cur, h, _ => by simpa [World.setCells] using h
  | v :: r, o, w, cur, h, hl => by
    have hl' : o < cur.size := by simp at hl; omega
    have h1 := heap_setCell_same w b o cur t v h
    rw [World.setCells, heap_setCells_same b t r (o + 1) _ _ h1 (by simp at hl ⊢; omega)]
    congr 2
    apply congrArg List.toArray
    have e1 : (cur.setIfInBounds o v).toList = cur.toList.set o v := by simp
    rw [e1, List.set_eq_take_append_cons_drop, if_pos (by simpa using hl')]
    have ht : (cur.toList.take o).length = o := by simp; omega
    generalize cur.toList.take o = A at ht ⊢
    have h2 : List.take (o + 1) (A ++ v :: List.drop (o + 1) cur.toList) = A ++ [v] := by
      rw [List.take_append, ht, List.take_of_length_le (by omega), show o + 1 - o = 1 by omega]; rfl
    have h3 : List.drop (o + 1 + r.length) (A ++ v :: List.drop (o + 1) cur.toList) = List.drop (o + (v :: r).length) cur.toList := by
      rw [List.drop_append, ht, List.drop_of_length_le (by omega), List.nil_append, show o + 1 + r.length - o = r.length + 1 by omega, List.drop_succ_cons, List.drop_drop]
      congr 1
      simp; omega
    rw [h2, h3]
    simp
theorem setCells_os (b : Nat) : ∀ (vs : List Value) (o : Nat) (w : World), (w.setCells b o vs).os = w.os ∧ (w.setCells b o vs).tape = w.tape ∧ (w.setCells b o vs).output = w.output ∧ (w.setCells b o vs).heap.size = w.heap.size
  | [], _, _ => ⟨rfl, rfl, rfl, rfl⟩
  | v :: r, o, w => by
    obtain ⟨h1, h2, h3, h4⟩ := setCells_os b r (o + 1) (w.setCell ⟨b, o, none⟩ v)
    exact ⟨h1, h2, h3, by rw [World.setCells, h4]; simp [World.setCell]⟩


end Go.Proofs.Ytchfhgeipmfegaa
