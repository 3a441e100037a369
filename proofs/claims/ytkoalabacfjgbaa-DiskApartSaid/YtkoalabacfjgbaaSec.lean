
/-
  Sectors: arrays of 256 bytes, by value, in memory, compared; rows of them.
-/
import Derived.Test.YtkoalabacfjgbaaProg
import Derived.WalkKit
import Derived.WalkSpells
import Derived.WalkLawsBesides
import Derived.Handy
import Derived.Laws.AppendOwnNone
import Derived.Deep.MidRow
import Derived.Deep.WholeRow
import Derived.Deep.RegionLaw
import Derived.ProofKit
import Derived.Lib.Hide
import Derived.Stop.BytesEq
import Derived.Carry
namespace Go.Proofs.Ytkoalabacfjgbaa
open Go.RowKit
open Extern.Stop (cell)

abbrev TS : TypeId := 27

/-- A sector. -/
structure Sec where
  bytes : List UInt8
  len : bytes.length = 256

theorem Sec.ext {s t : Sec} (h : s.bytes = t.bytes) : s = t := by
  cases s; cases t; cases h; rfl
instance : DecidableEq Sec := fun s t => if h : s.bytes = t.bytes then isTrue (Sec.ext h) else isFalse (fun e => h (by rw [e]))

/-- Its cells. -/
def Sec.cells (s : Sec) : List Value := s.bytes.map cell
def sec (s : Sec) : Array Value := s.cells.toArray
theorem Sec.cells_len (s : Sec) : s.cells.length = 256 := by unfold Sec.cells; rw [List.length_map, s.len]
theorem sec_size (s : Sec) : (sec s).size = 256 := by unfold sec; simp [Sec.cells_len]
theorem sec_list (s : Sec) : (sec s).toList = s.cells := rfl
theorem Sec.one (s : Sec) : ∀ v ∈ s.cells, v.oneCell' = true := by
  intro v hv
  obtain ⟨x, _, rfl⟩ := List.mem_map.1 hv
  rfl
theorem sec_one (s : Sec) : (sec s).all (·.oneCell') = true := all_oneCell_toArray s.one

/-- No byte but 0. -/
def Sec.zero : Sec := ⟨List.replicate 256 0, List.length_replicate ..⟩
/-- The law's sector of a byte. -/
def Sec.of (x : UInt8) : Sec := ⟨((List.replicate 256 (0 : UInt8)).set 0 x).set 100 (x + 1) |>.set 255 x, by rw [List.length_set, List.length_set, List.length_set]; exact List.length_replicate ..⟩
def Sec.some1 : Sec := ⟨(List.replicate 256 (0 : UInt8)).set 0 1, by rw [List.length_set]; exact List.length_replicate ..⟩
def Sec.some2 : Sec := ⟨(List.replicate 256 (0 : UInt8)).set 0 2, by rw [List.length_set]; exact List.length_replicate ..⟩

theorem info_sec : (Try.prog.info? TS).map (fun i => (i.zero, i.size, i.bytes)) = some (some (.agg (sec Sec.zero)), 256, 256) := by kernel_rfl
theorem size_sec : (Try.prog.info? TS).map (·.size) = some 256 := by kernel_rfl
theorem zero_sec (w : World) : (zeroValue TS).run Try.prog w = .ok (.agg (sec Sec.zero)) w :=
  (zero_of_info (n := 256) (show (Try.prog.info? TS).map (fun i => (i.zero, i.size)) = some (some (.agg (sec Sec.zero)), 256) by kernel_rfl)).1 w
theorem under_sec : Try.prog.underlying TS = some (.array 256 5) := Try.underlying27
theorem size_u8 (w : World) : (sizeOf 5).run Try.prog w = .ok 1 w := by
  have h : (Try.prog.info? 5).map (·.size) = some 1 := by kernel_rfl
  cases hq : Try.prog.info? 5 with
  | none => rw [hq] at h; cases h
  | some i => rw [hq] at h; simp at h; simp [sizeOf, typeInfo, hq, h]

/-- Two sectors, compared. -/
theorem eqi_sec (s t : Sec) (w : World) : (Op.equalIn 10000 TS (.agg (sec s)) (.agg (sec t))).run Try.prog w = .ok (decide (s = t)) w := by
  have h := run_equalIn_bytes (P := Try.prog) w 9998 TS 5 256 under_sec Try.underlying5 size_u8 s.bytes t.bytes s.len t.len
  have e : (s.bytes == t.bytes) = decide (s = t) := by
    by_cases h : s = t
    · subst h; simp
    · have : ¬ s.bytes = t.bytes := fun e => h (Sec.ext e)
      simp [h, this]
  rw [← e]
  exact h
theorem eql_sec (s t : Sec) (w : World) : (binOp .eql TS (.agg (sec s)) (.agg (sec t))).run Try.prog w = .ok (.bool (decide (s = t))) w := by
  rw [run_eql_struct, eqi_sec]; rfl
theorem neq_sec (s t : Sec) (w : World) : (binOp .neq TS (.agg (sec s)) (.agg (sec t))).run Try.prog w = .ok (.bool (!decide (s = t))) w := by
  rw [run_neq_struct, eqi_sec]; rfl

/-- Sectors that are built. -/
theorem built_zero : Try.prog.built TS [] = some (sec Sec.zero) := by kernel_rfl
theorem built_some1 : Try.prog.built TS [(0, .int .u8 1)] = some (sec Sec.some1) := by kernel_rfl
theorem built_some2 : Try.prog.built TS [(0, .int .u8 2)] = some (sec Sec.some2) := by kernel_rfl

/-- Many, one behind the other. -/
def cellsOf (ss : List Sec) : List Value := ss.flatMap Sec.cells
theorem cellsOf_len (ss : List Sec) : (cellsOf ss).length = ss.length * 256 := by
  induction ss with
  | nil => rfl
  | cons s r ih => unfold cellsOf at *; rw [List.flatMap_cons, List.length_append, ih, s.cells_len, List.length_cons]; omega
theorem cellsOf_app (ss ts : List Sec) : cellsOf (ss ++ ts) = cellsOf ss ++ cellsOf ts := by unfold cellsOf; exact List.flatMap_append
theorem cellsOf_one (s : Sec) : cellsOf [s] = s.cells := by unfold cellsOf; simp
theorem cellsOf_each (ss : List Sec) : ∀ v ∈ cellsOf ss, v.oneCell' = true := by
  intro v hv
  obtain ⟨s, _, h⟩ := List.mem_flatMap.1 hv
  exact s.one v h
theorem cellsOf_at : ∀ (ss : List Sec) (i : Nat) (h : i < ss.length) (j : Nat), j < 256 → (cellsOf ss)[i * 256 + j]? = (ss[i]).cells[j]?
  | s :: r, 0, _, j, hj => by
    unfold cellsOf
    rw [List.flatMap_cons, List.getElem?_append_left (by rw [s.cells_len]; omega)]
    simp
  | s :: r, i + 1, h, j, hj => by
    have ih := cellsOf_at r i (by simpa using h) j hj
    unfold cellsOf at *
    rw [List.flatMap_cons, List.getElem?_append_right (by rw [s.cells_len]; omega), s.cells_len, show (i + 1) * 256 + j - 256 = i * 256 + j by omega, ih]
    simp
theorem cellsOf_split (ss : List Sec) (i : Nat) : cellsOf ss = cellsOf (ss.take i) ++ cellsOf (ss.drop i) := by rw [← cellsOf_app, List.take_append_drop]
theorem cellsOf_take (ss : List Sec) (i : Nat) (h : i ≤ ss.length) : (cellsOf ss).take (i * 256) = cellsOf (ss.take i) := by
  rw [cellsOf_split ss i, List.take_left' (by rw [cellsOf_len, List.length_take, Nat.min_eq_left h])]
theorem cellsOf_drop (ss : List Sec) (i : Nat) (h : i ≤ ss.length) : (cellsOf ss).drop (i * 256) = cellsOf (ss.drop i) := by
  rw [cellsOf_split ss i, List.drop_left' (by rw [cellsOf_len, List.length_take, Nat.min_eq_left h])]
theorem cellsOf_set (ss : List Sec) (i : Nat) (h : i < ss.length) (s : Sec) : cellsOf (ss.set i s) = (cellsOf ss).take (i * 256) ++ s.cells ++ (cellsOf ss).drop (i * 256 + 256) := by
  rw [cellsOf_take ss i (by omega), show i * 256 + 256 = (i + 1) * 256 by omega, cellsOf_drop ss (i + 1) (by omega)]
  rw [List.set_eq_take_append_cons_drop, if_pos h, cellsOf_app, ← List.singleton_append, cellsOf_app, cellsOf_one, List.append_assoc]

/-- The slice value v is a row of sectors: nil, or at the head of a block. -/
def Row (w : World) (v : Value) (ss : List Sec) : Prop := w.ownsRow 0 TS 256 v ss.length (cellsOf ss)
theorem Row.empty (w : World) : Row w (.slice none 0 0) [] := World.ownsRow_nil _ _ _ _
theorem Row.form {w : World} {v : Value} {ss : List Sec} (h : Row w v ss) : (v = .slice none 0 0 ∧ ss = []) ∨ ∃ g c, v = .slice (some ⟨g, 0, none⟩) ss.length c ∧ g < w.heap.size ∧ ss.length ≤ c ∧ c ≤ maxLen := by
  rcases h.2 with ⟨rfl, h0⟩ | ⟨g, cap, cur, rfl, _, hg, hn, hm, _⟩
  · exact .inl ⟨rfl, List.eq_nil_of_length_eq_zero h0⟩
  · exact .inr ⟨g, cap, rfl, (Array.getElem?_eq_some_iff.1 hg).1, hn, hm⟩
/-- Where there is one: its block. -/
theorem Row.full {w : World} {v : Value} {ss : List Sec} (h : Row w v ss) (hn : ss ≠ []) : ∃ g c, v = .slice (some ⟨g, 0, none⟩) ss.length c ∧ g < w.heap.size ∧ ss.length ≤ c ∧ c ≤ maxLen := by
  rcases h.form with ⟨_, h0⟩ | h
  · exact absurd h0 hn
  · exact h
/-- The row stays while its own block does. -/
theorem Row.stays {w w' : World} {v : Value} {ss : List Sec} (h : Row w v ss) (hb : ∀ g, v.ownBlock = some g → w'.heap[g]? = w.heap[g]?) : Row w' v ss := by
  refine ⟨h.1, ?_⟩
  rcases h.2 with h2 | ⟨g, cap, cur, rfl, h0, hg, r⟩
  · exact .inl h2
  · exact .inr ⟨g, cap, cur, rfl, h0, (hb g rfl).trans hg, r⟩
theorem Row.lt {w : World} {v : Value} {ss : List Sec} (h : Row w v ss) : ∀ g, v.ownBlock = some g → g < w.heap.size := fun g hg => (World.ownsRow.lt h g hg).2
theorem Row.kept {w w' : World} {B : Nat} {v : Value} {ss : List Sec} (h : Row w v ss) (hb : Below B w w') (hB : ∀ g, v.ownBlock = some g → g < B) : Row w' v ss := h.stays fun g hg => hb.block g (hB g hg)
theorem Row.gr {w w' : World} {v : Value} {ss : List Sec} (h : Row w v ss) (hb : Below w.heap.size w w') : Row w' v ss := h.kept hb h.lt
/-- Its kind, by which it is told from other blocks. -/
theorem Row.kind {w : World} {v : Value} {ss : List Sec} (h : Row w v ss) {g : Nat} (hg : v.ownBlock = some g) : ∃ cs, w.heap[g]? = some (.cells cs TS (0, 0)) := by
  rcases h.2 with ⟨rfl, _⟩ | ⟨g', cap, cur, rfl, _, h2, _⟩
  · cases hg
  · cases hg; exact ⟨_, h2⟩

/-- One of them lies there. -/
theorem Row.lies {w : World} {g n c : Nat} {ss : List Sec} (h : Row w (.slice (some ⟨g, 0, none⟩) n c) ss) (i : Nat) (hi : i < ss.length) : w.rangeAt g (i * 256) (ss[i]).cells := by
  rcases h.2 with ⟨h0, _⟩ | ⟨g', cap, cur, h0, _, hg, hn, hm, hs, ht⟩
  · cases h0
  · cases h0
    intro j v hv
    have hj : j < 256 := by have := (List.getElem?_eq_some_iff.1 hv).1; rwa [Sec.cells_len] at this
    rw [← hv, ← cellsOf_at ss i hi j hj, cell_of_row w g _ cur TS (0, 0) hg, ← ht, List.getElem?_take, if_pos (by omega)]
    simp
theorem Row.there {w : World} {g n c : Nat} {ss : List Sec} (h : Row w (.slice (some ⟨g, 0, none⟩) n c) ss) (i : Nat) (hi : i < ss.length) : w.there g (i * 256) 256 := by
  intro j hj
  have hl := h.lies i hi
  rcases h.2 with ⟨h0, _⟩ | ⟨g', cap, cur, h0, _, hg, hn, hm, hs, ht⟩
  · cases h0
  · cases h0
    refine ⟨?_, frozen_of_row w g _ cur TS hg⟩
    have hjl : j < (ss[i]).cells.length := by rw [Sec.cells_len]; exact hj
    rw [hl j _ (List.getElem?_eq_getElem hjl)]
    rfl

/-- What cells set one by one leave of a block. -/
theorem heap_setCells_other (b : Nat) : ∀ (vs : List Value) (o : Nat) (w : World) (k : Nat), k ≠ b → (w.setCells b o vs).heap[k]? = w.heap[k]?
  | [], _, _, _, _ => rfl
  | v :: r, o, w, k, h => by
    rw [World.setCells, heap_setCells_other b r (o + 1) _ k h]
    exact Below.heap_setCell w ⟨b, o, none⟩ v k h
theorem heap_setCells_same (b : Nat) (t : TypeId) : ∀ (vs : List Value) (o : Nat) (w : World) (cur : Array Value), w.heap[b]? = some (.cells cur t (0, 0)) → o + vs.length ≤ cur.size →
    (w.setCells b o vs).heap[b]? = some (.cells (cur.toList.take o ++ vs ++ cur.toList.drop (o + vs.length)).toArray t (0, 0))
  | [], o, w, cur, h, _ => by simpa [World.setCells] using h
  | v :: r, o, w, cur, h, hl => by
    have hl' : o < cur.size := by simp at hl; omega
    have h1 := heap_setCell_same w b o cur t v h
    rw [World.setCells, heap_setCells_same b t r (o + 1) _ _ h1 (by simp at hl ⊢; omega)]
    congr 2
    apply congrArg List.toArray
    have e1 : (cur.setIfInBounds o v).toList = cur.toList.set o v := by simp
    rw [e1, List.set_eq_take_append_cons_drop, if_pos (by simpa using hl')]
    have ht : (cur.toList.take o).length = o := by simp; omega
    generalize cur.toList.take o = A at ht ⊢
    have h2 : List.take (o + 1) (A ++ v :: List.drop (o + 1) cur.toList) = A ++ [v] := by
      rw [List.take_append, ht, List.take_of_length_le (by omega), show o + 1 - o = 1 by omega]; rfl
    have h3 : List.drop (o + 1 + r.length) (A ++ v :: List.drop (o + 1) cur.toList) = List.drop (o + (v :: r).length) cur.toList := by
      rw [List.drop_append, ht, List.drop_of_length_le (by omega), List.nil_append, show o + 1 + r.length - o = r.length + 1 by omega, List.drop_succ_cons, List.drop_drop]
      congr 1
      simp; omega
    rw [h2, h3]
    simp
theorem setCells_os (b : Nat) : ∀ (vs : List Value) (o : Nat) (w : World), (w.setCells b o vs).os = w.os ∧ (w.setCells b o vs).tape = w.tape ∧ (w.setCells b o vs).output = w.output ∧ (w.setCells b o vs).heap.size = w.heap.size
  | [], _, _ => ⟨rfl, rfl, rfl, rfl⟩
  | v :: r, o, w => by
    obtain ⟨h1, h2, h3, h4⟩ := setCells_os b r (o + 1) (w.setCell ⟨b, o, none⟩ v)
    exact ⟨h1, h2, h3, by rw [World.setCells, h4]; simp [World.setCell]⟩

theorem put_list (l x : List Value) (o L K : Nat) (hx : x.length = K) (h : o + K ≤ L) (hL : L ≤ l.length) :
    (l.take o ++ x ++ l.drop (o + x.length)).take L = (l.take L).take o ++ x ++ (l.take L).drop (o + K) := by
  have ho : (l.take o).length = o := by simp; omega
  rw [hx, List.take_append, List.take_append, List.length_append, ho, hx, List.take_of_length_le (l := l.take o) (by omega), List.take_of_length_le (l := x) (by omega), List.take_take, Nat.min_eq_left (by omega), List.drop_take]
/-- One sector is stored. -/
theorem Row.put {w : World} {g n c : Nat} {ss : List Sec} (h : Row w (.slice (some ⟨g, 0, none⟩) n c) ss) (i : Nat) (hi : i < ss.length) (s : Sec) : Row (w.setCells g (i * 256) s.cells) (.slice (some ⟨g, 0, none⟩) n c) (ss.set i s) := by
  have hl := h.1
  rcases h.2 with ⟨h0, _⟩ | ⟨g', cap, cur, h0, _, hg, hn, hm, hs, ht⟩
  · cases h0
  · cases h0
    have hfit : i * 256 + s.cells.length ≤ cur.size := by
      rw [s.cells_len, hs]
      have : (i + 1) * 256 ≤ c * 256 := Nat.mul_le_mul_right _ (show i + 1 ≤ c by omega)
      omega
    refine ⟨by rw [cellsOf_len], .inr ⟨g, c, _, by rw [List.length_set], Nat.zero_le _, heap_setCells_same g TS s.cells (i * 256) w cur hg hfit, by rw [List.length_set]; exact hn, hm, ?_, ?_⟩⟩
    · have h1 : (List.take (i * 256) cur.toList).length = i * 256 := by simp; omega
      have h2 : (List.drop (i * 256 + s.cells.length) cur.toList).length = cur.size - (i * 256 + s.cells.length) := by simp
      simp only [List.size_toArray, List.length_append, h1, h2]
      omega
    · rw [List.length_set, cellsOf_set ss i hi s, ← ht]
      have hL : ss.length * 256 ≤ cur.toList.length := by
        have h5 := Nat.mul_le_mul_right 256 hn
        have h6 : cur.toList.length = c * 256 := by rw [← hs]; exact Array.length_toList
        rw [h6]; exact h5
      have hi2 : i * 256 + 256 ≤ ss.length * 256 := by
        have h5 := Nat.mul_le_mul_right 256 (show i + 1 ≤ ss.length from hi)
        rwa [Nat.add_mul, Nat.one_mul] at h5
      exact put_list _ _ _ _ _ s.cells_len hi2 hL

end Go.Proofs.Ytkoalabacfjgbaa
