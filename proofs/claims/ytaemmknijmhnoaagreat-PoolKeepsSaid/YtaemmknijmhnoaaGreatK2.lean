/-
  Texts, put together: Bits Blk Words Pag Sec Disk.
-/
import Derived.Laws.BitsAllLaws
import Derived.IntWalk
import Derived.Laws.Rows
import Derived.Laws.Tables
import Derived.Deep.WholeRow
import Derived.Test.YtaemmknijmhnoaaGreatProg
import Derived.WalkKit
import Derived.WalkSpells
import Derived.WalkLawsBesides
import Derived.Handy
import Derived.Laws.AppendOwnNone
import Derived.Deep.MidRow
import Derived.Deep.RegionLaw
import Derived.ProofKit
import Derived.Lib.Hide
import Derived.Stop.BytesEq
import Derived.Carry
import Derived.Laws.CopyOwn
import Derived.Maps.Own
import Derived.Maps.OwnOps
import Derived.Maps.OwnSet
import Derived.Maps.Views
import Derived.Test.YtaemmknijmhnoaaGreatK1
set_option linter.unusedVariables false
set_option linter.unusedSimpArgs false
/-
  The sums' mathematics, second part: the document's way (the highest bit first) is the program's (the lowest first); the table of half bytes; grids; words as numbers.
-/
namespace Go.Proofs.YtaemmknijmhnoaaGreat
namespace Cr

/-- A word as the number that a slot holds. -/
def U (s : W) : Int := (s.toNat : Int)
theorem U_lo (s : W) : 0 ≤ U s := by unfold U; omega
theorem U_hi (s : W) : U s < 4294967296 := by unfold U; have := s.isLt; omega
theorem U_lit (n : Nat) (h : n < 4294967296) : U (BitVec.ofNat 32 n) = (n : Int) := by unfold U; simp; omega
theorem U_of (x : Int) (h0 : 0 ≤ x) (h : x < 4294967296) : U (BitVec.ofNat 32 x.toNat) = x := by rw [U_lit _ (by omega)]; omega
theorem U_xor (a b : W) : bits .xor .u32 (U a) (U b) = U (a ^^^ b) := by
  unfold U; rw [u32_xor_nat _ _ a.isLt b.isLt, BitVec.toNat_xor]
theorem U_and (a b : W) : bits .and .u32 (U a) (U b) = U (a &&& b) := by
  unfold U; rw [u32_and_nat _ _ a.isLt b.isLt, BitVec.toNat_and]
theorem U_shr (a : W) (k : Nat) : U a / ((2 ^ k : Nat) : Int) = U (a >>> k) := by
  unfold U; rw [BitVec.toNat_ushiftRight, Nat.shiftRight_eq_div_pow]; simp

theorem U_half (a : W) : Int.ediv (U a) (2 : Int) = U (a >>> 1) := U_shr a 1
theorem U_half4 (a : W) : Int.ediv (U a) (16 : Int) = U (a >>> 4) := U_shr a 4
/-- The lowest bit, as a number. -/
theorem U_bit (a : W) : bits .and .u32 (U a) 1 = if a.getLsbD 0 then 1 else 0 := by
  have e : (1 : Int) = U 1#32 := rfl
  rw [e, U_and]
  have h : a &&& 1#32 = if a.getLsbD 0 then 1#32 else 0#32 := by
    apply BitVec.eq_of_getLsbD_eq
    intro i hi
    cases i with
    | zero => cases h : a.getLsbD 0 <;> simp only [BitVec.getLsbD_and, h, if_true, Bool.false_eq_true, if_false] <;> rfl
    | succ j => cases h : a.getLsbD 0 <;> simp
  rw [h]
  cases a.getLsbD 0 <;> rfl

/-- The table of half bytes. -/
def tab (i : Nat) : W := its 4 (BitVec.ofNat 32 i)
theorem its_clear (s : W) (h : s.getLsbD 0 = false) : nought s = s >>> 1 := by
  unfold nought
  rw [h]
  simp
theorem half (s : W) : its 4 s = (s >>> 4) ^^^ tab (s.toNat % 16) := by
  have e : s = (s &&& 4294967280#32) ^^^ BitVec.ofNat 32 (s.toNat % 16) := by
    apply BitVec.eq_of_getLsbD_eq
    intro i hi
    have h16 : s.toNat % 16 = s.toNat % 2 ^ 4 := rfl
    rw [BitVec.getLsbD_xor, BitVec.getLsbD_and, h16, BitVec.getLsbD_ofNat (x := s.toNat % 2 ^ 4), Nat.testBit_mod_two_pow]
    have hb : s.toNat.testBit i = s.getLsbD i := rfl
    rw [hb]
    have hm : (4294967280#32).getLsbD i = decide (4 ≤ i) := by
      have : ∀ j : Fin 32, (4294967280#32).getLsbD j.val = decide (4 ≤ j.val) := by decide
      exact this ⟨i, hi⟩
    rw [hm]
    by_cases h4 : i < 4
    · have : ¬ 4 ≤ i := by omega
      simp [h4, this, hi]
    · have : 4 ≤ i := by omega
      simp [h4, this, hi]
  have e2 : its 4 (s &&& 4294967280#32) = s >>> 4 := by
    simp only [its]
    have hg : ∀ j, j < 4 → ((s &&& 4294967280#32) >>> j).getLsbD 0 = false := by
      intro j hj
      rw [BitVec.getLsbD_ushiftRight, BitVec.getLsbD_and]
      have : j = 0 ∨ j = 1 ∨ j = 2 ∨ j = 3 := by omega
      rcases this with rfl | rfl | rfl | rfl <;> simp
    have hg0 : (s &&& 4294967280#32).getLsbD 0 = false := hg 0 (by omega)
    have hg1 := hg 1 (by omega)
    have hg2 := hg 2 (by omega)
    have hg3 := hg 3 (by omega)
    rw [its_clear (s &&& 4294967280#32) hg0, its_clear _ hg1, ← BitVec.shiftRight_add, its_clear _ hg2, ← BitVec.shiftRight_add, its_clear _ hg3, ← BitVec.shiftRight_add]
    apply BitVec.eq_of_getLsbD_eq
    intro i hi
    rw [BitVec.getLsbD_ushiftRight, BitVec.getLsbD_and, BitVec.getLsbD_ushiftRight]
    by_cases h : 4 + i < 32
    · have hm : (4294967280#32).getLsbD (1 + 1 + 1 + 1 + i) = true := by
        have : ∀ j : Fin 32, 4 ≤ j.val → (4294967280#32).getLsbD j.val = true := by decide
        exact this ⟨1 + 1 + 1 + 1 + i, by omega⟩ (by simp only []; omega)
      rw [hm, Bool.and_true]
    · rw [BitVec.getLsbD_of_ge _ _ (by omega), BitVec.getLsbD_of_ge _ _ (by omega)]; rfl
  rw [show its 4 s = its 4 ((s &&& 4294967280#32) ^^^ BitVec.ofNat 32 (s.toNat % 16)) from congrArg _ e, its_xor, e2]
  rfl
theorem byte_half (s : W) (x : Int) : byte s x = its 4 (its 4 (s ^^^ BitVec.ofNat 32 x.toNat)) := by rw [← its_add]; rfl

end Cr
end Go.Proofs.YtaemmknijmhnoaaGreat

/-
  A block that is known whole. Over whatever program.
-/
namespace Go.Proofs.YtaemmknijmhnoaaGreat
open Go.RowKit

/-- A block that is known whole. -/
def Blk (w : World) (g : Nat) (t : TypeId) (cs : Array Value) : Prop := w.heap[g]? = some (.cells cs t (0, 0))
theorem Blk.lt {w : World} {g : Nat} {t : TypeId} {cs : Array Value} (h : Blk w g t cs) : g < w.heap.size := (Array.getElem?_eq_some_iff.1 h).1
theorem Blk.cell {w : World} {g : Nat} {t : TypeId} {cs : Array Value} (h : Blk w g t cs) (i : Nat) : w.cell? ⟨g, i, none⟩ = cs[i]? := cell_of_row w g i cs t (0, 0) h
theorem Blk.frozen {w : World} {g : Nat} {t : TypeId} {cs : Array Value} (h : Blk w g t cs) (i : Nat) : w.frozen? ⟨g, i, none⟩ = false := frozen_of_row w g i cs t h
theorem Blk.new (w : World) (t : TypeId) (cs : Array Value) : Blk (w.alloc (.cells cs t)) w.heap.size t cs := heap_alloc_new w _
theorem Blk.alloc {w : World} {g : Nat} {t : TypeId} {cs : Array Value} (h : Blk w g t cs) (o : Obj) : Blk (w.alloc o) g t cs := (Below.heap_alloc w o g h.lt).trans h
theorem Blk.set {w : World} {g : Nat} {t : TypeId} {cs : Array Value} (h : Blk w g t cs) (i : Nat) (u : Value) : Blk (w.setCell ⟨g, i, none⟩ u) g t (cs.setIfInBounds i u) := heap_setCell_same w g i cs t u h
theorem Blk.far {w : World} {g : Nat} {t : TypeId} {cs : Array Value} (h : Blk w g t cs) {p : Addr} (hp : g ≠ p.block) (u : Value) : Blk (w.setCell p u) g t cs := (heap_setCell_other w p g u hp).trans h
theorem Blk.stays {w w' : World} {g : Nat} {t : TypeId} {cs : Array Value} (h : Blk w g t cs) (e : w'.heap[g]? = w.heap[g]?) : Blk w' g t cs := e.trans h
theorem Blk.gr {w w' : World} {g : Nat} {t : TypeId} {cs : Array Value} (h : Blk w g t cs) (e : Gr w w') : Blk w' g t cs := h.stays (e.block g h.lt)
theorem Blk.below {B : Nat} {w w' : World} {g : Nat} {t : TypeId} {cs : Array Value} (h : Blk w g t cs) (hb : Below B w w') (hg : g < B) : Blk w' g t cs := (hb.block g hg).trans h
theorem Blk.row {w : World} {g : Nat} {t : TypeId} {cs : Array Value} (h : Blk w g t cs) (cs' : Array Value) : Blk (w.setRow g cs') g t cs' := setRow_heap w g cs cs' t (0, 0) h
theorem Blk.heap {w w' : World} {g : Nat} {t : TypeId} {cs : Array Value} (h : Blk w g t cs) (e : w'.heap = w.heap) : Blk w' g t cs := by unfold Blk; rw [e]; exact h
abbrev TI : TypeId := 3

end Go.Proofs.YtaemmknijmhnoaaGreat

/-
  Arrays of words: a block of them in memory, taken out whole, put in whole, one of them read. Over whatever program.
-/
namespace Go.Proofs.YtaemmknijmhnoaaGreat
open Go.RowKit Cr

theorem ret_v {k : IntKind} {a b : Int} (h : a = b) : Value.int k a = .int k b := by rw [h]

/-- An array of words. -/
def words (n : Nat) (f : Nat → W) : Array Value := ((List.range n).map fun i => Value.int .u32 (U (f i))).toArray
theorem words_size (n : Nat) (f : Nat → W) : (words n f).size = n := by simp [words]
theorem words_get {n i : Nat} (f : Nat → W) (h : i < n) : (words n f)[i]? = some (.int .u32 (U (f i))) := by simp [words, h]
theorem words_one (n : Nat) (f : Nat → W) : (words n f).all (·.oneCell') = true := by
  rw [Array.all_eq_true_iff_forall_mem]
  intro v hv
  obtain ⟨i, _, rfl⟩ : ∃ i, i < n ∧ Value.int .u32 (U (f i)) = v := by simpa [words] using hv
  rfl
theorem words_congr {n : Nat} {f g : Nat → W} (h : ∀ i, i < n → f i = g i) : words n f = words n g := by
  unfold words
  congr 1
  apply List.map_congr_left
  intro i hi
  rw [h i (by simpa using hi)]
/-- One of them is set. -/
def put (f : Nat → W) (i : Nat) (s : W) : Nat → W := fun j => if j = i then s else f j
theorem words_put (n : Nat) (f : Nat → W) (i : Nat) (s : W) : (words n f).setIfInBounds i (.int .u32 (U s)) = words n (put f i s) := by
  apply Array.ext_getElem?
  intro j
  by_cases hj : j < n
  · rw [words_get _ hj, Array.getElem?_setIfInBounds]
    by_cases he : i = j
    · subst he; simp [words_size, hj, put]
    · rw [if_neg he, words_get _ hj]; simp [put, show ¬ j = i from fun e => he e.symm]
  · have h1 : ¬ j < (words n (put f i s)).size := by rw [words_size]; exact hj
    have h2 : ¬ j < ((words n f).setIfInBounds i (.int .u32 (U s))).size := by rw [Array.size_setIfInBounds, words_size]; exact hj
    rw [Array.getElem?_eq_none (by omega), Array.getElem?_eq_none (by omega)]

end Go.Proofs.YtaemmknijmhnoaaGreat

/-
  Pages: arrays of 248 bytes, by value, in memory, compared; rows of them.
-/
namespace Go.Proofs.YtaemmknijmhnoaaGreat
open Go.RowKit
open Extern.Stop (cell)

abbrev PTS : TypeId := 35

/-- A sector. -/
structure PSec where
  bytes : List UInt8
  len : bytes.length = 248

theorem PSec.ext {s t : PSec} (h : s.bytes = t.bytes) : s = t := by
  cases s; cases t; cases h; rfl
instance : DecidableEq PSec := fun s t => if h : s.bytes = t.bytes then isTrue (PSec.ext h) else isFalse (fun e => h (by rw [e]))

/-- Its cells. -/
def PSec.cells (s : PSec) : List Value := s.bytes.map cell
def Psec (s : PSec) : Array Value := s.cells.toArray
theorem PSec.cells_len (s : PSec) : s.cells.length = 248 := by unfold PSec.cells; rw [List.length_map, s.len]
theorem Psec_size (s : PSec) : (Psec s).size = 248 := by unfold Psec; simp [PSec.cells_len]
theorem Psec_list (s : PSec) : (Psec s).toList = s.cells := rfl
theorem PSec.one (s : PSec) : ∀ v ∈ s.cells, v.oneCell' = true := by
  intro v hv
  obtain ⟨x, _, rfl⟩ := List.mem_map.1 hv
  rfl
theorem Psec_one (s : PSec) : (Psec s).all (·.oneCell') = true := all_oneCell_toArray s.one

/-- No byte but 0. -/
def PSec.zero : PSec := ⟨List.replicate 248 0, List.length_replicate ..⟩
theorem Psize_sec : (Tryz.prog.info? PTS).map (·.size) = some 248 := by kernel_rfl
theorem Pzero_sec (w : World) : (zeroValue PTS).run Tryz.prog w = .ok (.agg (Psec PSec.zero)) w :=
  (zero_of_info (n := 248) (show (Tryz.prog.info? PTS).map (fun i => (i.zero, i.size)) = some (some (.agg (Psec PSec.zero)), 248) by kernel_rfl)).1 w
theorem Punder_sec : Tryz.prog.underlying PTS = some (.array 248 5) := Tryz.underlying35
theorem Psize_u8 (w : World) : (sizeOf 5).run Tryz.prog w = .ok 1 w := by
  have h : (Tryz.prog.info? 5).map (·.size) = some 1 := by kernel_rfl
  cases hq : Tryz.prog.info? 5 with
  | none => rw [hq] at h; cases h
  | some i => rw [hq] at h; simp at h; simp [sizeOf, typeInfo, hq, h]

/-- Two sectors, compared. -/
theorem Peqi_sec (s t : PSec) (w : World) : (Op.equalIn 10000 PTS (.agg (Psec s)) (.agg (Psec t))).run Tryz.prog w = .ok (decide (s = t)) w := by
  have h := run_equalIn_bytes (P := Tryz.prog) w 9998 PTS 5 248 Punder_sec Tryz.underlying5 Psize_u8 s.bytes t.bytes s.len t.len
  have e : (s.bytes == t.bytes) = decide (s = t) := by
    by_cases h : s = t
    · subst h; simp
    · have : ¬ s.bytes = t.bytes := fun e => h (PSec.ext e)
      simp [h, this]
  rw [← e]
  exact h
theorem Pneq_sec (s t : PSec) (w : World) : (binOp .neq PTS (.agg (Psec s)) (.agg (Psec t))).run Tryz.prog w = .ok (.bool (!decide (s = t))) w := by
  rw [run_neq_struct, Peqi_sec]; rfl

/-- What cells set one by one leave of a block. -/
theorem Pheap_setCells_other (b : Nat) : ∀ (vs : List Value) (o : Nat) (w : World) (k : Nat), k ≠ b → (w.setCells b o vs).heap[k]? = w.heap[k]?
  | [], _, _, _, _ => rfl
  | v :: r, o, w, k, h => by
    rw [World.setCells, Pheap_setCells_other b r (o + 1) _ k h]
    exact Below.heap_setCell w ⟨b, o, none⟩ v k h
theorem Pheap_setCells_same (b : Nat) (t : TypeId) : ∀ (vs : List Value) (o : Nat) (w : World) (cur : Array Value), w.heap[b]? = some (.cells cur t (0, 0)) → o + vs.length ≤ cur.size →
    (w.setCells b o vs).heap[b]? = some (.cells (cur.toList.take o ++ vs ++ cur.toList.drop (o + vs.length)).toArray t (0, 0))
  | [], o, w, cur, h, _ => by simpa [World.setCells] using h
  | v :: r, o, w, cur, h, hl => by
    have hl' : o < cur.size := by simp at hl; omega
    have h1 := heap_setCell_same w b o cur t v h
    rw [World.setCells, Pheap_setCells_same b t r (o + 1) _ _ h1 (by simp at hl ⊢; omega)]
    congr 2
    apply congrArg List.toArray
    have e1 : (cur.setIfInBounds o v).toList = cur.toList.set o v := by simp
    rw [e1, List.set_eq_take_append_cons_drop, if_pos (by simpa using hl')]
    have ht : (cur.toList.take o).length = o := by simp; omega
    generalize cur.toList.take o = A at ht ⊢
    have h2 : List.take (o + 1) (A ++ v :: List.drop (o + 1) cur.toList) = A ++ [v] := by
      rw [List.take_append, ht, List.take_of_length_le (by omega), show o + 1 - o = 1 by omega]; rfl
    have h3 : List.drop (o + 1 + r.length) (A ++ v :: List.drop (o + 1) cur.toList) = List.drop (o + (v :: r).length) cur.toList := by
      rw [List.drop_append, ht, List.drop_of_length_le (by omega), List.nil_append, show o + 1 + r.length - o = r.length + 1 by omega, List.drop_succ_cons, List.drop_drop]
      congr 1
      simp; omega
    rw [h2, h3]
    simp
theorem PsetCells_os (b : Nat) : ∀ (vs : List Value) (o : Nat) (w : World), (w.setCells b o vs).os = w.os ∧ (w.setCells b o vs).tape = w.tape ∧ (w.setCells b o vs).output = w.output ∧ (w.setCells b o vs).heap.size = w.heap.size
  | [], _, _ => ⟨rfl, rfl, rfl, rfl⟩
  | v :: r, o, w => by
    obtain ⟨h1, h2, h3, h4⟩ := PsetCells_os b r (o + 1) (w.setCell ⟨b, o, none⟩ v)
    exact ⟨h1, h2, h3, by rw [World.setCells, h4]; simp [World.setCell]⟩


end Go.Proofs.YtaemmknijmhnoaaGreat
namespace Go.Proofs.YtaemmknijmhnoaaGreat
open Go.RowKit
open Extern.Stop (cell)

/-- A sector of numbers. -/
def PSx (xs : List Int) : PSec := if h : xs.length = 248 then ⟨xs.map fun x => UInt8.ofNat x.toNat, by rw [List.length_map, h]⟩ else PSec.zero
/-- They are a sector's. -/
structure PIsSec (xs : List Int) : Prop where
  len : xs.length = 248
  small : Wd.Small xs

theorem Pcell_of {x : Int} (h : 0 ≤ x ∧ x < 256) : cell (UInt8.ofNat x.toNat) = .int .u8 x := by
  obtain ⟨y, rfl⟩ := Int.eq_ofNat_of_zero_le h.1
  have : y % 256 = y := by omega
  simp [cell, UInt8.toNat_ofNat', this]
theorem PSx_bytes {xs : List Int} (h : xs.length = 248) : (PSx xs).bytes = xs.map fun x => UInt8.ofNat x.toNat := by simp [PSx, h]
theorem PSx_cells {xs : List Int} (h : PIsSec xs) : (PSx xs).cells = xs.map (Value.int .u8) := by
  unfold PSec.cells
  rw [PSx_bytes h.len, List.map_map]
  apply List.map_congr_left
  intro x hx
  exact Pcell_of (h.small x hx)
theorem PSx_zero : PSx (List.replicate 248 0) = PSec.zero := by
  have h : (List.replicate 248 (0 : Int)).length = 248 := List.length_replicate ..
  apply PSec.ext
  rw [PSx_bytes h, List.map_replicate]
  rfl
/-- ys laid over xs from the place F on. -/
def Play (xs : List Int) (F : Nat) (ys : List Int) : List Int := xs.take F ++ (ys ++ xs.drop (F + ys.length))
theorem Play_sec {xs ys : List Int} {F : Nat} (h : PIsSec xs) (k : Wd.Small ys) (hf : F + ys.length ≤ 248) : PIsSec (Play xs F ys) :=
  ⟨by have := h.len; simp [Play]; omega, (h.small.take F).app (k.app (h.small.drop _))⟩

theorem Play_cells {xs ys : List Int} {F : Nat} (h : PIsSec xs) (k : Wd.Small ys) (hf : F + ys.length ≤ 248) :
    ((Psec (PSx xs)).toList.take F ++ (ys.map (Value.int .u8) ++ (Psec (PSx xs)).toList.drop (F + (ys.map (Value.int .u8)).length))).toArray = Psec (PSx (Play xs F ys)) := by
  rw [Psec_list, PSx_cells h]
  unfold Psec
  rw [PSx_cells (Play_sec h k hf)]
  simp [Play]

theorem Pbt4 : BT Tryz.prog 31 5 := ⟨Tryz.underlying31, by kernel_rfl⟩
theorem Pbt4_size : (Tryz.prog.info? 5).map (·.size) = some 1 := by kernel_rfl

/-- The same as one step of a region that draws its order. -/
theorem Pstep_copy_sec {w : World} {ops : Array Oper} {o : Oper} {a : Act} {K : Act → World → Prop} {Q : Exit → Act → World → Prop} {E : Prop} (hgd : o.guard = none) (d s : Operand)
    (ho : o.op = .call { callee := .builtin .copy, args := #[d, s], argTypes := #[31, 31] }) {g F L C : Nat} {xs : List Int} (hd : a.eval d = .slice (some ⟨g, F, none⟩) L C) (hb : Blk w g PTS (Psec (PSx xs))) (hx : PIsSec xs)
    {q : Option Addr} {m c : Nat} {ys : List Int} (hs : a.eval s = .slice q m c) (hy : Byt w q m c ys) (hm : 0 < m) (hL : m ≤ L) (hf : F + m ≤ 248)
    (h : K (a.put o.dst (goInt m)) (w.setRow g (Psec (PSx (Play xs F ys))))) : if Region.wanted o (yielded ops a.tmps) = true then Oper.wp Tryz.prog o a w K Q else E := by
  have hw : Region.wanted o (yielded ops a.tmps) = true := by simp [Region.wanted, hgd]
  rw [if_pos hw]
  obtain ⟨b, of, rfl, _⟩ := hy.at hm
  have hl := hy.len
  have hrun := run_copy_row (P := Tryz.prog) w 31 31 o.type 5 g F L C ⟨b, of, none⟩ m c (Psec (PSx xs)) PTS (ys.map (Value.int .u8)) Pbt4.us Pbt4_size hb (by rw [List.length_map, hl]; exact (Nat.min_eq_left hL).symm) hy.news (by rw [List.length_map, hl, Psec_size]; exact hf) (u8s_oneCell _)
  rw [List.append_assoc, Play_cells hx hy.small (by rw [hl]; exact hf), List.length_map, hl] at hrun
  unfold Oper.wp
  simp only [execOp, ho, resolve, invoke, builtin]
  simp [hd, hs, hrun, Result.andThen]
  exact h

/-- A sector is taken out of memory, put into memory; a result. -/
theorem PwpList_load_x {ops : Array Oper} {rest : List Oper} {op : Oper} {a : Act} {w : World} {Q : Exit → Act → World → Prop} (hgd : op.guard = none) (x : Operand) (ho : op.op = .load PTS x)
    {g : Nat} {s : PSec} (hb : Blk w g PTS (Psec s)) (hx : a.eval x = .pointer (some ⟨g, 0, none⟩))
    (h : wpList Tryz.prog ops Q rest (a.put op.dst (.agg (Psec s))) w) : wpList Tryz.prog ops Q (op :: rest) a w :=
  wpList_load_row hgd PTS x ho g hx PTS (Psec s) (0, 0) _ hb Punder_sec rfl (by rw [Psec_size]; exact Psize_sec) h
theorem PwpList_store_x {ops : Array Oper} {rest : List Oper} {op : Oper} {a : Act} {w : World} {Q : Exit → Act → World → Prop} (hgd : op.guard = none) (x y : Operand) (ho : op.op = .store PTS x y)
    {g : Nat} {old s : PSec} (hb : Blk w g PTS (Psec old)) (hx : a.eval x = .pointer (some ⟨g, 0, none⟩)) (hy : a.eval y = .agg (Psec s))
    (h : wpList Tryz.prog ops Q rest (a.put op.dst undef) (w.setRow g (Psec s))) : wpList Tryz.prog ops Q (op :: rest) a w :=
  wpList_store_row hgd PTS x y ho g (Psec s) hx hy PTS (Psec old) hb (by rw [Psec_size]; exact Psize_sec) (by rw [Psec_size, Psec_size]) (Psec_one s) h
theorem Presults_x {fn : Func} {p : Tmp} (h : fn.results = #[.cell p PTS]) (tmps : Array Value) (w : World) (g : Nat) (s : PSec)
    (hp : tmps.getD p undef = .pointer (some ⟨g, 0, none⟩)) (hb : Blk w g PTS (Psec s)) : (results fn tmps).run Tryz.prog w = .ok (.agg (Psec s)) w :=
  results_cell_row h tmps w g PTS (Psec s) (0, 0) _ hp hb Punder_sec rfl (by rw [Psec_size]; exact Psize_sec)
end Go.Proofs.YtaemmknijmhnoaaGreat

/-
  Sectors: arrays of 256 bytes, by value, in memory, compared; rows of them.
-/
namespace Go.Proofs.YtaemmknijmhnoaaGreat
open Go.RowKit
open Extern.Stop (cell)

abbrev TS : TypeId := 60

/-- A sector. -/
structure Sec where
  bytes : List UInt8
  len : bytes.length = 256

theorem Sec.ext {s t : Sec} (h : s.bytes = t.bytes) : s = t := by
  cases s; cases t; cases h; rfl
instance : DecidableEq Sec := fun s t => if h : s.bytes = t.bytes then isTrue (Sec.ext h) else isFalse (fun e => h (by rw [e]))

/-- Its cells. -/
def Sec.cells (s : Sec) : List Value := s.bytes.map cell
def sec (s : Sec) : Array Value := s.cells.toArray
theorem Sec.cells_len (s : Sec) : s.cells.length = 256 := by unfold Sec.cells; rw [List.length_map, s.len]
theorem sec_size (s : Sec) : (sec s).size = 256 := by unfold sec; simp [Sec.cells_len]
theorem sec_list (s : Sec) : (sec s).toList = s.cells := rfl
theorem Sec.one (s : Sec) : ∀ v ∈ s.cells, v.oneCell' = true := by
  intro v hv
  obtain ⟨x, _, rfl⟩ := List.mem_map.1 hv
  rfl
theorem sec_one (s : Sec) : (sec s).all (·.oneCell') = true := all_oneCell_toArray s.one

/-- No byte but 0. -/
def Sec.zero : Sec := ⟨List.replicate 256 0, List.length_replicate ..⟩
theorem info_sec : (Tryz.prog.info? TS).map (fun i => (i.zero, i.size, i.bytes)) = some (some (.agg (sec Sec.zero)), 256, 256) := by kernel_rfl
theorem size_sec : (Tryz.prog.info? TS).map (·.size) = some 256 := by kernel_rfl
theorem zero_sec (w : World) : (zeroValue TS).run Tryz.prog w = .ok (.agg (sec Sec.zero)) w :=
  (zero_of_info (n := 256) (show (Tryz.prog.info? TS).map (fun i => (i.zero, i.size)) = some (some (.agg (sec Sec.zero)), 256) by kernel_rfl)).1 w
theorem under_sec : Tryz.prog.underlying TS = some (.array 256 5) := Tryz.underlying60
theorem size_u8 (w : World) : (sizeOf 5).run Tryz.prog w = .ok 1 w := by
  have h : (Tryz.prog.info? 5).map (·.size) = some 1 := by kernel_rfl
  cases hq : Tryz.prog.info? 5 with
  | none => rw [hq] at h; cases h
  | some i => rw [hq] at h; simp at h; simp [sizeOf, typeInfo, hq, h]

/-- Many, one behind the other. -/
def cellsOf (ss : List Sec) : List Value := ss.flatMap Sec.cells
theorem cellsOf_len (ss : List Sec) : (cellsOf ss).length = ss.length * 256 := by
  induction ss with
  | nil => rfl
  | cons s r ih => unfold cellsOf at *; rw [List.flatMap_cons, List.length_append, ih, s.cells_len, List.length_cons]; omega
theorem cellsOf_app (ss ts : List Sec) : cellsOf (ss ++ ts) = cellsOf ss ++ cellsOf ts := by unfold cellsOf; exact List.flatMap_append
theorem cellsOf_one (s : Sec) : cellsOf [s] = s.cells := by unfold cellsOf; simp
theorem cellsOf_each (ss : List Sec) : ∀ v ∈ cellsOf ss, v.oneCell' = true := by
  intro v hv
  obtain ⟨s, _, h⟩ := List.mem_flatMap.1 hv
  exact s.one v h
theorem cellsOf_at : ∀ (ss : List Sec) (i : Nat) (h : i < ss.length) (j : Nat), j < 256 → (cellsOf ss)[i * 256 + j]? = (ss[i]).cells[j]?
  | s :: r, 0, _, j, hj => by
    unfold cellsOf
    rw [List.flatMap_cons, List.getElem?_append_left (by rw [s.cells_len]; omega)]
    simp
  | s :: r, i + 1, h, j, hj => by
    have ih := cellsOf_at r i (by simpa using h) j hj
    unfold cellsOf at *
    rw [List.flatMap_cons, List.getElem?_append_right (by rw [s.cells_len]; omega), s.cells_len, show (i + 1) * 256 + j - 256 = i * 256 + j by omega, ih]
    simp
theorem cellsOf_split (ss : List Sec) (i : Nat) : cellsOf ss = cellsOf (ss.take i) ++ cellsOf (ss.drop i) := by rw [← cellsOf_app, List.take_append_drop]
theorem cellsOf_take (ss : List Sec) (i : Nat) (h : i ≤ ss.length) : (cellsOf ss).take (i * 256) = cellsOf (ss.take i) := by
  rw [cellsOf_split ss i, List.take_left' (by rw [cellsOf_len, List.length_take, Nat.min_eq_left h])]
theorem cellsOf_drop (ss : List Sec) (i : Nat) (h : i ≤ ss.length) : (cellsOf ss).drop (i * 256) = cellsOf (ss.drop i) := by
  rw [cellsOf_split ss i, List.drop_left' (by rw [cellsOf_len, List.length_take, Nat.min_eq_left h])]
theorem cellsOf_set (ss : List Sec) (i : Nat) (h : i < ss.length) (s : Sec) : cellsOf (ss.set i s) = (cellsOf ss).take (i * 256) ++ s.cells ++ (cellsOf ss).drop (i * 256 + 256) := by
  rw [cellsOf_take ss i (by omega), show i * 256 + 256 = (i + 1) * 256 by omega, cellsOf_drop ss (i + 1) (by omega)]
  rw [List.set_eq_take_append_cons_drop, if_pos h, cellsOf_app, ← List.singleton_append, cellsOf_app, cellsOf_one, List.append_assoc]

/-- The slice value v is a row of sectors: nil, or at the head of a block. -/
def Row (w : World) (v : Value) (ss : List Sec) : Prop := w.ownsRow 0 TS 256 v ss.length (cellsOf ss)
theorem Row.empty (w : World) : Row w (.slice none 0 0) [] := World.ownsRow_nil _ _ _ _
theorem Row.form {w : World} {v : Value} {ss : List Sec} (h : Row w v ss) : (v = .slice none 0 0 ∧ ss = []) ∨ ∃ g c, v = .slice (some ⟨g, 0, none⟩) ss.length c ∧ g < w.heap.size ∧ ss.length ≤ c ∧ c ≤ maxLen := by
  rcases h.2 with ⟨rfl, h0⟩ | ⟨g, cap, cur, rfl, _, hg, hn, hm, _⟩
  · exact .inl ⟨rfl, List.eq_nil_of_length_eq_zero h0⟩
  · exact .inr ⟨g, cap, rfl, (Array.getElem?_eq_some_iff.1 hg).1, hn, hm⟩
/-- Where there is one: its block. -/
theorem Row.full {w : World} {v : Value} {ss : List Sec} (h : Row w v ss) (hn : ss ≠ []) : ∃ g c, v = .slice (some ⟨g, 0, none⟩) ss.length c ∧ g < w.heap.size ∧ ss.length ≤ c ∧ c ≤ maxLen := by
  rcases h.form with ⟨_, h0⟩ | h
  · exact absurd h0 hn
  · exact h
/-- The row stays while its own block does. -/
theorem Row.stays {w w' : World} {v : Value} {ss : List Sec} (h : Row w v ss) (hb : ∀ g, v.ownBlock = some g → w'.heap[g]? = w.heap[g]?) : Row w' v ss := by
  refine ⟨h.1, ?_⟩
  rcases h.2 with h2 | ⟨g, cap, cur, rfl, h0, hg, r⟩
  · exact .inl h2
  · exact .inr ⟨g, cap, cur, rfl, h0, (hb g rfl).trans hg, r⟩
theorem Row.lt {w : World} {v : Value} {ss : List Sec} (h : Row w v ss) : ∀ g, v.ownBlock = some g → g < w.heap.size := fun g hg => (World.ownsRow.lt h g hg).2
theorem Row.kept {w w' : World} {B : Nat} {v : Value} {ss : List Sec} (h : Row w v ss) (hb : Below B w w') (hB : ∀ g, v.ownBlock = some g → g < B) : Row w' v ss := h.stays fun g hg => hb.block g (hB g hg)
theorem Row.gr {w w' : World} {v : Value} {ss : List Sec} (h : Row w v ss) (hb : Below w.heap.size w w') : Row w' v ss := h.kept hb h.lt
/-- Its kind, by which it is told from other blocks. -/
theorem Row.kind {w : World} {v : Value} {ss : List Sec} (h : Row w v ss) {g : Nat} (hg : v.ownBlock = some g) : ∃ cs, w.heap[g]? = some (.cells cs TS (0, 0)) := by
  rcases h.2 with ⟨rfl, _⟩ | ⟨g', cap, cur, rfl, _, h2, _⟩
  · cases hg
  · cases hg; exact ⟨_, h2⟩

/-- One of them lies there. -/
theorem Row.lies {w : World} {g n c : Nat} {ss : List Sec} (h : Row w (.slice (some ⟨g, 0, none⟩) n c) ss) (i : Nat) (hi : i < ss.length) : w.rangeAt g (i * 256) (ss[i]).cells := by
  rcases h.2 with ⟨h0, _⟩ | ⟨g', cap, cur, h0, _, hg, hn, hm, hs, ht⟩
  · cases h0
  · cases h0
    intro j v hv
    have hj : j < 256 := by have := (List.getElem?_eq_some_iff.1 hv).1; rwa [Sec.cells_len] at this
    rw [← hv, ← cellsOf_at ss i hi j hj, cell_of_row w g _ cur TS (0, 0) hg, ← ht, List.getElem?_take, if_pos (by omega)]
    simp
theorem Row.there {w : World} {g n c : Nat} {ss : List Sec} (h : Row w (.slice (some ⟨g, 0, none⟩) n c) ss) (i : Nat) (hi : i < ss.length) : w.there g (i * 256) 256 := by
  intro j hj
  have hl := h.lies i hi
  rcases h.2 with ⟨h0, _⟩ | ⟨g', cap, cur, h0, _, hg, hn, hm, hs, ht⟩
  · cases h0
  · cases h0
    refine ⟨?_, frozen_of_row w g _ cur TS hg⟩
    have hjl : j < (ss[i]).cells.length := by rw [Sec.cells_len]; exact hj
    rw [hl j _ (List.getElem?_eq_getElem hjl)]
    rfl

/-- What cells set one by one leave of a block. -/
theorem heap_setCells_other (b : Nat) : ∀ (vs : List Value) (o : Nat) (w : World) (k : Nat), k ≠ b → (w.setCells b o vs).heap[k]? = w.heap[k]?
  | [], _, _, _, _ => rfl
  | v :: r, o, w, k, h => by
    rw [World.setCells, heap_setCells_other b r (o + 1) _ k h]
    exact Below.heap_setCell w ⟨b, o, none⟩ v k h
theorem heap_setCells_same (b : Nat) (t : TypeId) : ∀ (vs : List Value) (o : Nat) (w : World) (cur : Array Value), w.heap[b]? = some (.cells cur t (0, 0)) → o + vs.length ≤ cur.size →
    (w.setCells b o vs).heap[b]? = some (.cells (cur.toList.take o ++ vs ++ cur.toList.drop (o + vs.length)).toArray t (0, 0))
  | [], o, w, cur, h, _ => by simpa [World.setCells] using h
  | v :: r, o, w, cur, h, hl => by
    have hl' : o < cur.size := by simp at hl; omega
    have h1 := heap_setCell_same w b o cur t v h
    rw [World.setCells, heap_setCells_same b t r (o + 1) _ _ h1 (by simp at hl ⊢; omega)]
    congr 2
    apply congrArg List.toArray
    have e1 : (cur.setIfInBounds o v).toList = cur.toList.set o v := by simp
    rw [e1, List.set_eq_take_append_cons_drop, if_pos (by simpa using hl')]
    have ht : (cur.toList.take o).length = o := by simp; omega
    generalize cur.toList.take o = A at ht ⊢
    have h2 : List.take (o + 1) (A ++ v :: List.drop (o + 1) cur.toList) = A ++ [v] := by
      rw [List.take_append, ht, List.take_of_length_le (by omega), show o + 1 - o = 1 by omega]; rfl
    have h3 : List.drop (o + 1 + r.length) (A ++ v :: List.drop (o + 1) cur.toList) = List.drop (o + (v :: r).length) cur.toList := by
      rw [List.drop_append, ht, List.drop_of_length_le (by omega), List.nil_append, show o + 1 + r.length - o = r.length + 1 by omega, List.drop_succ_cons, List.drop_drop]
      congr 1
      simp; omega
    rw [h2, h3]
    simp
theorem setCells_os (b : Nat) : ∀ (vs : List Value) (o : Nat) (w : World), (w.setCells b o vs).os = w.os ∧ (w.setCells b o vs).tape = w.tape ∧ (w.setCells b o vs).output = w.output ∧ (w.setCells b o vs).heap.size = w.heap.size
  | [], _, _ => ⟨rfl, rfl, rfl, rfl⟩
  | v :: r, o, w => by
    obtain ⟨h1, h2, h3, h4⟩ := setCells_os b r (o + 1) (w.setCell ⟨b, o, none⟩ v)
    exact ⟨h1, h2, h3, by rw [World.setCells, h4]; simp [World.setCell]⟩

theorem put_list (l x : List Value) (o L K : Nat) (hx : x.length = K) (h : o + K ≤ L) (hL : L ≤ l.length) :
    (l.take o ++ x ++ l.drop (o + x.length)).take L = (l.take L).take o ++ x ++ (l.take L).drop (o + K) := by
  have ho : (l.take o).length = o := by simp; omega
  rw [hx, List.take_append, List.take_append, List.length_append, ho, hx, List.take_of_length_le (l := l.take o) (by omega), List.take_of_length_le (l := x) (by omega), List.take_take, Nat.min_eq_left (by omega), List.drop_take]
/-- One sector is stored. -/
theorem Row.put {w : World} {g n c : Nat} {ss : List Sec} (h : Row w (.slice (some ⟨g, 0, none⟩) n c) ss) (i : Nat) (hi : i < ss.length) (s : Sec) : Row (w.setCells g (i * 256) s.cells) (.slice (some ⟨g, 0, none⟩) n c) (ss.set i s) := by
  have hl := h.1
  rcases h.2 with ⟨h0, _⟩ | ⟨g', cap, cur, h0, _, hg, hn, hm, hs, ht⟩
  · cases h0
  · cases h0
    have hfit : i * 256 + s.cells.length ≤ cur.size := by
      rw [s.cells_len, hs]
      have : (i + 1) * 256 ≤ c * 256 := Nat.mul_le_mul_right _ (show i + 1 ≤ c by omega)
      omega
    refine ⟨by rw [cellsOf_len], .inr ⟨g, c, _, by rw [List.length_set], Nat.zero_le _, heap_setCells_same g TS s.cells (i * 256) w cur hg hfit, by rw [List.length_set]; exact hn, hm, ?_, ?_⟩⟩
    · have h1 : (List.take (i * 256) cur.toList).length = i * 256 := by simp; omega
      have h2 : (List.drop (i * 256 + s.cells.length) cur.toList).length = cur.size - (i * 256 + s.cells.length) := by simp
      simp only [List.size_toArray, List.length_append, h1, h2]
      omega
    · rw [List.length_set, cellsOf_set ss i hi s, ← ht]
      have hL : ss.length * 256 ≤ cur.toList.length := by
        have h5 := Nat.mul_le_mul_right 256 hn
        have h6 : cur.toList.length = c * 256 := by rw [← hs]; exact Array.length_toList
        rw [h6]; exact h5
      have hi2 : i * 256 + 256 ≤ ss.length * 256 := by
        have h5 := Nat.mul_le_mul_right 256 (show i + 1 ≤ ss.length from hi)
        rwa [Nat.add_mul, Nat.one_mul] at h5
      exact put_list _ _ _ _ _ s.cells_len hi2 hL

end Go.Proofs.YtaemmknijmhnoaaGreat

/-
  The disk: what it holds, said of a world; how that stays while other blocks turn.
-/
namespace Go.Proofs.YtaemmknijmhnoaaGreat
open Go.RowKit Go.Maps

theorem Blk.one {w : World} {g : Nat} {s : Sec} (h : Blk w g TS (sec s)) : w.rangeAt g 0 s.cells := fun j v hv => by
  rw [Nat.zero_add, h.cell j, ← hv]; simp [sec]
theorem below_setRow {B : Nat} {a w : World} (h : Below B a w) {g : Nat} (hg : B ≤ g) (cs : Array Value) : Below B a (w.setRow g cs) :=
  h.trans ⟨rfl, rfl, rfl, by simp, fun k hk => setRow_other w g k cs (by omega)⟩

/-- A sector is taken out of memory, put into memory. -/
theorem wpList_load_sec {ops : Array Oper} {rest : List Oper} {op : Oper} {a : Act} {w : World} {Q : Exit → Act → World → Prop} (hgd : op.guard = none) (x : Operand) (ho : op.op = .load TS x)
    {b o : Nat} {s : Sec} (hc : w.rangeAt b o s.cells) (hx : a.eval x = .pointer (some ⟨b, o, none⟩))
    (h : wpList Tryz.prog ops Q rest (a.put op.dst (.agg (sec s))) w) : wpList Tryz.prog ops Q (op :: rest) a w :=
  wpList_load_mid hgd TS x ho b o hx s.cells _ hc under_sec rfl (by rw [s.cells_len]; exact size_sec) h
theorem wpList_store_sec {ops : Array Oper} {rest : List Oper} {op : Oper} {a : Act} {w : World} {Q : Exit → Act → World → Prop} (hgd : op.guard = none) (x y : Operand) (ho : op.op = .store TS x y)
    {g : Nat} {old s : Sec} (hb : Blk w g TS (sec old)) (hx : a.eval x = .pointer (some ⟨g, 0, none⟩)) (hy : a.eval y = .agg (sec s))
    (h : wpList Tryz.prog ops Q rest (a.put op.dst undef) (w.setRow g (sec s))) : wpList Tryz.prog ops Q (op :: rest) a w :=
  wpList_store_row hgd TS x y ho g (sec s) hx hy TS (sec old) hb (by rw [sec_size]; exact size_sec) (by rw [sec_size, sec_size]) (sec_one s) h
theorem results_sec {fn : Func} {p : Tmp} (h : fn.results = #[.cell p TS]) (tmps : Array Value) (w : World) (g : Nat) (s : Sec)
    (hp : tmps.getD p undef = .pointer (some ⟨g, 0, none⟩)) (hb : Blk w g TS (sec s)) : (results fn tmps).run Tryz.prog w = .ok (.agg (sec s)) w :=
  results_cell_row h tmps w g TS (sec s) (0, 0) _ hp hb under_sec rfl (by rw [sec_size]; exact size_sec)

/-! ### What a disk is -/
structure St where
  ls : List Sec
  t : Nat → List Sec
  fuse : Int
  dead : Bool
  writes : Nat

structure St.Ok (s : St) : Prop where
  pos : 0 < s.ls.length
  most : s.ls.length ≤ 65536
  out : ∀ i, s.ls.length ≤ i → s.t i = []
  less : ∀ i, (s.t i).length ≤ s.writes
  lo : -9223372036854775808 ≤ s.fuse
  hi : s.fuse ≤ 9223372036854775807

/-- What a sector is read as. -/
def St.nw (s : St) (i : Nat) : Sec := (s.t i).getLastD (s.ls.getD i Sec.zero)

abbrev nilS : Value := .slice none 0 0
def key (i : Nat) : Lit := .int .i64 (i : Int)
/-- An element of the map reads as itself. -/
def eltR (v : Value) : Option (DataW Value × List MemPlace) := some (.held v, [])
abbrev TM : TypeId := 110
abbrev TL : TypeId := 50
abbrev TD : TypeId := 112

/-- What lies loose: block m is a map of the slices L. -/
def Loose (w : World) (m most : Nat) (N : Nat) (L : Nat → Value) (t : Nat → List Sec) : Prop :=
  ∃ (D : DataW Value) (n : Nat), w.ownsMap Tryz.prog TI eltR m n D ∧ n ≤ most ∧ (∀ i, i < N → D.atKey (key i) (.held nilS) = .held (L i)) ∧ (∀ i, i < N → (has D (key i) = true ↔ t i ≠ [])) ∧ (∀ k, has D k = true → ∃ i, i < N ∧ k = key i)

structure DkAt (w : World) (F : Nat → Prop) (b : Nat) (lv : Value) (m : Nat) (L : Nat → Value) (s : St) : Prop where
  ok : s.Ok
  blk : Blk w b TD #[lv, .map (some m), .int .i64 s.fuse, .bool s.dead, .int .i64 (s.writes : Int)]
  ls : Row w lv s.ls
  map : Loose w m (65536 + s.writes) s.ls.length L s.t
  rows : ∀ i, Row w (L i) (s.t i)
  apart : ∀ i j g, (L i).ownBlock = some g → (L j).ownBlock = some g → i = j
  apart0 : ∀ i g, (L i).ownBlock = some g → lv.ownBlock ≠ some g
  ownB : F b
  ownM : F m
  ownL : ∀ g, lv.ownBlock = some g → F g
  ownR : ∀ i g, (L i).ownBlock = some g → F g
  low : ∀ k, F k → k < w.heap.size

/-- The pointer p is a disk that is s; its blocks are F's. -/
def Dk (w : World) (F : Nat → Prop) (p : Value) (s : St) : Prop := ∃ b lv m L, p = .pointer (some ⟨b, 0, none⟩) ∧ DkAt w F b lv m L s

theorem ownsMap_stays {w w' : World} {P : Program} {k : TypeId} {R : Value → Option (DataW Value × List MemPlace)} {b n : Nat} {D : DataW Value} (h : w.ownsMap P k R b n D) (e : w'.heap[b]? = w.heap[b]?) : w'.ownsMap P k R b n D := by
  obtain ⟨es, clock, hb, r⟩ := h
  exact ⟨es, clock, e.trans hb, r⟩
theorem Loose.stays {w w' : World} {m q N : Nat} {L : Nat → Value} {t : Nat → List Sec} (h : Loose w m q N L t) (e : w'.heap[m]? = w.heap[m]?) : Loose w' m q N L t := by
  obtain ⟨D, n, ho, r⟩ := h
  exact ⟨D, n, ownsMap_stays ho e, r⟩
theorem Loose.lt {w : World} {m q N : Nat} {L : Nat → Value} {t : Nat → List Sec} (h : Loose w m q N L t) : m < w.heap.size := by
  obtain ⟨D, n, ho, r⟩ := h
  exact ho.lt

theorem DkAt.stays {w w' : World} {F : Nat → Prop} {b : Nat} {lv : Value} {m : Nat} {L : Nat → Value} {s : St} (h : DkAt w F b lv m L s) (e : ∀ k, F k → w'.heap[k]? = w.heap[k]?) (hs : w.heap.size ≤ w'.heap.size) : DkAt w' F b lv m L s :=
  ⟨h.ok, h.blk.stays (e b h.ownB), h.ls.stays fun g hg => e g (h.ownL g hg), h.map.stays (e m h.ownM), fun i => (h.rows i).stays fun g hg => e g (h.ownR i g hg), h.apart, h.apart0, h.ownB, h.ownM, h.ownL, h.ownR, fun k hk => Nat.lt_of_lt_of_le (h.low k hk) hs⟩
theorem DkAt.gr {w w' : World} {F : Nat → Prop} {b : Nat} {lv : Value} {m : Nat} {L : Nat → Value} {s : St} (h : DkAt w F b lv m L s) (e : Gr w w') : DkAt w' F b lv m L s := h.stays (fun k hk => e.block k (h.low k hk)) e.size
theorem Dk.stays {w w' : World} {F : Nat → Prop} {p : Value} {s : St} (h : Dk w F p s) (e : ∀ k, F k → w'.heap[k]? = w.heap[k]?) (hs : w.heap.size ≤ w'.heap.size) : Dk w' F p s := by
  obtain ⟨b, lv, m, L, hp, h⟩ := h
  exact ⟨b, lv, m, L, hp, h.stays e hs⟩
theorem Dk.gr {w w' : World} {F : Nat → Prop} {p : Value} {s : St} (h : Dk w F p s) (e : Gr w w') : Dk w' F p s := by
  obtain ⟨b, lv, m, L, hp, h⟩ := h
  exact ⟨b, lv, m, L, hp, h.gr e⟩
theorem Dk.low {w : World} {F : Nat → Prop} {p : Value} {s : St} (h : Dk w F p s) : ∀ k, F k → k < w.heap.size := by
  obtain ⟨b, lv, m, L, hp, h⟩ := h
  exact h.low
/-- Only blocks of F, and new ones, have turned; F' are blocks of F, and new ones. -/
structure Upd (F F' : Nat → Prop) (w w' : World) : Prop where
  os : w'.os = w.os
  tape : w'.tape = w.tape
  output : w'.output = w.output
  size : w.heap.size ≤ w'.heap.size
  block : ∀ k, k < w.heap.size → ¬ F k → w'.heap[k]? = w.heap[k]?
  fresh : ∀ k, F' k → F k ∨ w.heap.size ≤ k
theorem Upd.below {F F' : Nat → Prop} {w w' : World} (h : Upd F F' w w') {B : Nat} (hB : B ≤ w.heap.size) (hF : ∀ k, F k → B ≤ k) : Below B w w' :=
  ⟨h.os, h.tape, h.output, h.size, fun k hk => h.block k (by omega) fun hf => by have := hF k hf; omega⟩
theorem Upd.from {F F' : Nat → Prop} {w w' : World} (h : Upd F F' w w') {B : Nat} (hB : B ≤ w.heap.size) (hF : ∀ k, F k → B ≤ k) : ∀ k, F' k → B ≤ k := fun k hk => by
  rcases h.fresh k hk with h | h
  · exact hF k h
  · omega
/-- What lies apart stays, and lies apart still. -/
theorem Upd.other {F F' G : Nat → Prop} {w w' : World} (h : Upd F F' w w') (hG : ∀ k, G k → k < w.heap.size) (ha : ∀ k, F k → ¬ G k) : (∀ k, G k → w'.heap[k]? = w.heap[k]?) ∧ ∀ k, F' k → ¬ G k :=
  ⟨fun k hk => h.block k (hG k hk) fun hf => ha k hf hk, fun k hk hg => by
    rcases h.fresh k hk with h1 | h1
    · exact ha k h1 hg
    · have := hG k hg; omega⟩
theorem Upd.of_gr {F : Nat → Prop} {w w' : World} (h : Gr w w') : Upd F F w w' := ⟨h.os, h.tape, h.output, h.size, fun k hk _ => h.block k hk, fun k hk => .inl hk⟩

/-- The look-up of what lies loose at a place. -/
theorem Loose.look {w : World} {m q N : Nat} {L : Nat → Value} {t : Nat → List Sec} (h : Loose w m q N L t) (i : Nat) (hi : i < N) (hN : N ≤ 65536) :
    (Instr.lookup TM (.map (some m)) (.int .i64 (i : Int)) false).run Tryz.prog w = .ok (L i) w := by
  obtain ⟨D, n, ho, hn, ha, _, _⟩ := h
  obtain ⟨v, ps, hr, hv⟩ := ho.lookup (t := TM) (e := TL) (int_keyed Tryz.underlying3) Tryz.underlying110 (z := nilS) (show (zeroValue TL).run Tryz.prog w = .ok nilS w from Tryz.zeroValue50 w) (zd := .held nilS) (zp := []) rfl (key := .int .i64 (i : Int)) (kl := key i)
    (keyOf_int_mk Tryz.underlying3 (WalkArith.wf_i64 (by omega)))
  rw [ha i hi] at hv
  simp only [eltR, Option.some.injEq, Prod.mk.injEq, DataW.held.injEq] at hv
  rw [hr, hv.1]

end Go.Proofs.YtaemmknijmhnoaaGreat

