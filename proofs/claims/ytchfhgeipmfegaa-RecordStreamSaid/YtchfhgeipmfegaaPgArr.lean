
/-
  Sectors, told as 248 numbers: by value, in memory, a part of one as a slice of bytes; bytes copied into one.
-/
import Derived.Test.YtchfhgeipmfegaaPgSec
import Derived.Test.YtchfhgeipmfegaaWire2
import Derived.Test.YtchfhgeipmfegaaWords
import Derived.Laws.CopyOwn
namespace Go.Proofs.Ytchfhgeipmfegaa
open Go.RowKit
open Extern.Stop (cell)

/-- A sector of numbers. -/
def Sx (xs : List Int) : Sec := if h : xs.length = 248 then ⟨xs.map fun x => UInt8.ofNat x.toNat, by rw [List.length_map, h]⟩ else Sec.zero
/-- They are a sector's. -/
structure IsSec (xs : List Int) : Prop where
  len : xs.length = 248
  small : Wd.Small xs

theorem cell_of {x : Int} (h : 0 ≤ x ∧ x < 256) : cell (UInt8.ofNat x.toNat) = .int .u8 x := by
  obtain ⟨y, rfl⟩ := Int.eq_ofNat_of_zero_le h.1
  have : y % 256 = y := by omega
  simp [cell, UInt8.toNat_ofNat', this]
theorem Sx_bytes {xs : List Int} (h : xs.length = 248) : (Sx xs).bytes = xs.map fun x => UInt8.ofNat x.toNat := by simp [Sx, h]
theorem Sx_cells {xs : List Int} (h : IsSec xs) : (Sx xs).cells = xs.map (Value.int .u8) := by
  unfold Sec.cells
  rw [Sx_bytes h.len, List.map_map]
  apply List.map_congr_left
  intro x hx
  exact cell_of (h.small x hx)
theorem Sx_inj {xs ys : List Int} (h : IsSec xs) (k : IsSec ys) : Sx xs = Sx ys ↔ xs = ys := by
  constructor
  · intro e
    have e1 : xs.map (Value.int .u8) = ys.map (Value.int .u8) := by rw [← Sx_cells h, ← Sx_cells k, e]
    have e2 := congrArg (List.map fun v : Value => match v with | .int _ x => x | _ => 0) e1
    simpa [List.map_map, Function.comp_def] using e2
  · intro e; rw [e]
theorem Sx_zero : Sx (List.replicate 248 0) = Sec.zero := by
  have h : (List.replicate 248 (0 : Int)).length = 248 := List.length_replicate ..
  apply Sec.ext
  rw [Sx_bytes h, List.map_replicate]
  rfl
theorem zeros_sec : IsSec (List.replicate 248 0) := ⟨List.length_replicate .., fun x h => by rw [List.mem_replicate] at h; omega⟩

/-- A block that is a sector, read as bytes. -/
theorem Blk.byt {w : World} {g : Nat} {xs : List Int} (h : Blk w g TS (sec (Sx xs))) (k : IsSec xs) : Byt w (some ⟨g, 0, none⟩) 248 248 xs :=
  ⟨k.len, Nat.le_refl _, by simp only [maxLen]; omega, fun _ => ⟨g, 0, rfl, fun i hi => by
    rw [Nat.zero_add, h.cell i]
    unfold sec
    rw [Sx_cells k]
    simp [List.getD, k.len, hi]⟩, (fun h => by cases h), k.small⟩

/-- ys laid over xs from the place F on. -/
def lay (xs : List Int) (F : Nat) (ys : List Int) : List Int := xs.take F ++ (ys ++ xs.drop (F + ys.length))
theorem lay_sec {xs ys : List Int} {F : Nat} (h : IsSec xs) (k : Wd.Small ys) (hf : F + ys.length ≤ 248) : IsSec (lay xs F ys) :=
  ⟨by have := h.len; simp [lay]; omega, (h.small.take F).app (k.app (h.small.drop _))⟩

theorem lay_cells {xs ys : List Int} {F : Nat} (h : IsSec xs) (k : Wd.Small ys) (hf : F + ys.length ≤ 248) :
    ((sec (Sx xs)).toList.take F ++ (ys.map (Value.int .u8) ++ (sec (Sx xs)).toList.drop (F + (ys.map (Value.int .u8)).length))).toArray = sec (Sx (lay xs F ys)) := by
  rw [sec_list, Sx_cells h]
  unfold sec
  rw [Sx_cells (lay_sec h k hf)]
  simp [lay]

theorem bt4 : BT Try.prog 22 5 := ⟨Try.underlying22, by kernel_rfl⟩
theorem bt4_size : (Try.prog.info? 5).map (·.size) = some 1 := by kernel_rfl

/-- copy(sector's part, bytes). -/
theorem wpList_copy_sec {w : World} {ops : Array Oper} {rest : List Oper} {o : Oper} {a : Act} {Q : Exit → Act → World → Prop} (hgd : o.guard = none) (d s : Operand)
    (ho : o.op = .call { callee := .builtin .copy, args := #[d, s], argTypes := #[22, 22] }) {g F L C : Nat} {xs : List Int} (hd : a.eval d = .slice (some ⟨g, F, none⟩) L C) (hb : Blk w g TS (sec (Sx xs))) (hx : IsSec xs)
    {q : Option Addr} {m c : Nat} {ys : List Int} (hs : a.eval s = .slice q m c) (hy : Byt w q m c ys) (hm : 0 < m) (hL : m ≤ L) (hf : F + m ≤ 248)
    (h : wpList Try.prog ops Q rest (a.put o.dst (goInt m)) (w.setRow g (sec (Sx (lay xs F ys))))) : wpList Try.prog ops Q (o :: rest) a w := by
  obtain ⟨b, of, rfl, _⟩ := hy.at hm
  have hl := hy.len
  refine wpList_copy_own hgd d s _ _ ho 5 bt4.us bt4_size g F L C ⟨b, of, none⟩ m c hd hs (sec (Sx xs)) TS hb (ys.map (Value.int .u8)) (by rw [List.length_map, hl]; exact (Nat.min_eq_left hL).symm) hy.news (by rw [List.length_map, hl, sec_size]; exact hf) (u8s_oneCell _) ?_
  rw [lay_cells hx hy.small (by rw [hl]; exact hf)]
  simpa [hl] using h

/-- The same as one step of a region that draws its order. -/
theorem step_copy_sec {w : World} {ops : Array Oper} {o : Oper} {a : Act} {K : Act → World → Prop} {Q : Exit → Act → World → Prop} {E : Prop} (hgd : o.guard = none) (d s : Operand)
    (ho : o.op = .call { callee := .builtin .copy, args := #[d, s], argTypes := #[22, 22] }) {g F L C : Nat} {xs : List Int} (hd : a.eval d = .slice (some ⟨g, F, none⟩) L C) (hb : Blk w g TS (sec (Sx xs))) (hx : IsSec xs)
    {q : Option Addr} {m c : Nat} {ys : List Int} (hs : a.eval s = .slice q m c) (hy : Byt w q m c ys) (hm : 0 < m) (hL : m ≤ L) (hf : F + m ≤ 248)
    (h : K (a.put o.dst (goInt m)) (w.setRow g (sec (Sx (lay xs F ys))))) : if Region.wanted o (yielded ops a.tmps) = true then Oper.wp Try.prog o a w K Q else E := by
  have hw : Region.wanted o (yielded ops a.tmps) = true := by simp [Region.wanted, hgd]
  rw [if_pos hw]
  obtain ⟨b, of, rfl, _⟩ := hy.at hm
  have hl := hy.len
  have hrun := run_copy_row (P := Try.prog) w 22 22 o.type 5 g F L C ⟨b, of, none⟩ m c (sec (Sx xs)) TS (ys.map (Value.int .u8)) bt4.us bt4_size hb (by rw [List.length_map, hl]; exact (Nat.min_eq_left hL).symm) hy.news (by rw [List.length_map, hl, sec_size]; exact hf) (u8s_oneCell _)
  rw [List.append_assoc, lay_cells hx hy.small (by rw [hl]; exact hf), List.length_map, hl] at hrun
  unfold Oper.wp
  simp only [execOp, ho, resolve, invoke, builtin]
  simp [hd, hs, hrun, Result.andThen]
  exact h

/-- A sector is taken out of memory, put into memory; a result. -/
theorem wpList_load_x {ops : Array Oper} {rest : List Oper} {op : Oper} {a : Act} {w : World} {Q : Exit → Act → World → Prop} (hgd : op.guard = none) (x : Operand) (ho : op.op = .load TS x)
    {g : Nat} {s : Sec} (hb : Blk w g TS (sec s)) (hx : a.eval x = .pointer (some ⟨g, 0, none⟩))
    (h : wpList Try.prog ops Q rest (a.put op.dst (.agg (sec s))) w) : wpList Try.prog ops Q (op :: rest) a w :=
  wpList_load_row hgd TS x ho g hx TS (sec s) (0, 0) _ hb under_sec rfl (by rw [sec_size]; exact size_sec) h
theorem wp_load_x {op : Oper} {a : Act} {w : World} {K : Act → World → Prop} {Q : Exit → Act → World → Prop} (x : Operand) (ho : op.op = .load TS x)
    {g : Nat} {s : Sec} (hb : Blk w g TS (sec s)) (hx : a.eval x = .pointer (some ⟨g, 0, none⟩)) (h : K (a.put op.dst (.agg (sec s))) w) : op.wp Try.prog a w K Q :=
  wp_load_row TS x ho g hx TS (sec s) (0, 0) _ hb under_sec rfl (by rw [sec_size]; exact size_sec) h
theorem wpList_store_x {ops : Array Oper} {rest : List Oper} {op : Oper} {a : Act} {w : World} {Q : Exit → Act → World → Prop} (hgd : op.guard = none) (x y : Operand) (ho : op.op = .store TS x y)
    {g : Nat} {old s : Sec} (hb : Blk w g TS (sec old)) (hx : a.eval x = .pointer (some ⟨g, 0, none⟩)) (hy : a.eval y = .agg (sec s))
    (h : wpList Try.prog ops Q rest (a.put op.dst undef) (w.setRow g (sec s))) : wpList Try.prog ops Q (op :: rest) a w :=
  wpList_store_row hgd TS x y ho g (sec s) hx hy TS (sec old) hb (by rw [sec_size]; exact size_sec) (by rw [sec_size, sec_size]) (sec_one s) h
theorem results_x {fn : Func} {p : Tmp} (h : fn.results = #[.cell p TS]) (tmps : Array Value) (w : World) (g : Nat) (s : Sec)
    (hp : tmps.getD p undef = .pointer (some ⟨g, 0, none⟩)) (hb : Blk w g TS (sec s)) : (results fn tmps).run Try.prog w = .ok (.agg (sec s)) w :=
  results_cell_row h tmps w g TS (sec s) (0, 0) _ hp hb under_sec rfl (by rw [sec_size]; exact size_sec)
theorem results_x2 {fn : Func} {p q : Tmp} (h : fn.results = #[.cell p TS, .tmp q]) (tmps : Array Value) (w : World) (g : Nat) (s : Sec)
    (hp : tmps.getD p undef = .pointer (some ⟨g, 0, none⟩)) (hb : Blk w g TS (sec s)) : (results fn tmps).run Try.prog w = .ok (.tuple #[.agg (sec s), tmps.getD q undef]) w := by
  have hp' : tmps[p]?.getD undef = .pointer (some ⟨g, 0, none⟩) := by simpa using hp
  have hl := run_loadVar_row (P := Try.prog) w g TS TS (sec s) (0, 0) _ hb under_sec rfl (by rw [sec_size]; exact size_sec)
  simp [results, h, hp', asAddr, hl]
theorem wpList_build_x {ops : Array Oper} {rest : List Oper} {o : Oper} {a : Act} {w : World} {Q : Exit → Act → World → Prop} (hg : o.guard = none) (ho : o.op = .build TS #[])
    (h : wpList Try.prog ops Q rest (a.put o.dst (.agg (sec (Sx (List.replicate 248 0))))) w) : wpList Try.prog ops Q (o :: rest) a w := by
  rw [Sx_zero] at h
  have hb : Try.prog.built TS ((#[] : Array (Nat × Operand)).map fun (i, x) => (i, a.eval x)).toList = some (sec Sec.zero) := by simpa using built_zero
  exact wpList_build hg TS #[] ho (by rw [hb]; rfl) (by rw [hb]; exact h)

end Go.Proofs.Ytchfhgeipmfegaa
