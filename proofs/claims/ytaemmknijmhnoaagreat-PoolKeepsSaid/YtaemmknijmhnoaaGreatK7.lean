/-
  Texts, put together: Arr FillS Pool3 Pool4 Ly Places Block Outer Clone.
-/
import Derived.Laws.CopyOwn
import Derived.Test.YtaemmknijmhnoaaGreatProg
import Derived.Laws.Tables
import Derived.RowKit
import Derived.Deep.RegionHeld3
import Derived.BigQuiet
import Derived.Deep.DeepCutAuto
import Derived.Test.YtaemmknijmhnoaaGreatK1
import Derived.Test.YtaemmknijmhnoaaGreatK2
import Derived.Test.YtaemmknijmhnoaaGreatK3
import Derived.Test.YtaemmknijmhnoaaGreatK4
import Derived.Test.YtaemmknijmhnoaaGreatK6
set_option linter.unusedVariables false
set_option linter.unusedSimpArgs false
/-
  Sectors, told as 256 numbers: by value, in memory, a part of one as a slice of bytes; bytes copied into one.
-/
namespace Go.Proofs.YtaemmknijmhnoaaGreat
open Go.RowKit
open Extern.Stop (cell)

/-- A sector of numbers. -/
def Sx (xs : List Int) : Sec := if h : xs.length = 256 then ⟨xs.map fun x => UInt8.ofNat x.toNat, by rw [List.length_map, h]⟩ else Sec.zero
/-- They are a sector's. -/
structure IsSec (xs : List Int) : Prop where
  len : xs.length = 256
  small : Wd.Small xs

theorem cell_of {x : Int} (h : 0 ≤ x ∧ x < 256) : cell (UInt8.ofNat x.toNat) = .int .u8 x := by
  obtain ⟨y, rfl⟩ := Int.eq_ofNat_of_zero_le h.1
  have : y % 256 = y := by omega
  simp [cell, UInt8.toNat_ofNat', this]
theorem Sx_bytes {xs : List Int} (h : xs.length = 256) : (Sx xs).bytes = xs.map fun x => UInt8.ofNat x.toNat := by simp [Sx, h]
theorem Sx_cells {xs : List Int} (h : IsSec xs) : (Sx xs).cells = xs.map (Value.int .u8) := by
  unfold Sec.cells
  rw [Sx_bytes h.len, List.map_map]
  apply List.map_congr_left
  intro x hx
  exact cell_of (h.small x hx)
theorem Sx_inj {xs ys : List Int} (h : IsSec xs) (k : IsSec ys) : Sx xs = Sx ys ↔ xs = ys := by
  constructor
  · intro e
    have e1 : xs.map (Value.int .u8) = ys.map (Value.int .u8) := by rw [← Sx_cells h, ← Sx_cells k, e]
    have e2 := congrArg (List.map fun v : Value => match v with | .int _ x => x | _ => 0) e1
    simpa [List.map_map, Function.comp_def] using e2
  · intro e; rw [e]
theorem Sx_zero : Sx (List.replicate 256 0) = Sec.zero := by
  have h : (List.replicate 256 (0 : Int)).length = 256 := List.length_replicate ..
  apply Sec.ext
  rw [Sx_bytes h, List.map_replicate]
  rfl
theorem zeros_sec : IsSec (List.replicate 256 0) := ⟨List.length_replicate .., fun x h => by rw [List.mem_replicate] at h; omega⟩

/-- A block that is a sector, read as bytes. -/
theorem Blk.byt {w : World} {g : Nat} {xs : List Int} (h : Blk w g TS (sec (Sx xs))) (k : IsSec xs) : Byt w (some ⟨g, 0, none⟩) 256 256 xs :=
  ⟨k.len, Nat.le_refl _, by simp only [maxLen]; omega, fun _ => ⟨g, 0, rfl, fun i hi => by
    rw [Nat.zero_add, h.cell i]
    unfold sec
    rw [Sx_cells k]
    simp [List.getD, k.len, hi]⟩, (fun h => by cases h), k.small⟩

/-- ys laid over xs from the place F on. -/
def lay (xs : List Int) (F : Nat) (ys : List Int) : List Int := xs.take F ++ (ys ++ xs.drop (F + ys.length))
theorem lay_sec {xs ys : List Int} {F : Nat} (h : IsSec xs) (k : Wd.Small ys) (hf : F + ys.length ≤ 256) : IsSec (lay xs F ys) :=
  ⟨by have := h.len; simp [lay]; omega, (h.small.take F).app (k.app (h.small.drop _))⟩

theorem lay_cells {xs ys : List Int} {F : Nat} (h : IsSec xs) (k : Wd.Small ys) (hf : F + ys.length ≤ 256) :
    ((sec (Sx xs)).toList.take F ++ (ys.map (Value.int .u8) ++ (sec (Sx xs)).toList.drop (F + (ys.map (Value.int .u8)).length))).toArray = sec (Sx (lay xs F ys)) := by
  rw [sec_list, Sx_cells h]
  unfold sec
  rw [Sx_cells (lay_sec h k hf)]
  simp [lay]

theorem bt4 : BT Tryz.prog 31 5 := ⟨Tryz.underlying31, by kernel_rfl⟩
theorem bt4_size : (Tryz.prog.info? 5).map (·.size) = some 1 := by kernel_rfl

/-- The same as one step of a region that draws its order. -/
theorem step_copy_sec {w : World} {ops : Array Oper} {o : Oper} {a : Act} {K : Act → World → Prop} {Q : Exit → Act → World → Prop} {E : Prop} (hgd : o.guard = none) (d s : Operand)
    (ho : o.op = .call { callee := .builtin .copy, args := #[d, s], argTypes := #[31, 31] }) {g F L C : Nat} {xs : List Int} (hd : a.eval d = .slice (some ⟨g, F, none⟩) L C) (hb : Blk w g TS (sec (Sx xs))) (hx : IsSec xs)
    {q : Option Addr} {m c : Nat} {ys : List Int} (hs : a.eval s = .slice q m c) (hy : Byt w q m c ys) (hm : 0 < m) (hL : m ≤ L) (hf : F + m ≤ 256)
    (h : K (a.put o.dst (goInt m)) (w.setRow g (sec (Sx (lay xs F ys))))) : if Region.wanted o (yielded ops a.tmps) = true then Oper.wp Tryz.prog o a w K Q else E := by
  have hw : Region.wanted o (yielded ops a.tmps) = true := by simp [Region.wanted, hgd]
  rw [if_pos hw]
  obtain ⟨b, of, rfl, _⟩ := hy.at hm
  have hl := hy.len
  have hrun := run_copy_row (P := Tryz.prog) w 31 31 o.type 5 g F L C ⟨b, of, none⟩ m c (sec (Sx xs)) TS (ys.map (Value.int .u8)) bt4.us bt4_size hb (by rw [List.length_map, hl]; exact (Nat.min_eq_left hL).symm) hy.news (by rw [List.length_map, hl, sec_size]; exact hf) (u8s_oneCell _)
  rw [List.append_assoc, lay_cells hx hy.small (by rw [hl]; exact hf), List.length_map, hl] at hrun
  unfold Oper.wp
  simp only [execOp, ho, resolve, invoke, builtin, hd, hs]
  simp [hd, hs, hrun, Result.andThen]
  exact h

/-- A sector is taken out of memory, put into memory; a result. -/
theorem wpList_load_x {ops : Array Oper} {rest : List Oper} {op : Oper} {a : Act} {w : World} {Q : Exit → Act → World → Prop} (hgd : op.guard = none) (x : Operand) (ho : op.op = .load TS x)
    {g : Nat} {s : Sec} (hb : Blk w g TS (sec s)) (hx : a.eval x = .pointer (some ⟨g, 0, none⟩))
    (h : wpList Tryz.prog ops Q rest (a.put op.dst (.agg (sec s))) w) : wpList Tryz.prog ops Q (op :: rest) a w :=
  wpList_load_row hgd TS x ho g hx TS (sec s) (0, 0) _ hb under_sec rfl (by rw [sec_size]; exact size_sec) h
theorem wp_load_x {op : Oper} {a : Act} {w : World} {K : Act → World → Prop} {Q : Exit → Act → World → Prop} (x : Operand) (ho : op.op = .load TS x)
    {g : Nat} {s : Sec} (hb : Blk w g TS (sec s)) (hx : a.eval x = .pointer (some ⟨g, 0, none⟩)) (h : K (a.put op.dst (.agg (sec s))) w) : op.wp Tryz.prog a w K Q :=
  wp_load_row TS x ho g hx TS (sec s) (0, 0) _ hb under_sec rfl (by rw [sec_size]; exact size_sec) h
theorem wpList_store_x {ops : Array Oper} {rest : List Oper} {op : Oper} {a : Act} {w : World} {Q : Exit → Act → World → Prop} (hgd : op.guard = none) (x y : Operand) (ho : op.op = .store TS x y)
    {g : Nat} {old s : Sec} (hb : Blk w g TS (sec old)) (hx : a.eval x = .pointer (some ⟨g, 0, none⟩)) (hy : a.eval y = .agg (sec s))
    (h : wpList Tryz.prog ops Q rest (a.put op.dst undef) (w.setRow g (sec s))) : wpList Tryz.prog ops Q (op :: rest) a w :=
  wpList_store_row hgd TS x y ho g (sec s) hx hy TS (sec old) hb (by rw [sec_size]; exact size_sec) (by rw [sec_size, sec_size]) (sec_one s) h
theorem results_x {fn : Func} {p : Tmp} (h : fn.results = #[.cell p TS]) (tmps : Array Value) (w : World) (g : Nat) (s : Sec)
    (hp : tmps.getD p undef = .pointer (some ⟨g, 0, none⟩)) (hb : Blk w g TS (sec s)) : (results fn tmps).run Tryz.prog w = .ok (.agg (sec s)) w :=
  results_cell_row h tmps w g TS (sec s) (0, 0) _ hp hb under_sec rfl (by rw [sec_size]; exact size_sec)
end Go.Proofs.YtaemmknijmhnoaaGreat

/-
  A struct that is built, of which a field is an array: what fill does with a part of many cells. Over whatever program.
-/
namespace Go.Proofs.YtaemmknijmhnoaaGreat
open Go.RowKit

theorem fold_list : ∀ (vs : List Value) (k off : Nat) (cs : Array Value), off + k + vs.length ≤ cs.size →
    ((vs.zipIdx k).foldl (fun (cs : Array Value) (p : Value × Nat) => cs.setIfInBounds (off + p.2) p.1) cs).toList = cs.toList.take (off + k) ++ vs ++ cs.toList.drop (off + k + vs.length)
  | [], k, off, cs, _ => by simp
  | v :: r, k, off, cs, h => by
    have hs : off + k < cs.toList.length := by simp at h ⊢; omega
    rw [List.zipIdx_cons, List.foldl_cons]
    have ih := fold_list r (k + 1) off (cs.setIfInBounds (off + k) v) (by simp at h ⊢; omega)
    rw [ih, Array.toList_setIfInBounds]
    have e1 : (cs.toList.set (off + k) v).take (off + (k + 1)) = cs.toList.take (off + k) ++ [v] := by
      have hs2 : off + k < (cs.toList.set (off + k) v).length := by rw [List.length_set]; exact hs
      rw [show off + (k + 1) = off + k + 1 from rfl, List.take_succ_eq_append_getElem hs2, List.take_set_of_le (Nat.le_refl _), List.getElem_set_self]
    have e2 : (cs.toList.set (off + k) v).drop (off + (k + 1) + r.length) = cs.toList.drop (off + k + (v :: r).length) := by
      rw [List.drop_set_of_lt (by omega)]
      congr 1
      simp
      omega
    rw [e1, e2]
    simp
theorem fill_part (vs : List Value) (off : Nat) (cs : Array Value) (h : off + vs.length ≤ cs.size) :
    vs.toArray.zipIdx.foldl (fun (cs : Array Value) (x : Value × Nat) => match x with | (c, j) => cs.setIfInBounds (off + j) c) cs = (cs.toList.take off ++ vs ++ cs.toList.drop (off + vs.length)).toArray := by
  have h1 := fold_list vs 0 off cs (by omega)
  rw [← Array.toList_inj]
  rw [show off + 0 = off from rfl] at h1
  rw [← h1, ← Array.foldl_toList, Array.toList_zipIdx]
end Go.Proofs.YtaemmknijmhnoaaGreat

/-
  The code's pool: what can be asked; it is let go; a page as its sector says it, and back.
-/
namespace Go.Proofs.YtaemmknijmhnoaaGreat
open Go.RowKit Go.Maps

section
variable {w w' : World} {b m n : Nat} {pd pl : Value} {B : Nat → Option Nat} {P : Pl}
set_option maxRecDepth 100000 in
theorem pasked_any {F : Nat → Prop} {s : St} (h : PlAt w b pd pl m n B P) (hd : Dk w F pd s) (i : Int) : Calls Tryz.prog 40 #[.pointer (some ⟨b, 0, none⟩), .int .i64 i] w fun e w' => e = .returned (.int .i64 (askE s.ls.length i)) ∧ w = w' := by
  have HM := Lib.hid (pmissing_no h)
  have HS := Lib.hid (Sectors_any w hd)
  have c0 := h.c6.1
  obtain ⟨d, rfl⟩ := h.dsk
  obtain ⟨N, hN⟩ : ∃ N, N = s.ls.length := ⟨_, rfl⟩
  rw [← hN] at HS ⊢
  clear h hd hN
  unfold askE
  by_cases h0 : i < 0
  · rw [if_pos (Or.inl h0)]
    have d0 : decide (i < 0) = true := decide_eq_true h0
    clear h0
    go_enter Tryz.func40, Tryz.ntmps40
    go_wp2_with fail
    refine HM.out.mono ?_
    rintro e w1 ⟨rfl, rfl⟩
    go_wp2_with fail
    go_ret
    exact ⟨rfl, rfl⟩
  · have d0 : decide (i < 0) = false := decide_eq_false h0
    by_cases h1 : (N : Int) ≤ i
    · rw [if_pos (Or.inr h1)]
      have d1 : decide ((N : Int) ≤ i) = true := decide_eq_true h1
      clear h0 h1
      go_enter Tryz.func40, Tryz.ntmps40
      go_wp2_with fail
      refine HM.out.mono ?_
      rintro e w1 ⟨rfl, rfl⟩
      go_wp2_with fail
      refine HS.out.mono ?_
      rintro e w1 ⟨rfl, rfl⟩
      go_wp2_with fail
      go_ret
      exact ⟨rfl, rfl⟩
    · rw [if_neg (by omega)]
      have d1 : decide ((N : Int) ≤ i) = false := decide_eq_false h1
      clear h0 h1
      go_enter Tryz.func40, Tryz.ntmps40
      go_wp2_with fail
      refine HM.out.mono ?_
      rintro e w1 ⟨rfl, rfl⟩
      go_wp2_with fail
      refine HS.out.mono ?_
      rintro e w1 ⟨rfl, rfl⟩
      go_wp2_with fail
      go_ret
      exact ⟨rfl, rfl⟩
end
/-- A slice that is taken as an array. -/
theorem run_arrayAt {P : Program} (arr n e : Nat) (hu : P.underlying arr = some (.array n e)) (a : Option Addr) (len cap : Nat) (h : n ≤ len) (w : World) : (Instr.arrayAt arr (.slice a len cap)).run P w = .ok (.pointer a) w := by
  have h2 : ¬ len < n := by omega
  simp [Instr.arrayAt, run_underlying hu, h2]
/-- A page of noughts, as a frame's first cells. -/
def frZ : List Value := List.replicate 248 (Value.int .u8 0)
theorem frZ_len : frZ.length = 248 := List.length_replicate
/-- A frame that is built of a page and its number. -/
theorem built_fr (x : PSec) (n : Int) : Tryz.prog.built TFr [(0, .agg x.cells.toArray), (1, .int .u64 n)] = some (x.cells ++ [Value.int .u64 n, Value.int .u64 0, Value.bool false, Value.bool false]).toArray := by
  have hz0 : (Tryz.prog.info? TFr).map (·.zero) = some (some (.agg ((frZ ++ [Value.int .u64 0, Value.int .u64 0, Value.bool false, Value.bool false]).toArray))) := by kernel_rfl
  obtain ⟨it, hit, hz⟩ : ∃ it, Tryz.prog.info? TFr = some it ∧ it.zero = some (.agg ((frZ ++ [Value.int .u64 0, Value.int .u64 0, Value.bool false, Value.bool false]).toArray)) := by
    cases h : Tryz.prog.info? TFr with
    | none => rw [h] at hz0; cases hz0
    | some it => rw [h] at hz0; exact ⟨it, rfl, Option.some.inj hz0⟩
  obtain ⟨fs, hfs, hm⟩ : ∃ fs : Array Field, Tryz.prog.underlying TFr = some (.struct fs) ∧ fs.toList.mapM (fun f => (Tryz.prog.info? f.type).map fun i => (f.offset, i.size)) = some [(0, 248), (248, 1), (249, 1), (250, 1), (251, 1)] := ⟨_, Tryz.underlying91, by kernel_rfl⟩
  unfold Program.built
  rw [hit, hfs]
  simp only [hz]
  rw [hm]
  have hx := x.cells_len
  have hf := fill_part x.cells 0 (frZ ++ [Value.int .u64 0, Value.int .u64 0, Value.bool false, Value.bool false]).toArray (by rw [hx, List.size_toArray, List.length_append, frZ_len]; exact Nat.le_add_right _ _)
  have hs : (Value.agg x.cells.toArray).cells = x.cells.toArray := rfl
  have hd : (frZ ++ [Value.int .u64 0, Value.int .u64 0, Value.bool false, Value.bool false]).drop (0 + x.cells.length) = [Value.int .u64 0, Value.int .u64 0, Value.bool false, Value.bool false] := by
    rw [hx, Nat.zero_add]
    exact List.drop_left' frZ_len
  rw [hd] at hf
  have hf2 : List.foldl (fun (cs : Array Value) (p : Value × Nat) => cs.setIfInBounds p.2 p.1) (frZ ++ [Value.int .u64 0, Value.int .u64 0, Value.bool false, Value.bool false]).toArray x.cells.zipIdx = (x.cells ++ [Value.int .u64 0, Value.int .u64 0, Value.bool false, Value.bool false]).toArray := by
    simpa using hf
  have hb : ¬ (248 + 1 > (x.cells ++ [Value.int .u64 0, Value.int .u64 0, Value.bool false, Value.bool false]).toArray.size) := by rw [List.size_toArray, List.length_append, hx]; decide
  have hset : (x.cells ++ [Value.int .u64 0, Value.int .u64 0, Value.bool false, Value.bool false]).toArray.setIfInBounds 248 (.int .u64 n) = (x.cells ++ [Value.int .u64 n, Value.int .u64 0, Value.bool false, Value.bool false]).toArray := by
    rw [List.setIfInBounds_toArray, List.set_append_right _ _ (by rw [hx]; exact Nat.le_refl _), hx]
    rfl
  simp [Instr.fill, Value.cells, hx, frZ_len]
  rw [hf2]
  exact ⟨by rw [List.size_toArray, List.length_append, hx]; decide, hset⟩
/-- A page's frame as its sector says it. -/
def frS (xs : List Int) : PFr := ⟨xs.drop 8, Wd.dec (xs.take 8), 0, false, false⟩
theorem frS_in {xs : List Int} (h : IsSec xs) : (frS xs).In := by
  refine ⟨⟨by show (xs.drop 8).length = 248; rw [List.length_drop, h.len], h.small.drop 8⟩, ?_, by show (0 : Nat) ≤ _; omega⟩
  have h1 := Wd.dec_lt _ (h.small.take 8)
  have h2 : (xs.take 8).length = 8 := by rw [List.length_take, h.len]; rfl
  rw [h2] at h1
  show Wd.dec (xs.take 8) ≤ _
  omega
def RetFr (f : PFr) (w : World) (e : Ending) (w' : World) : Prop := ∃ c, e = .returned (.pointer (some ⟨c, 0, none⟩)) ∧ Blk w' c TFr f.cells ∧ w.heap.size ≤ c ∧ Gr w w'
end Go.Proofs.YtaemmknijmhnoaaGreat

/-
  The code's pool: a page as its sector says it.
-/
namespace Go.Proofs.YtaemmknijmhnoaaGreat
open Go.RowKit Go.Maps

theorem wordR_take8 (xs : List Int) : wordR (xs.take 8) 0 = Wd.dec (xs.take 8) := by
  unfold wordR
  rw [if_neg (by decide)]
  show Wd.dec (((xs.take 8).drop 0).take 8) = _
  rw [List.drop_zero, List.take_take]
  rfl
theorem frS_cells (xs : List Int) : ((PSx (xs.drop 8)).cells ++ [Value.int .u64 ((Wd.dec (xs.take 8) : Nat) : Int), Value.int .u64 0, Value.bool false, Value.bool false]).toArray = (frS xs).cells := rfl
theorem wp_build_fr {op : Oper} {a : Act} {w : World} {K : Act → World → Prop} {Q : Exit → Act → World → Prop} (x y : Operand) (ho : op.op = .build TFr #[(0, x), (1, y)]) {p : PSec} {n : Int}
    (hx : a.eval x = .agg p.cells.toArray) (hy : a.eval y = .int .u64 n) (h : K (a.put op.dst (.agg (p.cells ++ [Value.int .u64 n, Value.int .u64 0, Value.bool false, Value.bool false]).toArray)) w) : op.wp Tryz.prog a w K Q := by
  have hb : Tryz.prog.built TFr ((#[(0, x), (1, y)] : Array (Nat × Operand)).map fun (i, x) => (i, a.eval x)).toList = some (p.cells ++ [Value.int .u64 n, Value.int .u64 0, Value.bool false, Value.bool false]).toArray := by
    simp only [List.map_toArray, List.map_cons, List.map_nil, hx, hy]
    exact built_fr p n
  exact wp_build TFr _ ho (by rw [hb]; rfl) (by rw [hb]; exact h)
def SlPfo (U : Nat) (xs : List Int) (slot : Nat) (v : Value) (w : World) : Prop :=
  match slot with
  | 3 => v = .slice (some ⟨U, 8, none⟩) 248 248
  | 4 => v = .pointer (some ⟨U, 8, none⟩)
  | 5 => v = .agg (PSx (xs.drop 8)).cells.toArray
  | 6 => v = .slice (some ⟨U, 0, none⟩) 8 256
  | 7 => v = .int .u64 ((Wd.dec (xs.take 8) : Nat) : Int)
  | 8 => v = .agg (frS xs).cells
  | 9 | 2 => ∃ c, v = .pointer (some ⟨c, 0, none⟩) ∧ Blk w c TFr (frS xs).cells ∧ U < c
  | _ => True
theorem slPfo_gr {U : Nat} {xs : List Int} {s : Nat} {v : Value} {w w' : World} (h : SlPfo U xs s v w) (g : Gr w w') : SlPfo U xs s v w' := by
  unfold SlPfo at *
  split <;> simp only at h
  all_goals first
    | exact h
    | (obtain ⟨c, h1, h2, h3⟩ := h; exact ⟨c, h1, h2.gr g, h3⟩)
set_option maxRecDepth 100000 in
set_option maxHeartbeats 1000000 in
theorem frameOf_any {xs : List Int} (hx : IsSec xs) (w : World) : Calls Tryz.prog 70 #[.agg (sec (Sx xs))] w (RetFr (frS xs) w) := by
  obtain ⟨W1, hW1⟩ : ∃ W1, W1 = w.alloc (.cells (sec (Sx xs)) TS) := ⟨_, rfl⟩
  have HB : Hid (Blk W1.drew w.heap.size TS (sec (Sx xs)) ∧ Gr w W1.drew ∧ w.heap.size < W1.drew.heap.size) := Lib.hid (by rw [hW1]; exact ⟨show Blk (w.alloc (.cells (sec (Sx xs)) TS)) _ _ _ from Blk.new _ _ _, (Gr.new _ _).drew, by show _ < (w.alloc _).heap.size; rw [World.size_alloc]; omega⟩)
  have HW1 : Hid (w.alloc (.cells (sec (Sx xs)) 60) = W1) := Lib.hid hW1.symm
  have HR : Hid (∀ V, Gr W1.drew V → V.rangeAt w.heap.size 8 (PSx (xs.drop 8)).cells) := Lib.hid fun V g j v hv => by
    have hl : j < 248 := by have := (List.getElem?_eq_some_iff.1 hv).1; rwa [PSec.cells_len] at this
    rw [(HB.out.1.gr g).cell (8 + j)]
    rw [show (PSx (xs.drop 8)).cells = (xs.drop 8).map (Value.int .u8) from PSx_cells (frS_in hx).pay] at hv
    have e : (sec (Sx xs))[8 + j]? = (xs.map (Value.int .u8))[8 + j]? := by
      show ((Sx xs).cells.toArray)[8 + j]? = _
      rw [List.getElem?_toArray, Sx_cells hx]
    rw [e]
    show (xs.map (Value.int .u8))[8 + j]? = some v
    rw [← hv]
    show _ = ((xs.drop 8).map (Value.int .u8))[j]?
    rw [List.getElem?_map, List.getElem?_map, List.getElem?_drop]
  have hpu := Punder_sec
  have har := fun V => run_arrayAt (P := Tryz.prog) 35 248 _ Punder_sec (some ⟨w.heap.size, 8, none⟩) 248 248 (Nat.le_refl _) V
  have HWd : Hid (∀ V, Gr W1.drew V → Calls Tryz.prog 90 #[.slice (some ⟨w.heap.size, 0, none⟩) 8 256, .int .i64 0] V fun e w' => e = .returned (.int .u64 ((Wd.dec (xs.take 8) : Nat) : Int)) ∧ V = w') := Lib.hid fun V g => by
    have h := word_any (some ⟨w.heap.size, 0, none⟩) 8 256 (xs.take 8) 0 V (((HB.out.1.gr g).byt hx).pre 8 256 (by omega) (by omega) (Nat.le_refl _)) (by decide)
    rw [wordR_take8] at h
    exact h
  clear hW1
  go_enter Tryz.func70, Tryz.ntmps70
  go_wp2_with fail
  rw [HW1.out]
  refine Flow.region (SlPfo w.heap.size xs) (Gr W1.drew) Gr (by kernel_rfl) (by kernel_rfl) (fun _ _ _ _ h g => slPfo_gr h g) ⟨rfl, rfl, rfl, Nat.le_refl _, fun _ _ => rfl⟩ ?steps ?fin
  case steps =>
    refine Flow.Steps.cons (fun a W hfr hinv hdep K hK => ?_) ?_
    · have s1 : a.tmps.getD 1 undef = .pointer (some ⟨w.heap.size, 0, none⟩) := hfr.at 1 (by kernel_rfl)
      have t1 : a.tmps[1]?.getD undef = .pointer (some ⟨w.heap.size, 0, none⟩) := by simpa using s1
      rw [if_pos (Flow.wanted_none rfl)]
      clear hfr hdep
      go_simp
      exact hK _ _ (Gr.refl _) hinv (fun d hd => by cases hd; trivial)
    refine Flow.Steps.cons (fun a W hfr hinv hdep K hK => ?_) ?_
    · have s3 : a.tmps.getD 3 undef = .slice (some ⟨w.heap.size, 8, none⟩) 248 248 := hdep 3 (by kernel_rfl)
      have t3 : a.tmps[3]?.getD undef = .slice (some ⟨w.heap.size, 8, none⟩) 248 248 := by simpa using s3
      rw [if_pos (Flow.wanted_none rfl)]
      clear hfr hdep
      go_simp
      exact hK _ _ (Gr.refl _) hinv (fun d hd => by cases hd; trivial)
    refine Flow.Steps.cons (fun a W hfr hinv hdep K hK => ?_) ?_
    · have s4 : a.tmps.getD 4 undef = .pointer (some ⟨w.heap.size, 8, none⟩) := hdep 4 (by kernel_rfl)
      have t4 : a.tmps[4]?.getD undef = .pointer (some ⟨w.heap.size, 8, none⟩) := by simpa using s4
      rw [if_pos (Flow.wanted_none rfl)]
      clear hfr hdep
      refine wp_load_mid 35 (.tmp 4) rfl w.heap.size 8 s4 (PSx (xs.drop 8)).cells _ (HR.out W hinv) hpu rfl (by rw [PSec.cells_len]; exact Psize_sec) ?_
      exact hK _ _ (Gr.refl _) hinv (fun d hd => by cases hd; trivial)
    refine Flow.Steps.cons (fun a W hfr hinv hdep K hK => ?_) ?_
    · have s1 : a.tmps.getD 1 undef = .pointer (some ⟨w.heap.size, 0, none⟩) := hfr.at 1 (by kernel_rfl)
      have t1 : a.tmps[1]?.getD undef = .pointer (some ⟨w.heap.size, 0, none⟩) := by simpa using s1
      rw [if_pos (Flow.wanted_none rfl)]
      clear hfr hdep
      go_simp
      exact hK _ _ (Gr.refl _) hinv (fun d hd => by cases hd; trivial)
    refine Flow.Steps.cons (fun a W hfr hinv hdep K hK => ?_) ?_
    · have s6 : a.tmps.getD 6 undef = .slice (some ⟨w.heap.size, 0, none⟩) 8 256 := hdep 6 (by kernel_rfl)
      have t6 : a.tmps[6]?.getD undef = .slice (some ⟨w.heap.size, 0, none⟩) 8 256 := by simpa using s6
      rw [if_pos (Flow.wanted_none rfl)]
      clear hfr hdep
      go_simp
      refine (HWd.out W hinv).mono ?_
      rintro e W' ⟨rfl, rfl⟩
      exact hK _ _ (Gr.refl _) hinv (fun d hd => by cases hd; trivial)
    refine Flow.Steps.cons (fun a W hfr hinv hdep K hK => ?_) ?_
    · have s5 : a.tmps.getD 5 undef = .agg (PSx (xs.drop 8)).cells.toArray := hdep 5 (by kernel_rfl)
      have t5 : a.tmps[5]?.getD undef = .agg (PSx (xs.drop 8)).cells.toArray := by simpa using s5
      have s7 : a.tmps.getD 7 undef = .int .u64 ((Wd.dec (xs.take 8) : Nat) : Int) := hdep 7 (by kernel_rfl)
      have t7 : a.tmps[7]?.getD undef = .int .u64 ((Wd.dec (xs.take 8) : Nat) : Int) := by simpa using s7
      rw [if_pos (Flow.wanted_none rfl)]
      clear hfr hdep
      refine wp_build_fr (.tmp 5) (.tmp 7) rfl (p := PSx (xs.drop 8)) (n := ((Wd.dec (xs.take 8) : Nat) : Int)) s5 s7 ?_
      rw [frS_cells]
      exact hK _ _ (Gr.refl _) hinv (fun d hd => by cases hd; trivial)
    refine Flow.Steps.cons (fun a W hfr hinv hdep K hK => ?_) ?_
    · have s8 : a.tmps.getD 8 undef = .agg (frS xs).cells := hdep 8 (by kernel_rfl)
      have t8 : a.tmps[8]?.getD undef = .agg (frS xs).cells := by simpa using s8
      rw [if_pos (Flow.wanted_none rfl)]
      clear hfr hdep
      go_simp
      exact hK _ _ (Gr.new _ _) (Gr.trans hinv (Gr.new _ _)) (fun d hd => by cases hd; exact ⟨_, rfl, Blk.new _ _ _, Nat.lt_of_lt_of_le HB.out.2.2 hinv.size⟩)
    refine Flow.Steps.cons (fun a W hfr hinv hdep K hK => ?_) ?_
    · have s9 : ∃ c, (a.tmps.getD 9 undef) = .pointer (some ⟨c, 0, none⟩) ∧ Blk W c TFr (frS xs).cells ∧ w.heap.size < c := hdep 9 (by kernel_rfl)
      rw [if_pos (Flow.wanted_none rfl)]
      clear hfr hdep
      obtain ⟨c, s9, h1, h2⟩ := s9
      have t9 : a.tmps[9]?.getD undef = .pointer (some ⟨c, 0, none⟩) := by simpa using s9
      go_simp
      exact hK _ _ (Gr.refl _) hinv (fun d hd => by cases hd; exact ⟨_, rfl, h1, h2⟩)
    exact True.intro
  case fin =>
    intro a W hfr hfin hsl
    obtain ⟨c, s2, hb, hc⟩ : ∃ c, a.tmps.getD 2 undef = .pointer (some ⟨c, 0, none⟩) ∧ Blk W c TFr (frS xs).cells ∧ w.heap.size < c := hsl 7 _ 2 rfl rfl
    have t2 : a.tmps[2]?.getD undef = .pointer (some ⟨c, 0, none⟩) := by simpa using s2
    have e := Flow.frame hfr [3, 4, 5, 6, 7, 8, 9, 2] (List.range 10) (by kernel_rfl) (by kernel_rfl)
    simp [List.range, List.range.loop] at e
    rw [t2] at e
    rw [e]
    clear e hfr hsl s2 t2
    go_wp2_with fail
    go_ret
    exact ⟨c, rfl, hb, by omega, HB.out.2.1.trans hfin⟩
end Go.Proofs.YtaemmknijmhnoaaGreat

/-
  Layouts, as the mathematics has them; what makes them, in the program and in the document.
-/
namespace Go.Proofs.YtaemmknijmhnoaaGreat
open Go.RowKit

def okN (n : Int) : Bool := decide (64 ≤ n ∧ n ≤ 4096)
def logOf (n : Int) : Int := min (max (n / 8) 16) 256
def grpOf (n : Int) : Int := (n - (3 + logOf n) + 56) / 64
def mkN (n : Int) : Int := if okN n then n else 0
def mkL (n : Int) : Int := if okN n then logOf n else 0
def mkG (n : Int) : Int := if okN n then grpOf n else 0
def mkE (n : Int) : Int := if okN n then 0 else 2
def mayL (n l g : Int) : Bool := okN n && decide (l = logOf n ∧ g = grpOf n)

theorem okN_iff {n : Int} : okN n = true ↔ 64 ≤ n ∧ n ≤ 4096 := by simp [okN]
theorem log_lo {n : Int} (_ : 64 ≤ n) (_ : n ≤ 4096) : 16 ≤ logOf n ∧ logOf n ≤ 256 := by unfold logOf; omega
theorem grp_lo {n : Int} (h0 : 64 ≤ n) (h1 : n ≤ 4096) : 1 ≤ grpOf n ∧ grpOf n ≤ 60 ∧ 3 + logOf n + 64 * grpOf n ≤ n + 56 ∧ n < 3 + logOf n + 64 * grpOf n + 8 := by unfold grpOf logOf; omega

/-- where a group begins, as the machine counts. -/
def startW (l g : Int) : Int := wrap64 (wrap64 (3 + l) + wrap64 (g * 64))

theorem start_any (n l g i : Int) (w : World) : Calls Tryz.prog 62 #[.agg #[.int .i64 n, .int .i64 l, .int .i64 g], .int .i64 i] w fun e w' => e = .returned (.int .i64 (startW l i)) ∧ Gr w w' := by
  have hg := (Gr.refl w).alloc (Nat.le_refl _) (.cells #[.int .i64 n, .int .i64 l, .int .i64 g] 71)
  go_enter Tryz.func62, Tryz.ntmps62
  go_wp2
  go_ret
  exact ⟨rfl, hg⟩

theorem groups_any (n G : Int) (w : World) (h0 : 0 ≤ n) (h1 : n ≤ 5000) (hG : (n + 56) / 64 = G) : Calls Tryz.prog 61 #[.int .i64 n] w fun e w' => e = .returned (.int .i64 G) ∧ w = w' := by
  have HG := Lib.hid hG
  clear hG
  go_enter Tryz.func61, Tryz.ntmps61
  go_wp2
  go_ret
  exact ⟨ret_i (by rw [← HG.out]; omega), rfl⟩

/-- A block of three cells, read. -/
theorem Blk.c3 {w : World} {g : Nat} {t : TypeId} {a b c : Value} (h : Blk w g t #[a, b, c]) : (w.cell? ⟨g, 0, none⟩ = some a ∧ w.cell? ⟨g, 1, none⟩ = some b ∧ w.cell? ⟨g, 2, none⟩ = some c) ∧ (w.frozen? ⟨g, 0, none⟩ = false ∧ w.frozen? ⟨g, 1, none⟩ = false ∧ w.frozen? ⟨g, 2, none⟩ = false) :=
  ⟨⟨h.cell 0, h.cell 1, h.cell 2⟩, h.frozen 0, h.frozen 1, h.frozen 2⟩

/-- Answers. -/
def RetLy (n l g e : Int) (w : World) (en : Ending) (w' : World) : Prop := en = .returned (.tuple #[.agg #[.int .i64 n, .int .i64 l, .int .i64 g], .int .i64 e]) ∧ Gr w w'
theorem make_no (n : Int) (w : World) (h : ¬ (64 ≤ n ∧ n ≤ 4096)) : Calls Tryz.prog 35 #[.int .i64 n] w (RetLy 0 0 0 2 w) := by
  have hg := (Gr.refl w).alloc (Nat.le_refl _) (.cells #[.int .i64 0, .int .i64 0, .int .i64 0] 71)
  by_cases h1 : n < 64
  all_goals
    go_enter Tryz.func35, Tryz.ntmps35
    go_wp2
    go_returns
    exact ⟨rfl, hg⟩

theorem startW_in {l g : Int} (h0 : 0 ≤ l) (h1 : l ≤ 5000) (h2 : 0 ≤ g) (h3 : g ≤ 5000) : startW l g = 3 + l + g * 64 := by
  unfold startW wrap64; omega


/-- Results: a struct in a cell of its own, and a slot. -/
theorem results_ly {fn : Func} {p q : Tmp} (h : fn.results = #[.cell p 71, .tmp q]) (tmps : Array Value) (w : World) (g : Nat) (cs : Array Value) (x : Value) (hs : cs.size = 3)
    (hp : tmps.getD p undef = .pointer (some ⟨g, 0, none⟩)) (hx : tmps.getD q undef = x) (hb : Blk w g 71 cs) : (results fn tmps).run Tryz.prog w = .ok (.tuple #[.agg cs, x]) w := by
  have hp' : tmps[p]?.getD undef = .pointer (some ⟨g, 0, none⟩) := by simpa using hp
  have hx' : tmps[q]?.getD undef = x := by simpa using hx
  have hz : (Tryz.prog.info? 71).map (·.size) = some 3 := by kernel_rfl
  have hl := run_loadVar_row (P := Tryz.prog) w g 71 71 cs (0, 0) _ hb Tryz.underlying71 rfl (by rw [hs]; exact hz)
  simp [results, h, hp', hx', asAddr, hl]

theorem below_set3 {B g : Nat} {w w1 : World} {a b c : Value} {i j k : Nat} (h : Below B w w1) (hg : B ≤ g) : Below B w (((w1.setCell ⟨g, i, none⟩ a).setCell ⟨g, j, none⟩ b).setCell ⟨g, k, none⟩ c) := ((h.setCell hg _).setCell hg _).setCell hg _

set_option maxRecDepth 100000 in
theorem make_yes (n : Int) (w : World) (h0 : 64 ≤ n) (h1 : n ≤ 4096) : Calls Tryz.prog 35 #[.int .i64 n] w (RetLy n (logOf n) (grpOf n) 0 w) := by
  have hl := log_lo h0 h1
  have hL : min (max (n / 8) 16) 256 = logOf n := rfl
  obtain ⟨L, hL2⟩ : ∃ L, L = logOf n := ⟨_, rfl⟩
  have hG : Hid ((n - (3 + L) + 56) / 64 = grpOf n) := Lib.hid (by rw [hL2]; rfl)
  have hs : startW L 0 = 3 + L := by rw [startW_in (by omega) (by omega) (by omega) (by omega)]; omega
  rw [← hL2] at hL hl
  rw [← hL2]
  have l2 : 3 + L ≤ n := by omega
  have HL := Lib.hid hL
  have HS := Lib.hid hs
  clear hL2 hL hs
  obtain ⟨l0, l1⟩ := hl
  go_enter Tryz.func35, Tryz.ntmps35
  go_wp2_with fail
  rw [HL.out]
  refine (start_any _ _ _ _ _).mono ?_
  rintro e w1 ⟨rfl, g1⟩
  have G1 := Lib.hid (grow2 g1)
  have B1 := Lib.hid (((Blk.new w 71 #[.int .i64 0, .int .i64 0, .int .i64 0]).alloc _).below g1 (by go_size))
  obtain ⟨⟨c0, c1, c2⟩, f0, f1, f2⟩ := B1.out.c3
  obtain ⟨⟨d0, d1, d2⟩, q0, q1, q2⟩ := ((Blk.new (w.alloc (.cells #[.int .i64 0, .int .i64 0, .int .i64 0] 71)) 71 _).below g1 (by go_size)).c3
  simp only [World.size_alloc] at d0 d1 d2 q0 q1 q2
  rw [HS.out]
  clear g1
  go_wp2_with fail
  refine (groups_any _ (grpOf n) _ (by omega) (by omega) (by have := hG.out; omega)).mono ?_
  rintro e w2 ⟨rfl, rfl⟩
  go_wp2_with fail
  exact bodyPost_ret (results_ly rfl _ _ w.heap.size #[.int .i64 n, .int .i64 L, .int .i64 (grpOf n)] _ rfl rfl rfl ((((B1.out.far (by simp) _).set 0 _).set 1 _).set 2 _)) rfl ⟨rfl, below_set3 (G1.out.setCell (by simp) _) (Nat.le_refl _)⟩

theorem make_any (n : Int) (w : World) : Calls Tryz.prog 35 #[.int .i64 n] w (RetLy (mkN n) (mkL n) (mkG n) (mkE n) w) := by
  by_cases h : 64 ≤ n ∧ n ≤ 4096
  · have e : okN n = true := okN_iff.2 h
    simp only [mkN, mkL, mkG, mkE, e, if_true]
    exact make_yes n w h.1 h.2
  · have e : okN n = false := by simpa [okN] using h
    simp only [mkN, mkL, mkG, mkE, e, Bool.false_eq_true, if_false]
    exact make_no n w h

/-- Answers. -/
def Ret3 (a b e : Int) (w : World) (en : Ending) (w' : World) : Prop := en = .returned (.tuple #[.int .i64 a, .int .i64 b, .int .i64 e]) ∧ Gr w w'
def Ret2 (a e : Int) (w : World) (en : Ending) (w' : World) : Prop := en = .returned (.tuple #[.int .i64 a, .int .i64 e]) ∧ Gr w w'


set_option maxRecDepth 100000 in
theorem mayS_any (n l g : Int) (w : World) : Calls Tryz.prog 63 #[.agg #[.int .i64 n, .int .i64 l, .int .i64 g]] w (RetB (mayL n l g) w) := by
  have HM := Lib.hid (make_any n)
  by_cases h : okN n = true
  · have e1 : mkN n = n ∧ mkL n = logOf n ∧ mkG n = grpOf n ∧ mkE n = 0 := by simp [mkN, mkL, mkG, mkE, h]
    have HR : Hid (mayL n l g = decide (l = logOf n ∧ g = grpOf n)) := Lib.hid (by simp [mayL, h])
    obtain ⟨e1, e2, e3, e4⟩ := e1
    rw [e1, e2, e3, e4] at HM
    clear e1 e2 e3 e4 h
    go_enter Tryz.func63, Tryz.ntmps63
    go_wp2_with fail
    refine (HM.out _).mono ?_
    rintro e w1 ⟨rfl, g1⟩
    have G1 := Lib.hid (grow1 g1)
    have s1 := lt_of_new g1
    obtain ⟨⟨c0, c1, c2⟩, f0, f1, f2⟩ := ((Blk.new w 71 _).below g1 (by go_size)).c3
    clear g1 HM
    go_wp2_with fail
    all_goals
      go_ret
      exact ⟨ret_b (by rw [HR.out]; first | (exact (decide_eq_true (by omega)).symm) | (exact (decide_eq_false (by omega)).symm)), G1.out.alloc G1.out.size _⟩
  · have e1 : mkN n = 0 ∧ mkL n = 0 ∧ mkG n = 0 ∧ mkE n = 2 := by simp [mkN, mkL, mkG, mkE, h]
    have HR : Hid (mayL n l g = false) := Lib.hid (by simp [mayL, h])
    obtain ⟨e1, e2, e3, e4⟩ := e1
    rw [e1, e2, e3, e4] at HM
    clear e1 e2 e3 e4 h
    go_enter Tryz.func63, Tryz.ntmps63
    go_wp2_with fail
    refine (HM.out _).mono ?_
    rintro e w1 ⟨rfl, g1⟩
    have G1 := Lib.hid (grow1 g1)
    have s1 := lt_of_new g1
    clear g1 HM
    go_wp2_with fail
    go_ret
    exact ⟨ret_b HR.out.symm, G1.out.alloc G1.out.size _⟩

end Go.Proofs.YtaemmknijmhnoaaGreat

/-
  Where groups, inodes, blocks and the log's sectors lie: the program's answers.
-/
namespace Go.Proofs.YtaemmknijmhnoaaGreat
open Go.RowKit

abbrev TY : TypeId := 71
abbrev TF : TypeId := 206

/-- What is told of a number: it is there, and then a and b; or it isn't. -/
def RetT (a b : Int) (ok : Bool) (w : World) (e : Ending) (w' : World) : Prop := ∃ x y, e = .returned (.tuple #[.int .i64 x, .int .i64 y, .bool ok]) ∧ (ok = true → x = a ∧ y = b) ∧ Gr w w'

/-- a, where it may be. -/
def only (b : Bool) (a : Int) : Int := if b then a else 0
def err (b : Bool) : Int := if b then 0 else 2

theorem may_in {n l g : Int} (h : mayL n l g = true) : 64 ≤ n ∧ n ≤ 4096 ∧ 16 ≤ l ∧ l ≤ 256 ∧ 1 ≤ g ∧ g ≤ 60 ∧ 3 + l + 64 * g ≤ n + 56 ∧ n < 3 + l + 64 * g + 8 := by
  simp only [mayL, okN, Bool.and_eq_true, decide_eq_true_eq] at h
  obtain ⟨⟨h0, h1⟩, rfl, rfl⟩ := h
  have := log_lo h0 h1
  have := grp_lo h0 h1
  omega

set_option maxRecDepth 100000 in
theorem asking_log (n l g i x y : Int) (ok : Bool) (b c d : Nat) (w : World) (hb : Blk w b TY #[.int .i64 n, .int .i64 l, .int .i64 g]) (hc : Blk w c TF #[.func (.func 150) #[] #[.pointer (some ⟨d, 0, none⟩)]])
    (hF : mayL n l g = true → ∀ W, Gr w W → Calls Tryz.prog 150 #[.int .i64 i, .pointer (some ⟨d, 0, none⟩)] W (RetT x y ok W)) :
    Calls Tryz.prog 162 #[.int .i64 i, .pointer (some ⟨b, 0, none⟩), .pointer (some ⟨c, 0, none⟩)] w (Ret3 (only (mayL n l g && ok) x) (only (mayL n l g && ok) y) (err (mayL n l g && ok)) w) := by
  obtain ⟨⟨c0, c1, c2⟩, f0, f1, f2⟩ := hb.c3
  have HC := Lib.hid hc
  have HM := Lib.hid (mayS_any n l g)
  clear hb hc
  by_cases hm : mayL n l g = true
  · have HF := Lib.hid (hF hm)
    rw [hm] at HM
    rw [hm]
    clear hF hm
    go_enter Tryz.func162, Tryz.ntmps162
    go_wp2_with fail
    refine (HM.out _).mono ?_
    rintro e w1 ⟨rfl, g1⟩
    have q := (HC.out.below g1 HC.out.lt).cell 0
    have G1 := Lib.hid g1
    clear g1 HM
    go_wp2_with fail
    refine (HF.out _ G1.out).mono ?_
    rintro e w2 ⟨x', y', rfl, hx, g2⟩
    have HX := Lib.hid hx
    have G2 := Lib.hid (Gr.trans G1.out g2)
    clear g2 hx q
    cases ok
    · go_wp2
      go_returns
      exact ⟨rfl, G2.out⟩
    · go_wp2
      go_returns
      obtain ⟨rfl, rfl⟩ := HX.out (by simp)
      exact ⟨rfl, G2.out⟩
  · have hm : mayL n l g = false := by simpa using hm
    rw [hm] at HM
    rw [hm]
    clear hF hm
    go_enter Tryz.func162, Tryz.ntmps162
    go_wp2_with fail
    refine (HM.out _).mono ?_
    rintro e w1 ⟨rfl, g1⟩
    have G1 := Lib.hid g1
    clear g1 HM
    go_wp2
    go_returns
    exact ⟨rfl, G1.out⟩

theorem gr_drewN {w w' : World} (h : Gr w w') (n : Nat) : Gr w (w'.drewN n) := below_drewN h n

set_option maxRecDepth 100000 in
theorem log1_any (n l g i : Int) (d : Nat) (w : World) (hb : Blk w d TY #[.int .i64 n, .int .i64 l, .int .i64 g]) (hm : mayL n l g = true) :
    Calls Tryz.prog 150 #[.int .i64 i, .pointer (some ⟨d, 0, none⟩)] w (RetT (3 + i) 0 (decide (0 ≤ i) && decide (i < l)) w) := by
  obtain ⟨⟨c0, c1, c2⟩, f0, f1, f2⟩ := hb.c3
  have HI := Lib.hid (may_in hm)
  clear hb hm
  by_cases h0 : 0 ≤ i
  · have hd : decide (0 ≤ i) = true := by simpa using h0
    have hj : Hid ((decide (0 ≤ i) && decide (i < l)) = decide (i < l)) := Lib.hid (by rw [hd]; rfl)
    go_enter Tryz.func150, Tryz.ntmps150
    go_wp2_with fail
    go_quiet (fail)
    go_wp2
    go_returns
    rw [hj.out]
    refine ⟨_, _, rfl, fun h => ?_, gr_drewN (Gr.refl _) _⟩
    have h1 : i < l := by simpa using h
    have := HI.out
    exact ⟨by unfold wrap64; omega, rfl⟩
  · have hd : decide (0 ≤ i) = false := by simpa using h0
    have hj : Hid ((decide (0 ≤ i) && decide (i < l)) = false) := Lib.hid (by rw [hd]; rfl)
    go_enter Tryz.func150, Tryz.ntmps150
    go_wp2_with fail
    go_quiet (fail)
    go_wp2
    go_returns
    rw [hj.out]
    exact ⟨_, _, rfl, fun h => (by cases h), gr_drewN (Gr.refl _) _⟩

end Go.Proofs.YtaemmknijmhnoaaGreat

/-
  Where a sector is a block: the program's closure.
-/
namespace Go.Proofs.YtaemmknijmhnoaaGreat
open Go.RowKit

theorem asking_mk (n l g : Int) (F d : Nat) (w : World) :
    Calls Tryz.prog 149 #[.agg #[.int .i64 n, .int .i64 l, .int .i64 g], .func (.func F) #[] #[.pointer (some ⟨d, 0, none⟩)]] w fun e w' => e = .returned (.func (.func 162) #[] #[.pointer (some ⟨w.heap.size, 0, none⟩), .pointer (some ⟨w.heap.size + 1, 0, none⟩)]) ∧ Blk w' w.heap.size TY #[.int .i64 n, .int .i64 l, .int .i64 g] ∧ Blk w' (w.heap.size + 1) TF #[.func (.func F) #[] #[.pointer (some ⟨d, 0, none⟩)]] ∧ Gr w w' := by
  have HG := Lib.hid (((Gr.refl w).alloc (Nat.le_refl _) (.cells #[.int .i64 n, .int .i64 l, .int .i64 g] TY)).alloc (by simp) (.cells #[.func (.func F) #[] #[.pointer (some ⟨d, 0, none⟩)]] TF))
  have HB := Lib.hid ((Blk.new w TY #[.int .i64 n, .int .i64 l, .int .i64 g]).alloc (.cells #[.func (.func F) #[] #[.pointer (some ⟨d, 0, none⟩)]] TF))
  have HC := Lib.hid (Blk.new (w.alloc (.cells #[.int .i64 n, .int .i64 l, .int .i64 g] TY)) TF #[.func (.func F) #[] #[.pointer (some ⟨d, 0, none⟩)]])
  go_enter Tryz.func149, Tryz.ntmps149
  go_wp2_with fail
  go_ret
  exact ⟨rfl, HB.out, by simpa using HC.out, HG.out⟩

end Go.Proofs.YtaemmknijmhnoaaGreat

/-
  Where groups, inodes, blocks and the log's sectors lie: the program's functions, and the document's.
-/
namespace Go.Proofs.YtaemmknijmhnoaaGreat
open Go.RowKit

set_option maxRecDepth 100000 in
theorem logAt_any (n l g i : Int) (w : World) : Calls Tryz.prog 125 #[.agg #[.int .i64 n, .int .i64 l, .int .i64 g], .int .i64 i] w (Ret2 (only (mayL n l g && (decide (0 ≤ i) && decide (i < l))) (3 + i)) (err (mayL n l g && (decide (0 ≤ i) && decide (i < l)))) w) := by
  have B0 := Lib.hid (Blk.new w TY #[.int .i64 n, .int .i64 l, .int .i64 g])
  go_enter Tryz.func125, Tryz.ntmps125
  go_wp2_with fail
  refine (asking_mk _ _ _ _ _ _).mono ?_
  rintro e w1 ⟨rfl, hb, hc, g1⟩
  simp only [World.size_alloc] at hb hc
  have B1 := Lib.hid (B0.out.below g1 B0.out.lt)
  have HA := Lib.hid (asking_log n l g i _ _ _ _ _ _ w1 hb hc fun hm W gW => log1_any n l g i w.heap.size W (B1.out.below gW B1.out.lt) hm)
  have G1 := Lib.hid (grow1 g1)
  clear hb hc g1
  go_wp2_with fail
  refine HA.out.mono ?_
  rintro e w2 ⟨rfl, g2⟩
  have G2 := Lib.hid (Gr.trans G1.out g2)
  clear g2
  go_wp2_with fail
  go_returns
  exact ⟨rfl, G2.out⟩

end Go.Proofs.YtaemmknijmhnoaaGreat

namespace Go.Proofs.YtaemmknijmhnoaaGreat
open Go.RowKit Go.Maps

end Go.Proofs.YtaemmknijmhnoaaGreat

