
/-
  Which records may be: the program's functions.
-/
import Derived.Test.YtchfhgeipmfegaaRec
import Derived.Test.YtchfhgeipmfegaaFlowBy
import Derived.Test.YtchfhgeipmfegaaHex2
namespace Go.Proofs.Ytchfhgeipmfegaa
open Go.RowKit Cr

abbrev TR : TypeId := 57

/-- A block of eight cells, read. -/
theorem Blk.c8 {w : World} {g : Nat} {t : TypeId} {a b c d e f i j : Value} (h : Blk w g t #[a, b, c, d, e, f, i, j]) : w.cell? ⟨g, 0, none⟩ = some a ∧ w.cell? ⟨g, 1, none⟩ = some b ∧ w.cell? ⟨g, 2, none⟩ = some c ∧ w.cell? ⟨g, 3, none⟩ = some d ∧ w.cell? ⟨g, 4, none⟩ = some e ∧ w.cell? ⟨g, 5, none⟩ = some f ∧ w.cell? ⟨g, 6, none⟩ = some i ∧ w.cell? ⟨g, 7, none⟩ = some j :=
  ⟨h.cell 0, h.cell 1, h.cell 2, h.cell 3, h.cell 4, h.cell 5, h.cell 6, h.cell 7⟩

/-- Answers. -/
def RetB (b : Bool) (w : World) (en : Ending) (w' : World) : Prop := en = .returned (.bool b) ∧ Gr w w'
def RetI (i : Int) (w : World) (en : Ending) (w' : World) : Prop := en = .returned (.int .i64 i) ∧ Gr w w'
def RetV (v : Value) (w : World) (en : Ending) (w' : World) : Prop := en = .returned v ∧ Gr w w'
theorem grow1 {w w1 : World} {o : Obj} (g : Gr (w.alloc o) w1) : Gr w w1 := Gr.trans ((Gr.refl w).alloc (Nat.le_refl _) _) g
theorem grow2 {w w1 : World} {o o' : Obj} (g : Gr ((w.alloc o).alloc o') w1) : Gr w w1 := Gr.trans (((Gr.refl w).alloc (Nat.le_refl _) _).alloc (by simp) _) g
theorem lt_of_new {w w1 : World} {o : Obj} (g : Gr (w.alloc o) w1) : w.heap.size < w1.heap.size := by have := g.size; simp at this; omega

def chB (k : Int) : Bool := decide (k = 1) || decide (k = 2)
theorem changes_any (k : Int) (w : World) : Calls Try.prog 65 #[.int .i64 k] w fun e w' => e = .returned (.bool (chB k)) ∧ w = w' := by
  by_cases h1 : k = 1
  · subst h1
    go_enter Try.func65, Try.ntmps65
    go_wp2
    go_ret
    exact ⟨rfl, rfl⟩
  · by_cases h2 : k = 2
    · subst h2
      go_enter Try.func65, Try.ntmps65
      go_wp2
      go_ret
      exact ⟨rfl, rfl⟩
    · go_enter Try.func65, Try.ntmps65
      go_wp2
      go_ret
      exact ⟨ret_b (by simp [chB, h1, h2]), rfl⟩

def befR (k : Int) (n : Nat) : Int := if k = 1 then n else 0
theorem befores_any (k : Int) (n : Nat) (w : World) : Calls Try.prog 69 #[.int .i64 k, .int .i64 n] w fun e w' => e = .returned (.int .i64 (befR k n)) ∧ w = w' := by
  by_cases h1 : k = 1
  · subst h1
    go_enter Try.func69, Try.ntmps69
    go_wp2
    go_ret
    exact ⟨rfl, rfl⟩
  · go_enter Try.func69, Try.ntmps69
    go_wp2
    go_ret
    exact ⟨ret_i (by simp [befR, h1]), rfl⟩

def fitQ (k g o : Int) (nb na : Nat) : Bool := decide (0 ≤ g ∧ g < 4096 ∧ 1 ≤ na ∧ (nb : Int) = befR k na ∧ 0 ≤ o ∧ o ≤ 248 - (na : Int))

def SlF0 (_ : Int) (_ : Nat) (_ : Nat) (_ : Nat) (g : Int) (_ : Int) (_ : Option Addr) (_ : Nat) (_ : Nat) (_ : Option Addr) (_ : Nat) (_ : Nat) (d : Nat) (_ : Int) (slot : Nat) (v : Value) (_ : World) : Prop :=
  match slot with
  | 7 => v = .pointer (some ⟨d, 4, none⟩)
  | 8 => v = .int .i64 g
  | 9 | 10 | 14 | 15 | 18 | 19 | 28 | 29 | 33 | 34 | 40 | 2 => v = .bool false
  | _ => True

def SlF1 (_ : Int) (_ : Nat) (_ : Nat) (_ : Nat) (g : Int) (_ : Int) (_ : Option Addr) (_ : Nat) (_ : Nat) (_ : Option Addr) (_ : Nat) (_ : Nat) (d : Nat) (_ : Int) (slot : Nat) (v : Value) (_ : World) : Prop :=
  match slot with
  | 7 | 11 => v = .pointer (some ⟨d, 4, none⟩)
  | 8 | 12 => v = .int .i64 g
  | 9 | 10 => v = .bool true
  | 13 | 14 | 15 | 18 | 19 | 28 | 29 | 33 | 34 | 40 | 2 => v = .bool false
  | _ => True

def SlF2 (_ : Int) (_ : Nat) (_ : Nat) (_ : Nat) (g : Int) (_ : Int) (_ : Option Addr) (_ : Nat) (_ : Nat) (_ : Option Addr) (na : Nat) (_ : Nat) (d : Nat) (_ : Int) (slot : Nat) (v : Value) (_ : World) : Prop :=
  match slot with
  | 7 | 11 => v = .pointer (some ⟨d, 4, none⟩)
  | 8 | 12 => v = .int .i64 g
  | 9 | 10 | 13 | 14 | 15 => v = .bool true
  | 16 => v = .int .i64 na
  | 17 | 18 | 19 | 28 | 29 | 33 | 34 | 40 | 2 => v = .bool false
  | _ => True

def SlF3 (k : Int) (_ : Nat) (_ : Nat) (_ : Nat) (g : Int) (_ : Int) (pb : Option Addr) (nb : Nat) (cb : Nat) (_ : Option Addr) (na : Nat) (_ : Nat) (d : Nat) (BB : Int) (slot : Nat) (v : Value) (_ : World) : Prop :=
  match slot with
  | 7 | 11 => v = .pointer (some ⟨d, 4, none⟩)
  | 8 | 12 => v = .int .i64 g
  | 9 | 10 | 13 | 14 | 15 | 17 | 18 | 19 => v = .bool true
  | 16 | 25 => v = .int .i64 na
  | 20 => v = .pointer (some ⟨d, 6, none⟩)
  | 21 => v = .slice pb nb cb
  | 22 => v = .int .i64 nb
  | 23 => v = .pointer (some ⟨d, 0, none⟩)
  | 24 => v = .int .i64 k
  | 26 => v = .int .i64 BB
  | 27 | 28 | 29 | 33 | 34 | 40 | 2 => v = .bool false
  | _ => True

def SlF4 (k : Int) (_ : Nat) (_ : Nat) (_ : Nat) (g : Int) (o : Int) (pb : Option Addr) (nb : Nat) (cb : Nat) (_ : Option Addr) (na : Nat) (_ : Nat) (d : Nat) (BB : Int) (slot : Nat) (v : Value) (_ : World) : Prop :=
  match slot with
  | 7 | 11 => v = .pointer (some ⟨d, 4, none⟩)
  | 8 | 12 => v = .int .i64 g
  | 9 | 10 | 13 | 14 | 15 | 17 | 18 | 19 | 27 | 28 | 29 => v = .bool true
  | 16 | 25 => v = .int .i64 na
  | 20 => v = .pointer (some ⟨d, 6, none⟩)
  | 21 => v = .slice pb nb cb
  | 22 => v = .int .i64 nb
  | 23 => v = .pointer (some ⟨d, 0, none⟩)
  | 24 => v = .int .i64 k
  | 26 => v = .int .i64 BB
  | 30 => v = .pointer (some ⟨d, 5, none⟩)
  | 31 => v = .int .i64 o
  | 32 | 33 | 34 | 40 | 2 => v = .bool false
  | _ => True

def SlF5 (k : Int) (_ : Nat) (_ : Nat) (_ : Nat) (g : Int) (o : Int) (pb : Option Addr) (nb : Nat) (cb : Nat) (_ : Option Addr) (na : Nat) (_ : Nat) (d : Nat) (BB : Int) (slot : Nat) (v : Value) (_ : World) : Prop :=
  match slot with
  | 7 | 11 => v = .pointer (some ⟨d, 4, none⟩)
  | 8 | 12 => v = .int .i64 g
  | 9 | 10 | 13 | 14 | 15 | 17 | 18 | 19 | 27 | 28 | 29 | 32 | 33 | 34 => v = .bool true
  | 16 | 25 | 37 => v = .int .i64 na
  | 20 => v = .pointer (some ⟨d, 6, none⟩)
  | 21 => v = .slice pb nb cb
  | 22 => v = .int .i64 nb
  | 23 => v = .pointer (some ⟨d, 0, none⟩)
  | 24 => v = .int .i64 k
  | 26 => v = .int .i64 BB
  | 30 | 35 => v = .pointer (some ⟨d, 5, none⟩)
  | 31 | 36 => v = .int .i64 o
  | 38 => v = .int .i64 (248 - (na : Int))
  | 39 | 40 | 2 => v = .bool false
  | _ => True

def SlF6 (k : Int) (_ : Nat) (_ : Nat) (_ : Nat) (g : Int) (o : Int) (pb : Option Addr) (nb : Nat) (cb : Nat) (_ : Option Addr) (na : Nat) (_ : Nat) (d : Nat) (BB : Int) (slot : Nat) (v : Value) (_ : World) : Prop :=
  match slot with
  | 7 | 11 => v = .pointer (some ⟨d, 4, none⟩)
  | 8 | 12 => v = .int .i64 g
  | 9 | 10 | 13 | 14 | 15 | 17 | 18 | 19 | 27 | 28 | 29 | 32 | 33 | 34 | 39 | 40 | 2 => v = .bool true
  | 16 | 25 | 37 => v = .int .i64 na
  | 20 => v = .pointer (some ⟨d, 6, none⟩)
  | 21 => v = .slice pb nb cb
  | 22 => v = .int .i64 nb
  | 23 => v = .pointer (some ⟨d, 0, none⟩)
  | 24 => v = .int .i64 k
  | 26 => v = .int .i64 BB
  | 30 | 35 => v = .pointer (some ⟨d, 5, none⟩)
  | 31 | 36 => v = .int .i64 o
  | 38 => v = .int .i64 (248 - (na : Int))
  | _ => True

def SlM0 (_ : Int) (t : Nat) (_ : Nat) (_ : Nat) (_ : Int) (_ : Int) (_ : Option Addr) (_ : Nat) (_ : Nat) (_ : Option Addr) (_ : Nat) (_ : Nat) (d : Nat) (_ : Value) (_ : Bool) (slot : Nat) (v : Value) (_ : World) : Prop :=
  match slot with
  | 3 => v = .pointer (some ⟨d, 1, none⟩)
  | 4 => v = .int .u64 t
  | 5 | 6 | 11 | 12 | 21 | 2 => v = .bool false
  | 17 => v = undef
  | _ => True

def SlM1 (k : Int) (t : Nat) (p : Nat) (x : Nat) (g : Int) (o : Int) (pb : Option Addr) (nb : Nat) (cb : Nat) (pa : Option Addr) (na : Nat) (ca : Nat) (d : Nat) (V : Value) (_ : Bool) (slot : Nat) (v : Value) (_ : World) : Prop :=
  match slot with
  | 3 => v = .pointer (some ⟨d, 1, none⟩)
  | 4 => v = .int .u64 t
  | 5 | 6 => v = .bool true
  | 7 | 8 => v = .agg #[.int .i64 k, .int .u64 t, .int .u64 p, .int .u64 x, .int .i64 g, .int .i64 o, .slice pb nb cb, .slice pa na ca]
  | 9 => v = V
  | 10 | 11 | 12 | 21 | 2 => v = .bool false
  | 17 => v = undef
  | _ => True

def SlM2 (k : Int) (t : Nat) (p : Nat) (x : Nat) (g : Int) (o : Int) (pb : Option Addr) (nb : Nat) (cb : Nat) (pa : Option Addr) (na : Nat) (ca : Nat) (d : Nat) (V : Value) (_ : Bool) (slot : Nat) (v : Value) (_ : World) : Prop :=
  match slot with
  | 3 => v = .pointer (some ⟨d, 1, none⟩)
  | 4 => v = .int .u64 t
  | 5 | 6 | 10 | 11 | 12 | 16 | 17 | 20 | 21 | 2 => v = .bool true
  | 7 | 8 => v = .agg #[.int .i64 k, .int .u64 t, .int .u64 p, .int .u64 x, .int .i64 g, .int .i64 o, .slice pb nb cb, .slice pa na ca]
  | 9 => v = V
  | 13 => v = .pointer (some ⟨d, 0, none⟩)
  | 14 => v = .int .i64 k
  | 15 => v = .bool false
  | _ => True

def SlM3 (k : Int) (t : Nat) (p : Nat) (x : Nat) (g : Int) (o : Int) (pb : Option Addr) (nb : Nat) (cb : Nat) (pa : Option Addr) (na : Nat) (ca : Nat) (d : Nat) (V : Value) (F : Bool) (slot : Nat) (v : Value) (_ : World) : Prop :=
  match slot with
  | 3 => v = .pointer (some ⟨d, 1, none⟩)
  | 4 => v = .int .u64 t
  | 5 | 6 | 10 | 11 | 12 | 15 => v = .bool true
  | 7 | 8 | 18 => v = .agg #[.int .i64 k, .int .u64 t, .int .u64 p, .int .u64 x, .int .i64 g, .int .i64 o, .slice pb nb cb, .slice pa na ca]
  | 9 => v = V
  | 13 => v = .pointer (some ⟨d, 0, none⟩)
  | 14 => v = .int .i64 k
  | 16 | 17 => v = .bool false
  | 19 | 20 | 21 | 2 => v = .bool F
  | _ => True


set_option maxRecDepth 100000 in
set_option maxHeartbeats 4000000 in
theorem fitsR_any (k : Int) (t : Nat) (p : Nat) (x : Nat) (g : Int) (o : Int) (pb : Option Addr) (nb : Nat) (cb : Nat) (pa : Option Addr) (na : Nat) (ca : Nat) (w : World) (hn : (na : Int) ≤ 9223372036854775807) : Calls Try.prog 77 #[.agg #[.int .i64 k, .int .u64 t, .int .u64 p, .int .u64 x, .int .i64 g, .int .i64 o, .slice pb nb cb, .slice pa na ca]] w (RetB (fitQ k g o nb na) w) := by
  have HB := Lib.hid (Blk.new w TR #[.int .i64 k, .int .u64 t, .int .u64 p, .int .u64 x, .int .i64 g, .int .i64 o, .slice pb nb cb, .slice pa na ca])
  obtain ⟨c0, c1, c2, c3, c4, c5, c6, c7⟩ := HB.out.c8
  have HF := Lib.hid (befores_any k na)
  have HW : Hid (IntKind.i64.wrap (248 - (na : Int)) = 248 - (na : Int)) := Lib.hid (by rw [IntKind.wrap_i64]; omega)
  by_cases h0 : 0 ≤ g
  · by_cases h1 : g < 4096
    · by_cases h2 : 1 ≤ na
      · have h2' : (1 : Int) ≤ na := by omega
        by_cases h3 : (nb : Int) = befR k na
        · have HQ := Lib.hid h3
          clear h3
          by_cases h4 : 0 ≤ o
          · by_cases h5 : o ≤ 248 - (na : Int)
            · have HR : Hid (fitQ k g o nb na = true) := Lib.hid (decide_eq_true ⟨h0, h1, h2, HQ.out, h4, h5⟩)
              go_enter Try.func77, Try.ntmps77
              go_wp2_with fail
              refine Flow.region (SlF6 k t p x g o pb nb cb pa na ca w.heap.size (befR k na)) (Gr (w.alloc (.cells #[.int .i64 k, .int .u64 t, .int .u64 p, .int .u64 x, .int .i64 g, .int .i64 o, .slice pb nb cb, .slice pa na ca] TR))) (fun _ _ => True) (by kernel_rfl) (by kernel_rfl) (fun _ _ _ _ h _ => h) ⟨rfl, rfl, rfl, Nat.le_refl _, fun _ _ => rfl⟩ ?steps ?fin
              case steps =>
                refine Flow.Steps.cons (fun a W hfr hinv hdep K hK => ?_) ?_
                · have s1 : a.tmps.getD 1 undef = .pointer (some ⟨w.heap.size, 0, none⟩) := hfr.at 1 (by kernel_rfl)
                  have t1 : a.tmps[1]?.getD undef = .pointer (some ⟨w.heap.size, 0, none⟩) := by simpa using s1
                  rw [if_pos (Flow.wanted_none rfl)]
                  clear hfr hdep
                  go_simp
                  exact hK _ _ True.intro hinv (fun d hd => by cases hd; trivial)
                refine Flow.Steps.cons (fun a W hfr hinv hdep K hK => ?_) ?_
                · have s7 : a.tmps.getD 7 undef = .pointer (some ⟨w.heap.size, 4, none⟩) := hdep 7 (by kernel_rfl)
                  have t7 : a.tmps[7]?.getD undef = .pointer (some ⟨w.heap.size, 4, none⟩) := by simpa using s7
                  obtain ⟨c0, c1, c2, c3, c4, c5, c6, c7⟩ := (HB.out.below hinv HB.out.lt).c8
                  rw [if_pos (Flow.wanted_none rfl)]
                  clear hfr hdep
                  go_simp
                  exact hK _ _ True.intro hinv (fun d hd => by cases hd; trivial)
                refine Flow.Steps.cons (fun a W hfr hinv hdep K hK => ?_) ?_
                · have s8 : a.tmps.getD 8 undef = .int .i64 g := hdep 8 (by kernel_rfl)
                  have t8 : a.tmps[8]?.getD undef = .int .i64 g := by simpa using s8
                  rw [if_pos (Flow.wanted_none rfl)]
                  clear hfr hdep
                  go_simp
                  exact hK _ _ True.intro hinv (fun d hd => by cases hd; trivial)
                refine Flow.Steps.cons (fun a W hfr hinv hdep K hK => ?_) ?_
                · have s9 : a.tmps.getD 9 undef = .bool true := hdep 9 (by kernel_rfl)
                  have t9 : a.tmps[9]?.getD undef = .bool true := by simpa using s9
                  rw [if_pos (Flow.wanted_none rfl)]
                  clear hfr hdep
                  go_simp
                  exact hK _ _ True.intro hinv (fun d hd => by cases hd; trivial)
                refine Flow.Steps.cons (fun a W hfr hinv hdep K hK => ?_) ?_
                · have sg : a.tmps.getD 10 undef = .bool true := hdep 10 (by kernel_rfl)
                  have s1 : a.tmps.getD 1 undef = .pointer (some ⟨w.heap.size, 0, none⟩) := hfr.at 1 (by kernel_rfl)
                  have t1 : a.tmps[1]?.getD undef = .pointer (some ⟨w.heap.size, 0, none⟩) := by simpa using s1
                  rw [if_pos (Flow.wanted_yes 3 true 10 rfl (by kernel_rfl) sg)]
                  clear hfr hdep
                  go_simp
                  exact hK _ _ True.intro hinv (fun d hd => by cases hd; trivial)
                refine Flow.Steps.cons (fun a W hfr hinv hdep K hK => ?_) ?_
                · have sg : a.tmps.getD 10 undef = .bool true := hdep 10 (by kernel_rfl)
                  have s11 : a.tmps.getD 11 undef = .pointer (some ⟨w.heap.size, 4, none⟩) := hdep 11 (by kernel_rfl)
                  have t11 : a.tmps[11]?.getD undef = .pointer (some ⟨w.heap.size, 4, none⟩) := by simpa using s11
                  obtain ⟨c0, c1, c2, c3, c4, c5, c6, c7⟩ := (HB.out.below hinv HB.out.lt).c8
                  rw [if_pos (Flow.wanted_yes 3 true 10 rfl (by kernel_rfl) sg)]
                  clear hfr hdep
                  go_simp
                  exact hK _ _ True.intro hinv (fun d hd => by cases hd; trivial)
                refine Flow.Steps.cons (fun a W hfr hinv hdep K hK => ?_) ?_
                · have sg : a.tmps.getD 10 undef = .bool true := hdep 10 (by kernel_rfl)
                  have s12 : a.tmps.getD 12 undef = .int .i64 g := hdep 12 (by kernel_rfl)
                  have t12 : a.tmps[12]?.getD undef = .int .i64 g := by simpa using s12
                  rw [if_pos (Flow.wanted_yes 3 true 10 rfl (by kernel_rfl) sg)]
                  clear hfr hdep
                  go_simp
                  exact hK _ _ True.intro hinv (fun d hd => by cases hd; trivial)
                refine Flow.Steps.cons (fun a W hfr hinv hdep K hK => ?_) ?_
                · have s10 : a.tmps.getD 10 undef = .bool true := hdep 10 (by kernel_rfl)
                  have t10 : a.tmps[10]?.getD undef = .bool true := by simpa using s10
                  have s13 : a.tmps.getD 13 undef = .bool true := hdep 13 (by kernel_rfl)
                  have t13 : a.tmps[13]?.getD undef = .bool true := by simpa using s13
                  rw [if_pos (Flow.wanted_none rfl)]
                  clear hfr hdep
                  go_simp
                  exact hK _ _ True.intro hinv (fun d hd => by cases hd; trivial)
                refine Flow.Steps.cons (fun a W hfr hinv hdep K hK => ?_) ?_
                · have s14 : a.tmps.getD 14 undef = .bool true := hdep 14 (by kernel_rfl)
                  have t14 : a.tmps[14]?.getD undef = .bool true := by simpa using s14
                  rw [if_pos (Flow.wanted_none rfl)]
                  clear hfr hdep
                  go_simp
                  exact hK _ _ True.intro hinv (fun d hd => by cases hd; trivial)
                refine Flow.Steps.cons (fun a W hfr hinv hdep K hK => ?_) ?_
                · have sg : a.tmps.getD 15 undef = .bool true := hdep 15 (by kernel_rfl)
                  have s3 : a.tmps.getD 3 undef = .int .i64 na := hfr.at 3 (by kernel_rfl)
                  have t3 : a.tmps[3]?.getD undef = .int .i64 na := by simpa using s3
                  rw [if_pos (Flow.wanted_yes 8 true 15 rfl (by kernel_rfl) sg)]
                  clear hfr hdep
                  go_simp
                  exact hK _ _ True.intro hinv (fun d hd => by cases hd; trivial)
                refine Flow.Steps.cons (fun a W hfr hinv hdep K hK => ?_) ?_
                · have sg : a.tmps.getD 15 undef = .bool true := hdep 15 (by kernel_rfl)
                  have s16 : a.tmps.getD 16 undef = .int .i64 na := hdep 16 (by kernel_rfl)
                  have t16 : a.tmps[16]?.getD undef = .int .i64 na := by simpa using s16
                  rw [if_pos (Flow.wanted_yes 8 true 15 rfl (by kernel_rfl) sg)]
                  clear hfr hdep
                  go_simp
                  exact hK _ _ True.intro hinv (fun d hd => by cases hd; trivial)
                refine Flow.Steps.cons (fun a W hfr hinv hdep K hK => ?_) ?_
                · have s15 : a.tmps.getD 15 undef = .bool true := hdep 15 (by kernel_rfl)
                  have t15 : a.tmps[15]?.getD undef = .bool true := by simpa using s15
                  have s17 : a.tmps.getD 17 undef = .bool true := hdep 17 (by kernel_rfl)
                  have t17 : a.tmps[17]?.getD undef = .bool true := by simpa using s17
                  rw [if_pos (Flow.wanted_none rfl)]
                  clear hfr hdep
                  go_simp
                  exact hK _ _ True.intro hinv (fun d hd => by cases hd; trivial)
                refine Flow.Steps.cons (fun a W hfr hinv hdep K hK => ?_) ?_
                · have s18 : a.tmps.getD 18 undef = .bool true := hdep 18 (by kernel_rfl)
                  have t18 : a.tmps[18]?.getD undef = .bool true := by simpa using s18
                  rw [if_pos (Flow.wanted_none rfl)]
                  clear hfr hdep
                  go_simp
                  exact hK _ _ True.intro hinv (fun d hd => by cases hd; trivial)
                refine Flow.Steps.cons (fun a W hfr hinv hdep K hK => ?_) ?_
                · have sg : a.tmps.getD 19 undef = .bool true := hdep 19 (by kernel_rfl)
                  have s1 : a.tmps.getD 1 undef = .pointer (some ⟨w.heap.size, 0, none⟩) := hfr.at 1 (by kernel_rfl)
                  have t1 : a.tmps[1]?.getD undef = .pointer (some ⟨w.heap.size, 0, none⟩) := by simpa using s1
                  rw [if_pos (Flow.wanted_yes 12 true 19 rfl (by kernel_rfl) sg)]
                  clear hfr hdep
                  go_simp
                  exact hK _ _ True.intro hinv (fun d hd => by cases hd; trivial)
                refine Flow.Steps.cons (fun a W hfr hinv hdep K hK => ?_) ?_
                · have sg : a.tmps.getD 19 undef = .bool true := hdep 19 (by kernel_rfl)
                  have s20 : a.tmps.getD 20 undef = .pointer (some ⟨w.heap.size, 6, none⟩) := hdep 20 (by kernel_rfl)
                  have t20 : a.tmps[20]?.getD undef = .pointer (some ⟨w.heap.size, 6, none⟩) := by simpa using s20
                  obtain ⟨c0, c1, c2, c3, c4, c5, c6, c7⟩ := (HB.out.below hinv HB.out.lt).c8
                  rw [if_pos (Flow.wanted_yes 12 true 19 rfl (by kernel_rfl) sg)]
                  clear hfr hdep
                  go_simp
                  exact hK _ _ True.intro hinv (fun d hd => by cases hd; trivial)
                refine Flow.Steps.cons (fun a W hfr hinv hdep K hK => ?_) ?_
                · have sg : a.tmps.getD 19 undef = .bool true := hdep 19 (by kernel_rfl)
                  have s21 : a.tmps.getD 21 undef = .slice pb nb cb := hdep 21 (by kernel_rfl)
                  have t21 : a.tmps[21]?.getD undef = .slice pb nb cb := by simpa using s21
                  rw [if_pos (Flow.wanted_yes 12 true 19 rfl (by kernel_rfl) sg)]
                  clear hfr hdep
                  go_simp
                  exact hK _ _ True.intro hinv (fun d hd => by cases hd; trivial)
                refine Flow.Steps.cons (fun a W hfr hinv hdep K hK => ?_) ?_
                · have sg : a.tmps.getD 19 undef = .bool true := hdep 19 (by kernel_rfl)
                  have s1 : a.tmps.getD 1 undef = .pointer (some ⟨w.heap.size, 0, none⟩) := hfr.at 1 (by kernel_rfl)
                  have t1 : a.tmps[1]?.getD undef = .pointer (some ⟨w.heap.size, 0, none⟩) := by simpa using s1
                  rw [if_pos (Flow.wanted_yes 12 true 19 rfl (by kernel_rfl) sg)]
                  clear hfr hdep
                  go_simp
                  exact hK _ _ True.intro hinv (fun d hd => by cases hd; trivial)
                refine Flow.Steps.cons (fun a W hfr hinv hdep K hK => ?_) ?_
                · have sg : a.tmps.getD 19 undef = .bool true := hdep 19 (by kernel_rfl)
                  have s23 : a.tmps.getD 23 undef = .pointer (some ⟨w.heap.size, 0, none⟩) := hdep 23 (by kernel_rfl)
                  have t23 : a.tmps[23]?.getD undef = .pointer (some ⟨w.heap.size, 0, none⟩) := by simpa using s23
                  obtain ⟨c0, c1, c2, c3, c4, c5, c6, c7⟩ := (HB.out.below hinv HB.out.lt).c8
                  rw [if_pos (Flow.wanted_yes 12 true 19 rfl (by kernel_rfl) sg)]
                  clear hfr hdep
                  go_simp
                  exact hK _ _ True.intro hinv (fun d hd => by cases hd; trivial)
                refine Flow.Steps.cons (fun a W hfr hinv hdep K hK => ?_) ?_
                · have sg : a.tmps.getD 19 undef = .bool true := hdep 19 (by kernel_rfl)
                  have s3 : a.tmps.getD 3 undef = .int .i64 na := hfr.at 3 (by kernel_rfl)
                  have t3 : a.tmps[3]?.getD undef = .int .i64 na := by simpa using s3
                  rw [if_pos (Flow.wanted_yes 12 true 19 rfl (by kernel_rfl) sg)]
                  clear hfr hdep
                  go_simp
                  exact hK _ _ True.intro hinv (fun d hd => by cases hd; trivial)
                refine Flow.Steps.cons (fun a W hfr hinv hdep K hK => ?_) ?_
                · have sg : a.tmps.getD 19 undef = .bool true := hdep 19 (by kernel_rfl)
                  have s24 : a.tmps.getD 24 undef = .int .i64 k := hdep 24 (by kernel_rfl)
                  have t24 : a.tmps[24]?.getD undef = .int .i64 k := by simpa using s24
                  have s25 : a.tmps.getD 25 undef = .int .i64 na := hdep 25 (by kernel_rfl)
                  have t25 : a.tmps[25]?.getD undef = .int .i64 na := by simpa using s25
                  rw [if_pos (Flow.wanted_yes 12 true 19 rfl (by kernel_rfl) sg)]
                  clear hfr hdep
                  go_simp
                  refine (HF.out W).mono ?_
                  rintro e W' ⟨rfl, rfl⟩
                  exact hK _ _ True.intro hinv (fun d hd => by cases hd; trivial)
                refine Flow.Steps.cons (fun a W hfr hinv hdep K hK => ?_) ?_
                · have sg : a.tmps.getD 19 undef = .bool true := hdep 19 (by kernel_rfl)
                  have s22 : a.tmps.getD 22 undef = .int .i64 nb := hdep 22 (by kernel_rfl)
                  have t22 : a.tmps[22]?.getD undef = .int .i64 nb := by simpa using s22
                  have s26 : a.tmps.getD 26 undef = .int .i64 (befR k na) := hdep 26 (by kernel_rfl)
                  have t26 : a.tmps[26]?.getD undef = .int .i64 (befR k na) := by simpa using s26
                  have hq := HQ.out
                  rw [if_pos (Flow.wanted_yes 12 true 19 rfl (by kernel_rfl) sg)]
                  clear hfr hdep
                  go_simp
                  exact hK _ _ True.intro hinv (fun d hd => by cases hd; trivial)
                refine Flow.Steps.cons (fun a W hfr hinv hdep K hK => ?_) ?_
                · have s19 : a.tmps.getD 19 undef = .bool true := hdep 19 (by kernel_rfl)
                  have t19 : a.tmps[19]?.getD undef = .bool true := by simpa using s19
                  have s27 : a.tmps.getD 27 undef = .bool true := hdep 27 (by kernel_rfl)
                  have t27 : a.tmps[27]?.getD undef = .bool true := by simpa using s27
                  rw [if_pos (Flow.wanted_none rfl)]
                  clear hfr hdep
                  go_simp
                  exact hK _ _ True.intro hinv (fun d hd => by cases hd; trivial)
                refine Flow.Steps.cons (fun a W hfr hinv hdep K hK => ?_) ?_
                · have s28 : a.tmps.getD 28 undef = .bool true := hdep 28 (by kernel_rfl)
                  have t28 : a.tmps[28]?.getD undef = .bool true := by simpa using s28
                  rw [if_pos (Flow.wanted_none rfl)]
                  clear hfr hdep
                  go_simp
                  exact hK _ _ True.intro hinv (fun d hd => by cases hd; trivial)
                refine Flow.Steps.cons (fun a W hfr hinv hdep K hK => ?_) ?_
                · have sg : a.tmps.getD 29 undef = .bool true := hdep 29 (by kernel_rfl)
                  have s1 : a.tmps.getD 1 undef = .pointer (some ⟨w.heap.size, 0, none⟩) := hfr.at 1 (by kernel_rfl)
                  have t1 : a.tmps[1]?.getD undef = .pointer (some ⟨w.heap.size, 0, none⟩) := by simpa using s1
                  rw [if_pos (Flow.wanted_yes 22 true 29 rfl (by kernel_rfl) sg)]
                  clear hfr hdep
                  go_simp
                  exact hK _ _ True.intro hinv (fun d hd => by cases hd; trivial)
                refine Flow.Steps.cons (fun a W hfr hinv hdep K hK => ?_) ?_
                · have sg : a.tmps.getD 29 undef = .bool true := hdep 29 (by kernel_rfl)
                  have s30 : a.tmps.getD 30 undef = .pointer (some ⟨w.heap.size, 5, none⟩) := hdep 30 (by kernel_rfl)
                  have t30 : a.tmps[30]?.getD undef = .pointer (some ⟨w.heap.size, 5, none⟩) := by simpa using s30
                  obtain ⟨c0, c1, c2, c3, c4, c5, c6, c7⟩ := (HB.out.below hinv HB.out.lt).c8
                  rw [if_pos (Flow.wanted_yes 22 true 29 rfl (by kernel_rfl) sg)]
                  clear hfr hdep
                  go_simp
                  exact hK _ _ True.intro hinv (fun d hd => by cases hd; trivial)
                refine Flow.Steps.cons (fun a W hfr hinv hdep K hK => ?_) ?_
                · have sg : a.tmps.getD 29 undef = .bool true := hdep 29 (by kernel_rfl)
                  have s31 : a.tmps.getD 31 undef = .int .i64 o := hdep 31 (by kernel_rfl)
                  have t31 : a.tmps[31]?.getD undef = .int .i64 o := by simpa using s31
                  rw [if_pos (Flow.wanted_yes 22 true 29 rfl (by kernel_rfl) sg)]
                  clear hfr hdep
                  go_simp
                  exact hK _ _ True.intro hinv (fun d hd => by cases hd; trivial)
                refine Flow.Steps.cons (fun a W hfr hinv hdep K hK => ?_) ?_
                · have s29 : a.tmps.getD 29 undef = .bool true := hdep 29 (by kernel_rfl)
                  have t29 : a.tmps[29]?.getD undef = .bool true := by simpa using s29
                  have s32 : a.tmps.getD 32 undef = .bool true := hdep 32 (by kernel_rfl)
                  have t32 : a.tmps[32]?.getD undef = .bool true := by simpa using s32
                  rw [if_pos (Flow.wanted_none rfl)]
                  clear hfr hdep
                  go_simp
                  exact hK _ _ True.intro hinv (fun d hd => by cases hd; trivial)
                refine Flow.Steps.cons (fun a W hfr hinv hdep K hK => ?_) ?_
                · have s33 : a.tmps.getD 33 undef = .bool true := hdep 33 (by kernel_rfl)
                  have t33 : a.tmps[33]?.getD undef = .bool true := by simpa using s33
                  rw [if_pos (Flow.wanted_none rfl)]
                  clear hfr hdep
                  go_simp
                  exact hK _ _ True.intro hinv (fun d hd => by cases hd; trivial)
                refine Flow.Steps.cons (fun a W hfr hinv hdep K hK => ?_) ?_
                · have sg : a.tmps.getD 34 undef = .bool true := hdep 34 (by kernel_rfl)
                  have s1 : a.tmps.getD 1 undef = .pointer (some ⟨w.heap.size, 0, none⟩) := hfr.at 1 (by kernel_rfl)
                  have t1 : a.tmps[1]?.getD undef = .pointer (some ⟨w.heap.size, 0, none⟩) := by simpa using s1
                  rw [if_pos (Flow.wanted_yes 27 true 34 rfl (by kernel_rfl) sg)]
                  clear hfr hdep
                  go_simp
                  exact hK _ _ True.intro hinv (fun d hd => by cases hd; trivial)
                refine Flow.Steps.cons (fun a W hfr hinv hdep K hK => ?_) ?_
                · have sg : a.tmps.getD 34 undef = .bool true := hdep 34 (by kernel_rfl)
                  have s35 : a.tmps.getD 35 undef = .pointer (some ⟨w.heap.size, 5, none⟩) := hdep 35 (by kernel_rfl)
                  have t35 : a.tmps[35]?.getD undef = .pointer (some ⟨w.heap.size, 5, none⟩) := by simpa using s35
                  obtain ⟨c0, c1, c2, c3, c4, c5, c6, c7⟩ := (HB.out.below hinv HB.out.lt).c8
                  rw [if_pos (Flow.wanted_yes 27 true 34 rfl (by kernel_rfl) sg)]
                  clear hfr hdep
                  go_simp
                  exact hK _ _ True.intro hinv (fun d hd => by cases hd; trivial)
                refine Flow.Steps.cons (fun a W hfr hinv hdep K hK => ?_) ?_
                · have sg : a.tmps.getD 34 undef = .bool true := hdep 34 (by kernel_rfl)
                  have s3 : a.tmps.getD 3 undef = .int .i64 na := hfr.at 3 (by kernel_rfl)
                  have t3 : a.tmps[3]?.getD undef = .int .i64 na := by simpa using s3
                  rw [if_pos (Flow.wanted_yes 27 true 34 rfl (by kernel_rfl) sg)]
                  clear hfr hdep
                  go_simp
                  exact hK _ _ True.intro hinv (fun d hd => by cases hd; trivial)
                refine Flow.Steps.cons (fun a W hfr hinv hdep K hK => ?_) ?_
                · have sg : a.tmps.getD 34 undef = .bool true := hdep 34 (by kernel_rfl)
                  have s37 : a.tmps.getD 37 undef = .int .i64 na := hdep 37 (by kernel_rfl)
                  have t37 : a.tmps[37]?.getD undef = .int .i64 na := by simpa using s37
                  have hw := HW.out
                  rw [if_pos (Flow.wanted_yes 27 true 34 rfl (by kernel_rfl) sg)]
                  clear hfr hdep
                  go_simp
                  exact hK _ _ True.intro hinv (fun d hd => by cases hd; trivial)
                refine Flow.Steps.cons (fun a W hfr hinv hdep K hK => ?_) ?_
                · have sg : a.tmps.getD 34 undef = .bool true := hdep 34 (by kernel_rfl)
                  have s36 : a.tmps.getD 36 undef = .int .i64 o := hdep 36 (by kernel_rfl)
                  have t36 : a.tmps[36]?.getD undef = .int .i64 o := by simpa using s36
                  have s38 : a.tmps.getD 38 undef = .int .i64 (248 - (na : Int)) := hdep 38 (by kernel_rfl)
                  have t38 : a.tmps[38]?.getD undef = .int .i64 (248 - (na : Int)) := by simpa using s38
                  rw [if_pos (Flow.wanted_yes 27 true 34 rfl (by kernel_rfl) sg)]
                  clear hfr hdep
                  go_simp
                  exact hK _ _ True.intro hinv (fun d hd => by cases hd; trivial)
                refine Flow.Steps.cons (fun a W hfr hinv hdep K hK => ?_) ?_
                · have s34 : a.tmps.getD 34 undef = .bool true := hdep 34 (by kernel_rfl)
                  have t34 : a.tmps[34]?.getD undef = .bool true := by simpa using s34
                  have s39 : a.tmps.getD 39 undef = .bool true := hdep 39 (by kernel_rfl)
                  have t39 : a.tmps[39]?.getD undef = .bool true := by simpa using s39
                  rw [if_pos (Flow.wanted_none rfl)]
                  clear hfr hdep
                  go_simp
                  exact hK _ _ True.intro hinv (fun d hd => by cases hd; trivial)
                refine Flow.Steps.cons (fun a W hfr hinv hdep K hK => ?_) ?_
                · have s40 : a.tmps.getD 40 undef = .bool true := hdep 40 (by kernel_rfl)
                  have t40 : a.tmps[40]?.getD undef = .bool true := by simpa using s40
                  rw [if_pos (Flow.wanted_none rfl)]
                  clear hfr hdep
                  go_simp
                  exact hK _ _ True.intro hinv (fun d hd => by cases hd; trivial)
                exact True.intro
              case fin =>
                intro a W hfr hfin hsl
                have s2 : a.tmps.getD 2 undef = .bool true := hsl 34 _ 2 rfl rfl
                have t2 : a.tmps[2]?.getD undef = .bool true := by simpa using s2
                have e := Flow.frame hfr [7, 8, 9, 10, 11, 12, 13, 14, 15, 16, 17, 18, 19, 20, 21, 22, 23, 24, 25, 26, 27, 28, 29, 30, 31, 32, 33, 34, 35, 36, 37, 38, 39, 40, 2] (List.range 41) (by kernel_rfl) (by kernel_rfl)
                simp [List.range, List.range.loop] at e
                rw [t2] at e
                rw [e]
                clear e hfr hsl s2 t2
                rename_i K2 hK2
                refine hK2 _ _ ?_
                go_wp2_with fail
                go_ret
                exact ⟨ret_b HR.out.symm, grow1 hfin⟩
            · have HR : Hid (fitQ k g o nb na = false) := Lib.hid (decide_eq_false (by omega))
              have d5 : decide (o ≤ 248 - (na : Int)) = false := decide_eq_false h5
              go_enter Try.func77, Try.ntmps77
              go_wp2_with fail
              refine Flow.region (SlF5 k t p x g o pb nb cb pa na ca w.heap.size (befR k na)) (Gr (w.alloc (.cells #[.int .i64 k, .int .u64 t, .int .u64 p, .int .u64 x, .int .i64 g, .int .i64 o, .slice pb nb cb, .slice pa na ca] TR))) (fun _ _ => True) (by kernel_rfl) (by kernel_rfl) (fun _ _ _ _ h _ => h) ⟨rfl, rfl, rfl, Nat.le_refl _, fun _ _ => rfl⟩ ?steps ?fin
              case steps =>
                refine Flow.Steps.cons (fun a W hfr hinv hdep K hK => ?_) ?_
                · have s1 : a.tmps.getD 1 undef = .pointer (some ⟨w.heap.size, 0, none⟩) := hfr.at 1 (by kernel_rfl)
                  have t1 : a.tmps[1]?.getD undef = .pointer (some ⟨w.heap.size, 0, none⟩) := by simpa using s1
                  rw [if_pos (Flow.wanted_none rfl)]
                  clear hfr hdep
                  go_simp
                  exact hK _ _ True.intro hinv (fun d hd => by cases hd; trivial)
                refine Flow.Steps.cons (fun a W hfr hinv hdep K hK => ?_) ?_
                · have s7 : a.tmps.getD 7 undef = .pointer (some ⟨w.heap.size, 4, none⟩) := hdep 7 (by kernel_rfl)
                  have t7 : a.tmps[7]?.getD undef = .pointer (some ⟨w.heap.size, 4, none⟩) := by simpa using s7
                  obtain ⟨c0, c1, c2, c3, c4, c5, c6, c7⟩ := (HB.out.below hinv HB.out.lt).c8
                  rw [if_pos (Flow.wanted_none rfl)]
                  clear hfr hdep
                  go_simp
                  exact hK _ _ True.intro hinv (fun d hd => by cases hd; trivial)
                refine Flow.Steps.cons (fun a W hfr hinv hdep K hK => ?_) ?_
                · have s8 : a.tmps.getD 8 undef = .int .i64 g := hdep 8 (by kernel_rfl)
                  have t8 : a.tmps[8]?.getD undef = .int .i64 g := by simpa using s8
                  rw [if_pos (Flow.wanted_none rfl)]
                  clear hfr hdep
                  go_simp
                  exact hK _ _ True.intro hinv (fun d hd => by cases hd; trivial)
                refine Flow.Steps.cons (fun a W hfr hinv hdep K hK => ?_) ?_
                · have s9 : a.tmps.getD 9 undef = .bool true := hdep 9 (by kernel_rfl)
                  have t9 : a.tmps[9]?.getD undef = .bool true := by simpa using s9
                  rw [if_pos (Flow.wanted_none rfl)]
                  clear hfr hdep
                  go_simp
                  exact hK _ _ True.intro hinv (fun d hd => by cases hd; trivial)
                refine Flow.Steps.cons (fun a W hfr hinv hdep K hK => ?_) ?_
                · have sg : a.tmps.getD 10 undef = .bool true := hdep 10 (by kernel_rfl)
                  have s1 : a.tmps.getD 1 undef = .pointer (some ⟨w.heap.size, 0, none⟩) := hfr.at 1 (by kernel_rfl)
                  have t1 : a.tmps[1]?.getD undef = .pointer (some ⟨w.heap.size, 0, none⟩) := by simpa using s1
                  rw [if_pos (Flow.wanted_yes 3 true 10 rfl (by kernel_rfl) sg)]
                  clear hfr hdep
                  go_simp
                  exact hK _ _ True.intro hinv (fun d hd => by cases hd; trivial)
                refine Flow.Steps.cons (fun a W hfr hinv hdep K hK => ?_) ?_
                · have sg : a.tmps.getD 10 undef = .bool true := hdep 10 (by kernel_rfl)
                  have s11 : a.tmps.getD 11 undef = .pointer (some ⟨w.heap.size, 4, none⟩) := hdep 11 (by kernel_rfl)
                  have t11 : a.tmps[11]?.getD undef = .pointer (some ⟨w.heap.size, 4, none⟩) := by simpa using s11
                  obtain ⟨c0, c1, c2, c3, c4, c5, c6, c7⟩ := (HB.out.below hinv HB.out.lt).c8
                  rw [if_pos (Flow.wanted_yes 3 true 10 rfl (by kernel_rfl) sg)]
                  clear hfr hdep
                  go_simp
                  exact hK _ _ True.intro hinv (fun d hd => by cases hd; trivial)
                refine Flow.Steps.cons (fun a W hfr hinv hdep K hK => ?_) ?_
                · have sg : a.tmps.getD 10 undef = .bool true := hdep 10 (by kernel_rfl)
                  have s12 : a.tmps.getD 12 undef = .int .i64 g := hdep 12 (by kernel_rfl)
                  have t12 : a.tmps[12]?.getD undef = .int .i64 g := by simpa using s12
                  rw [if_pos (Flow.wanted_yes 3 true 10 rfl (by kernel_rfl) sg)]
                  clear hfr hdep
                  go_simp
                  exact hK _ _ True.intro hinv (fun d hd => by cases hd; trivial)
                refine Flow.Steps.cons (fun a W hfr hinv hdep K hK => ?_) ?_
                · have s10 : a.tmps.getD 10 undef = .bool true := hdep 10 (by kernel_rfl)
                  have t10 : a.tmps[10]?.getD undef = .bool true := by simpa using s10
                  have s13 : a.tmps.getD 13 undef = .bool true := hdep 13 (by kernel_rfl)
                  have t13 : a.tmps[13]?.getD undef = .bool true := by simpa using s13
                  rw [if_pos (Flow.wanted_none rfl)]
                  clear hfr hdep
                  go_simp
                  exact hK _ _ True.intro hinv (fun d hd => by cases hd; trivial)
                refine Flow.Steps.cons (fun a W hfr hinv hdep K hK => ?_) ?_
                · have s14 : a.tmps.getD 14 undef = .bool true := hdep 14 (by kernel_rfl)
                  have t14 : a.tmps[14]?.getD undef = .bool true := by simpa using s14
                  rw [if_pos (Flow.wanted_none rfl)]
                  clear hfr hdep
                  go_simp
                  exact hK _ _ True.intro hinv (fun d hd => by cases hd; trivial)
                refine Flow.Steps.cons (fun a W hfr hinv hdep K hK => ?_) ?_
                · have sg : a.tmps.getD 15 undef = .bool true := hdep 15 (by kernel_rfl)
                  have s3 : a.tmps.getD 3 undef = .int .i64 na := hfr.at 3 (by kernel_rfl)
                  have t3 : a.tmps[3]?.getD undef = .int .i64 na := by simpa using s3
                  rw [if_pos (Flow.wanted_yes 8 true 15 rfl (by kernel_rfl) sg)]
                  clear hfr hdep
                  go_simp
                  exact hK _ _ True.intro hinv (fun d hd => by cases hd; trivial)
                refine Flow.Steps.cons (fun a W hfr hinv hdep K hK => ?_) ?_
                · have sg : a.tmps.getD 15 undef = .bool true := hdep 15 (by kernel_rfl)
                  have s16 : a.tmps.getD 16 undef = .int .i64 na := hdep 16 (by kernel_rfl)
                  have t16 : a.tmps[16]?.getD undef = .int .i64 na := by simpa using s16
                  rw [if_pos (Flow.wanted_yes 8 true 15 rfl (by kernel_rfl) sg)]
                  clear hfr hdep
                  go_simp
                  exact hK _ _ True.intro hinv (fun d hd => by cases hd; trivial)
                refine Flow.Steps.cons (fun a W hfr hinv hdep K hK => ?_) ?_
                · have s15 : a.tmps.getD 15 undef = .bool true := hdep 15 (by kernel_rfl)
                  have t15 : a.tmps[15]?.getD undef = .bool true := by simpa using s15
                  have s17 : a.tmps.getD 17 undef = .bool true := hdep 17 (by kernel_rfl)
                  have t17 : a.tmps[17]?.getD undef = .bool true := by simpa using s17
                  rw [if_pos (Flow.wanted_none rfl)]
                  clear hfr hdep
                  go_simp
                  exact hK _ _ True.intro hinv (fun d hd => by cases hd; trivial)
                refine Flow.Steps.cons (fun a W hfr hinv hdep K hK => ?_) ?_
                · have s18 : a.tmps.getD 18 undef = .bool true := hdep 18 (by kernel_rfl)
                  have t18 : a.tmps[18]?.getD undef = .bool true := by simpa using s18
                  rw [if_pos (Flow.wanted_none rfl)]
                  clear hfr hdep
                  go_simp
                  exact hK _ _ True.intro hinv (fun d hd => by cases hd; trivial)
                refine Flow.Steps.cons (fun a W hfr hinv hdep K hK => ?_) ?_
                · have sg : a.tmps.getD 19 undef = .bool true := hdep 19 (by kernel_rfl)
                  have s1 : a.tmps.getD 1 undef = .pointer (some ⟨w.heap.size, 0, none⟩) := hfr.at 1 (by kernel_rfl)
                  have t1 : a.tmps[1]?.getD undef = .pointer (some ⟨w.heap.size, 0, none⟩) := by simpa using s1
                  rw [if_pos (Flow.wanted_yes 12 true 19 rfl (by kernel_rfl) sg)]
                  clear hfr hdep
                  go_simp
                  exact hK _ _ True.intro hinv (fun d hd => by cases hd; trivial)
                refine Flow.Steps.cons (fun a W hfr hinv hdep K hK => ?_) ?_
                · have sg : a.tmps.getD 19 undef = .bool true := hdep 19 (by kernel_rfl)
                  have s20 : a.tmps.getD 20 undef = .pointer (some ⟨w.heap.size, 6, none⟩) := hdep 20 (by kernel_rfl)
                  have t20 : a.tmps[20]?.getD undef = .pointer (some ⟨w.heap.size, 6, none⟩) := by simpa using s20
                  obtain ⟨c0, c1, c2, c3, c4, c5, c6, c7⟩ := (HB.out.below hinv HB.out.lt).c8
                  rw [if_pos (Flow.wanted_yes 12 true 19 rfl (by kernel_rfl) sg)]
                  clear hfr hdep
                  go_simp
                  exact hK _ _ True.intro hinv (fun d hd => by cases hd; trivial)
                refine Flow.Steps.cons (fun a W hfr hinv hdep K hK => ?_) ?_
                · have sg : a.tmps.getD 19 undef = .bool true := hdep 19 (by kernel_rfl)
                  have s21 : a.tmps.getD 21 undef = .slice pb nb cb := hdep 21 (by kernel_rfl)
                  have t21 : a.tmps[21]?.getD undef = .slice pb nb cb := by simpa using s21
                  rw [if_pos (Flow.wanted_yes 12 true 19 rfl (by kernel_rfl) sg)]
                  clear hfr hdep
                  go_simp
                  exact hK _ _ True.intro hinv (fun d hd => by cases hd; trivial)
                refine Flow.Steps.cons (fun a W hfr hinv hdep K hK => ?_) ?_
                · have sg : a.tmps.getD 19 undef = .bool true := hdep 19 (by kernel_rfl)
                  have s1 : a.tmps.getD 1 undef = .pointer (some ⟨w.heap.size, 0, none⟩) := hfr.at 1 (by kernel_rfl)
                  have t1 : a.tmps[1]?.getD undef = .pointer (some ⟨w.heap.size, 0, none⟩) := by simpa using s1
                  rw [if_pos (Flow.wanted_yes 12 true 19 rfl (by kernel_rfl) sg)]
                  clear hfr hdep
                  go_simp
                  exact hK _ _ True.intro hinv (fun d hd => by cases hd; trivial)
                refine Flow.Steps.cons (fun a W hfr hinv hdep K hK => ?_) ?_
                · have sg : a.tmps.getD 19 undef = .bool true := hdep 19 (by kernel_rfl)
                  have s23 : a.tmps.getD 23 undef = .pointer (some ⟨w.heap.size, 0, none⟩) := hdep 23 (by kernel_rfl)
                  have t23 : a.tmps[23]?.getD undef = .pointer (some ⟨w.heap.size, 0, none⟩) := by simpa using s23
                  obtain ⟨c0, c1, c2, c3, c4, c5, c6, c7⟩ := (HB.out.below hinv HB.out.lt).c8
                  rw [if_pos (Flow.wanted_yes 12 true 19 rfl (by kernel_rfl) sg)]
                  clear hfr hdep
                  go_simp
                  exact hK _ _ True.intro hinv (fun d hd => by cases hd; trivial)
                refine Flow.Steps.cons (fun a W hfr hinv hdep K hK => ?_) ?_
                · have sg : a.tmps.getD 19 undef = .bool true := hdep 19 (by kernel_rfl)
                  have s3 : a.tmps.getD 3 undef = .int .i64 na := hfr.at 3 (by kernel_rfl)
                  have t3 : a.tmps[3]?.getD undef = .int .i64 na := by simpa using s3
                  rw [if_pos (Flow.wanted_yes 12 true 19 rfl (by kernel_rfl) sg)]
                  clear hfr hdep
                  go_simp
                  exact hK _ _ True.intro hinv (fun d hd => by cases hd; trivial)
                refine Flow.Steps.cons (fun a W hfr hinv hdep K hK => ?_) ?_
                · have sg : a.tmps.getD 19 undef = .bool true := hdep 19 (by kernel_rfl)
                  have s24 : a.tmps.getD 24 undef = .int .i64 k := hdep 24 (by kernel_rfl)
                  have t24 : a.tmps[24]?.getD undef = .int .i64 k := by simpa using s24
                  have s25 : a.tmps.getD 25 undef = .int .i64 na := hdep 25 (by kernel_rfl)
                  have t25 : a.tmps[25]?.getD undef = .int .i64 na := by simpa using s25
                  rw [if_pos (Flow.wanted_yes 12 true 19 rfl (by kernel_rfl) sg)]
                  clear hfr hdep
                  go_simp
                  refine (HF.out W).mono ?_
                  rintro e W' ⟨rfl, rfl⟩
                  exact hK _ _ True.intro hinv (fun d hd => by cases hd; trivial)
                refine Flow.Steps.cons (fun a W hfr hinv hdep K hK => ?_) ?_
                · have sg : a.tmps.getD 19 undef = .bool true := hdep 19 (by kernel_rfl)
                  have s22 : a.tmps.getD 22 undef = .int .i64 nb := hdep 22 (by kernel_rfl)
                  have t22 : a.tmps[22]?.getD undef = .int .i64 nb := by simpa using s22
                  have s26 : a.tmps.getD 26 undef = .int .i64 (befR k na) := hdep 26 (by kernel_rfl)
                  have t26 : a.tmps[26]?.getD undef = .int .i64 (befR k na) := by simpa using s26
                  have hq := HQ.out
                  rw [if_pos (Flow.wanted_yes 12 true 19 rfl (by kernel_rfl) sg)]
                  clear hfr hdep
                  go_simp
                  exact hK _ _ True.intro hinv (fun d hd => by cases hd; trivial)
                refine Flow.Steps.cons (fun a W hfr hinv hdep K hK => ?_) ?_
                · have s19 : a.tmps.getD 19 undef = .bool true := hdep 19 (by kernel_rfl)
                  have t19 : a.tmps[19]?.getD undef = .bool true := by simpa using s19
                  have s27 : a.tmps.getD 27 undef = .bool true := hdep 27 (by kernel_rfl)
                  have t27 : a.tmps[27]?.getD undef = .bool true := by simpa using s27
                  rw [if_pos (Flow.wanted_none rfl)]
                  clear hfr hdep
                  go_simp
                  exact hK _ _ True.intro hinv (fun d hd => by cases hd; trivial)
                refine Flow.Steps.cons (fun a W hfr hinv hdep K hK => ?_) ?_
                · have s28 : a.tmps.getD 28 undef = .bool true := hdep 28 (by kernel_rfl)
                  have t28 : a.tmps[28]?.getD undef = .bool true := by simpa using s28
                  rw [if_pos (Flow.wanted_none rfl)]
                  clear hfr hdep
                  go_simp
                  exact hK _ _ True.intro hinv (fun d hd => by cases hd; trivial)
                refine Flow.Steps.cons (fun a W hfr hinv hdep K hK => ?_) ?_
                · have sg : a.tmps.getD 29 undef = .bool true := hdep 29 (by kernel_rfl)
                  have s1 : a.tmps.getD 1 undef = .pointer (some ⟨w.heap.size, 0, none⟩) := hfr.at 1 (by kernel_rfl)
                  have t1 : a.tmps[1]?.getD undef = .pointer (some ⟨w.heap.size, 0, none⟩) := by simpa using s1
                  rw [if_pos (Flow.wanted_yes 22 true 29 rfl (by kernel_rfl) sg)]
                  clear hfr hdep
                  go_simp
                  exact hK _ _ True.intro hinv (fun d hd => by cases hd; trivial)
                refine Flow.Steps.cons (fun a W hfr hinv hdep K hK => ?_) ?_
                · have sg : a.tmps.getD 29 undef = .bool true := hdep 29 (by kernel_rfl)
                  have s30 : a.tmps.getD 30 undef = .pointer (some ⟨w.heap.size, 5, none⟩) := hdep 30 (by kernel_rfl)
                  have t30 : a.tmps[30]?.getD undef = .pointer (some ⟨w.heap.size, 5, none⟩) := by simpa using s30
                  obtain ⟨c0, c1, c2, c3, c4, c5, c6, c7⟩ := (HB.out.below hinv HB.out.lt).c8
                  rw [if_pos (Flow.wanted_yes 22 true 29 rfl (by kernel_rfl) sg)]
                  clear hfr hdep
                  go_simp
                  exact hK _ _ True.intro hinv (fun d hd => by cases hd; trivial)
                refine Flow.Steps.cons (fun a W hfr hinv hdep K hK => ?_) ?_
                · have sg : a.tmps.getD 29 undef = .bool true := hdep 29 (by kernel_rfl)
                  have s31 : a.tmps.getD 31 undef = .int .i64 o := hdep 31 (by kernel_rfl)
                  have t31 : a.tmps[31]?.getD undef = .int .i64 o := by simpa using s31
                  rw [if_pos (Flow.wanted_yes 22 true 29 rfl (by kernel_rfl) sg)]
                  clear hfr hdep
                  go_simp
                  exact hK _ _ True.intro hinv (fun d hd => by cases hd; trivial)
                refine Flow.Steps.cons (fun a W hfr hinv hdep K hK => ?_) ?_
                · have s29 : a.tmps.getD 29 undef = .bool true := hdep 29 (by kernel_rfl)
                  have t29 : a.tmps[29]?.getD undef = .bool true := by simpa using s29
                  have s32 : a.tmps.getD 32 undef = .bool true := hdep 32 (by kernel_rfl)
                  have t32 : a.tmps[32]?.getD undef = .bool true := by simpa using s32
                  rw [if_pos (Flow.wanted_none rfl)]
                  clear hfr hdep
                  go_simp
                  exact hK _ _ True.intro hinv (fun d hd => by cases hd; trivial)
                refine Flow.Steps.cons (fun a W hfr hinv hdep K hK => ?_) ?_
                · have s33 : a.tmps.getD 33 undef = .bool true := hdep 33 (by kernel_rfl)
                  have t33 : a.tmps[33]?.getD undef = .bool true := by simpa using s33
                  rw [if_pos (Flow.wanted_none rfl)]
                  clear hfr hdep
                  go_simp
                  exact hK _ _ True.intro hinv (fun d hd => by cases hd; trivial)
                refine Flow.Steps.cons (fun a W hfr hinv hdep K hK => ?_) ?_
                · have sg : a.tmps.getD 34 undef = .bool true := hdep 34 (by kernel_rfl)
                  have s1 : a.tmps.getD 1 undef = .pointer (some ⟨w.heap.size, 0, none⟩) := hfr.at 1 (by kernel_rfl)
                  have t1 : a.tmps[1]?.getD undef = .pointer (some ⟨w.heap.size, 0, none⟩) := by simpa using s1
                  rw [if_pos (Flow.wanted_yes 27 true 34 rfl (by kernel_rfl) sg)]
                  clear hfr hdep
                  go_simp
                  exact hK _ _ True.intro hinv (fun d hd => by cases hd; trivial)
                refine Flow.Steps.cons (fun a W hfr hinv hdep K hK => ?_) ?_
                · have sg : a.tmps.getD 34 undef = .bool true := hdep 34 (by kernel_rfl)
                  have s35 : a.tmps.getD 35 undef = .pointer (some ⟨w.heap.size, 5, none⟩) := hdep 35 (by kernel_rfl)
                  have t35 : a.tmps[35]?.getD undef = .pointer (some ⟨w.heap.size, 5, none⟩) := by simpa using s35
                  obtain ⟨c0, c1, c2, c3, c4, c5, c6, c7⟩ := (HB.out.below hinv HB.out.lt).c8
                  rw [if_pos (Flow.wanted_yes 27 true 34 rfl (by kernel_rfl) sg)]
                  clear hfr hdep
                  go_simp
                  exact hK _ _ True.intro hinv (fun d hd => by cases hd; trivial)
                refine Flow.Steps.cons (fun a W hfr hinv hdep K hK => ?_) ?_
                · have sg : a.tmps.getD 34 undef = .bool true := hdep 34 (by kernel_rfl)
                  have s3 : a.tmps.getD 3 undef = .int .i64 na := hfr.at 3 (by kernel_rfl)
                  have t3 : a.tmps[3]?.getD undef = .int .i64 na := by simpa using s3
                  rw [if_pos (Flow.wanted_yes 27 true 34 rfl (by kernel_rfl) sg)]
                  clear hfr hdep
                  go_simp
                  exact hK _ _ True.intro hinv (fun d hd => by cases hd; trivial)
                refine Flow.Steps.cons (fun a W hfr hinv hdep K hK => ?_) ?_
                · have sg : a.tmps.getD 34 undef = .bool true := hdep 34 (by kernel_rfl)
                  have s37 : a.tmps.getD 37 undef = .int .i64 na := hdep 37 (by kernel_rfl)
                  have t37 : a.tmps[37]?.getD undef = .int .i64 na := by simpa using s37
                  have hw := HW.out
                  rw [if_pos (Flow.wanted_yes 27 true 34 rfl (by kernel_rfl) sg)]
                  clear hfr hdep
                  go_simp
                  exact hK _ _ True.intro hinv (fun d hd => by cases hd; trivial)
                refine Flow.Steps.cons (fun a W hfr hinv hdep K hK => ?_) ?_
                · have sg : a.tmps.getD 34 undef = .bool true := hdep 34 (by kernel_rfl)
                  have s36 : a.tmps.getD 36 undef = .int .i64 o := hdep 36 (by kernel_rfl)
                  have t36 : a.tmps[36]?.getD undef = .int .i64 o := by simpa using s36
                  have s38 : a.tmps.getD 38 undef = .int .i64 (248 - (na : Int)) := hdep 38 (by kernel_rfl)
                  have t38 : a.tmps[38]?.getD undef = .int .i64 (248 - (na : Int)) := by simpa using s38
                  rw [if_pos (Flow.wanted_yes 27 true 34 rfl (by kernel_rfl) sg)]
                  clear hfr hdep
                  go_simp
                  exact hK _ _ True.intro hinv (fun d hd => by cases hd; trivial)
                refine Flow.Steps.cons (fun a W hfr hinv hdep K hK => ?_) ?_
                · have s34 : a.tmps.getD 34 undef = .bool true := hdep 34 (by kernel_rfl)
                  have t34 : a.tmps[34]?.getD undef = .bool true := by simpa using s34
                  have s39 : a.tmps.getD 39 undef = .bool false := hdep 39 (by kernel_rfl)
                  have t39 : a.tmps[39]?.getD undef = .bool false := by simpa using s39
                  rw [if_pos (Flow.wanted_none rfl)]
                  clear hfr hdep
                  go_simp
                  exact hK _ _ True.intro hinv (fun d hd => by cases hd; trivial)
                refine Flow.Steps.cons (fun a W hfr hinv hdep K hK => ?_) ?_
                · have s40 : a.tmps.getD 40 undef = .bool false := hdep 40 (by kernel_rfl)
                  have t40 : a.tmps[40]?.getD undef = .bool false := by simpa using s40
                  rw [if_pos (Flow.wanted_none rfl)]
                  clear hfr hdep
                  go_simp
                  exact hK _ _ True.intro hinv (fun d hd => by cases hd; trivial)
                exact True.intro
              case fin =>
                intro a W hfr hfin hsl
                have s2 : a.tmps.getD 2 undef = .bool false := hsl 34 _ 2 rfl rfl
                have t2 : a.tmps[2]?.getD undef = .bool false := by simpa using s2
                have e := Flow.frame hfr [7, 8, 9, 10, 11, 12, 13, 14, 15, 16, 17, 18, 19, 20, 21, 22, 23, 24, 25, 26, 27, 28, 29, 30, 31, 32, 33, 34, 35, 36, 37, 38, 39, 40, 2] (List.range 41) (by kernel_rfl) (by kernel_rfl)
                simp [List.range, List.range.loop] at e
                rw [t2] at e
                rw [e]
                clear e hfr hsl s2 t2
                rename_i K2 hK2
                refine hK2 _ _ ?_
                go_wp2_with fail
                go_ret
                exact ⟨ret_b HR.out.symm, grow1 hfin⟩
          · have HR : Hid (fitQ k g o nb na = false) := Lib.hid (decide_eq_false (by omega))
            have d4 : decide (0 ≤ o) = false := decide_eq_false h4
            go_enter Try.func77, Try.ntmps77
            go_wp2_with fail
            refine Flow.region (SlF4 k t p x g o pb nb cb pa na ca w.heap.size (befR k na)) (Gr (w.alloc (.cells #[.int .i64 k, .int .u64 t, .int .u64 p, .int .u64 x, .int .i64 g, .int .i64 o, .slice pb nb cb, .slice pa na ca] TR))) (fun _ _ => True) (by kernel_rfl) (by kernel_rfl) (fun _ _ _ _ h _ => h) ⟨rfl, rfl, rfl, Nat.le_refl _, fun _ _ => rfl⟩ ?steps ?fin
            case steps =>
              refine Flow.Steps.cons (fun a W hfr hinv hdep K hK => ?_) ?_
              · have s1 : a.tmps.getD 1 undef = .pointer (some ⟨w.heap.size, 0, none⟩) := hfr.at 1 (by kernel_rfl)
                have t1 : a.tmps[1]?.getD undef = .pointer (some ⟨w.heap.size, 0, none⟩) := by simpa using s1
                rw [if_pos (Flow.wanted_none rfl)]
                clear hfr hdep
                go_simp
                exact hK _ _ True.intro hinv (fun d hd => by cases hd; trivial)
              refine Flow.Steps.cons (fun a W hfr hinv hdep K hK => ?_) ?_
              · have s7 : a.tmps.getD 7 undef = .pointer (some ⟨w.heap.size, 4, none⟩) := hdep 7 (by kernel_rfl)
                have t7 : a.tmps[7]?.getD undef = .pointer (some ⟨w.heap.size, 4, none⟩) := by simpa using s7
                obtain ⟨c0, c1, c2, c3, c4, c5, c6, c7⟩ := (HB.out.below hinv HB.out.lt).c8
                rw [if_pos (Flow.wanted_none rfl)]
                clear hfr hdep
                go_simp
                exact hK _ _ True.intro hinv (fun d hd => by cases hd; trivial)
              refine Flow.Steps.cons (fun a W hfr hinv hdep K hK => ?_) ?_
              · have s8 : a.tmps.getD 8 undef = .int .i64 g := hdep 8 (by kernel_rfl)
                have t8 : a.tmps[8]?.getD undef = .int .i64 g := by simpa using s8
                rw [if_pos (Flow.wanted_none rfl)]
                clear hfr hdep
                go_simp
                exact hK _ _ True.intro hinv (fun d hd => by cases hd; trivial)
              refine Flow.Steps.cons (fun a W hfr hinv hdep K hK => ?_) ?_
              · have s9 : a.tmps.getD 9 undef = .bool true := hdep 9 (by kernel_rfl)
                have t9 : a.tmps[9]?.getD undef = .bool true := by simpa using s9
                rw [if_pos (Flow.wanted_none rfl)]
                clear hfr hdep
                go_simp
                exact hK _ _ True.intro hinv (fun d hd => by cases hd; trivial)
              refine Flow.Steps.cons (fun a W hfr hinv hdep K hK => ?_) ?_
              · have sg : a.tmps.getD 10 undef = .bool true := hdep 10 (by kernel_rfl)
                have s1 : a.tmps.getD 1 undef = .pointer (some ⟨w.heap.size, 0, none⟩) := hfr.at 1 (by kernel_rfl)
                have t1 : a.tmps[1]?.getD undef = .pointer (some ⟨w.heap.size, 0, none⟩) := by simpa using s1
                rw [if_pos (Flow.wanted_yes 3 true 10 rfl (by kernel_rfl) sg)]
                clear hfr hdep
                go_simp
                exact hK _ _ True.intro hinv (fun d hd => by cases hd; trivial)
              refine Flow.Steps.cons (fun a W hfr hinv hdep K hK => ?_) ?_
              · have sg : a.tmps.getD 10 undef = .bool true := hdep 10 (by kernel_rfl)
                have s11 : a.tmps.getD 11 undef = .pointer (some ⟨w.heap.size, 4, none⟩) := hdep 11 (by kernel_rfl)
                have t11 : a.tmps[11]?.getD undef = .pointer (some ⟨w.heap.size, 4, none⟩) := by simpa using s11
                obtain ⟨c0, c1, c2, c3, c4, c5, c6, c7⟩ := (HB.out.below hinv HB.out.lt).c8
                rw [if_pos (Flow.wanted_yes 3 true 10 rfl (by kernel_rfl) sg)]
                clear hfr hdep
                go_simp
                exact hK _ _ True.intro hinv (fun d hd => by cases hd; trivial)
              refine Flow.Steps.cons (fun a W hfr hinv hdep K hK => ?_) ?_
              · have sg : a.tmps.getD 10 undef = .bool true := hdep 10 (by kernel_rfl)
                have s12 : a.tmps.getD 12 undef = .int .i64 g := hdep 12 (by kernel_rfl)
                have t12 : a.tmps[12]?.getD undef = .int .i64 g := by simpa using s12
                rw [if_pos (Flow.wanted_yes 3 true 10 rfl (by kernel_rfl) sg)]
                clear hfr hdep
                go_simp
                exact hK _ _ True.intro hinv (fun d hd => by cases hd; trivial)
              refine Flow.Steps.cons (fun a W hfr hinv hdep K hK => ?_) ?_
              · have s10 : a.tmps.getD 10 undef = .bool true := hdep 10 (by kernel_rfl)
                have t10 : a.tmps[10]?.getD undef = .bool true := by simpa using s10
                have s13 : a.tmps.getD 13 undef = .bool true := hdep 13 (by kernel_rfl)
                have t13 : a.tmps[13]?.getD undef = .bool true := by simpa using s13
                rw [if_pos (Flow.wanted_none rfl)]
                clear hfr hdep
                go_simp
                exact hK _ _ True.intro hinv (fun d hd => by cases hd; trivial)
              refine Flow.Steps.cons (fun a W hfr hinv hdep K hK => ?_) ?_
              · have s14 : a.tmps.getD 14 undef = .bool true := hdep 14 (by kernel_rfl)
                have t14 : a.tmps[14]?.getD undef = .bool true := by simpa using s14
                rw [if_pos (Flow.wanted_none rfl)]
                clear hfr hdep
                go_simp
                exact hK _ _ True.intro hinv (fun d hd => by cases hd; trivial)
              refine Flow.Steps.cons (fun a W hfr hinv hdep K hK => ?_) ?_
              · have sg : a.tmps.getD 15 undef = .bool true := hdep 15 (by kernel_rfl)
                have s3 : a.tmps.getD 3 undef = .int .i64 na := hfr.at 3 (by kernel_rfl)
                have t3 : a.tmps[3]?.getD undef = .int .i64 na := by simpa using s3
                rw [if_pos (Flow.wanted_yes 8 true 15 rfl (by kernel_rfl) sg)]
                clear hfr hdep
                go_simp
                exact hK _ _ True.intro hinv (fun d hd => by cases hd; trivial)
              refine Flow.Steps.cons (fun a W hfr hinv hdep K hK => ?_) ?_
              · have sg : a.tmps.getD 15 undef = .bool true := hdep 15 (by kernel_rfl)
                have s16 : a.tmps.getD 16 undef = .int .i64 na := hdep 16 (by kernel_rfl)
                have t16 : a.tmps[16]?.getD undef = .int .i64 na := by simpa using s16
                rw [if_pos (Flow.wanted_yes 8 true 15 rfl (by kernel_rfl) sg)]
                clear hfr hdep
                go_simp
                exact hK _ _ True.intro hinv (fun d hd => by cases hd; trivial)
              refine Flow.Steps.cons (fun a W hfr hinv hdep K hK => ?_) ?_
              · have s15 : a.tmps.getD 15 undef = .bool true := hdep 15 (by kernel_rfl)
                have t15 : a.tmps[15]?.getD undef = .bool true := by simpa using s15
                have s17 : a.tmps.getD 17 undef = .bool true := hdep 17 (by kernel_rfl)
                have t17 : a.tmps[17]?.getD undef = .bool true := by simpa using s17
                rw [if_pos (Flow.wanted_none rfl)]
                clear hfr hdep
                go_simp
                exact hK _ _ True.intro hinv (fun d hd => by cases hd; trivial)
              refine Flow.Steps.cons (fun a W hfr hinv hdep K hK => ?_) ?_
              · have s18 : a.tmps.getD 18 undef = .bool true := hdep 18 (by kernel_rfl)
                have t18 : a.tmps[18]?.getD undef = .bool true := by simpa using s18
                rw [if_pos (Flow.wanted_none rfl)]
                clear hfr hdep
                go_simp
                exact hK _ _ True.intro hinv (fun d hd => by cases hd; trivial)
              refine Flow.Steps.cons (fun a W hfr hinv hdep K hK => ?_) ?_
              · have sg : a.tmps.getD 19 undef = .bool true := hdep 19 (by kernel_rfl)
                have s1 : a.tmps.getD 1 undef = .pointer (some ⟨w.heap.size, 0, none⟩) := hfr.at 1 (by kernel_rfl)
                have t1 : a.tmps[1]?.getD undef = .pointer (some ⟨w.heap.size, 0, none⟩) := by simpa using s1
                rw [if_pos (Flow.wanted_yes 12 true 19 rfl (by kernel_rfl) sg)]
                clear hfr hdep
                go_simp
                exact hK _ _ True.intro hinv (fun d hd => by cases hd; trivial)
              refine Flow.Steps.cons (fun a W hfr hinv hdep K hK => ?_) ?_
              · have sg : a.tmps.getD 19 undef = .bool true := hdep 19 (by kernel_rfl)
                have s20 : a.tmps.getD 20 undef = .pointer (some ⟨w.heap.size, 6, none⟩) := hdep 20 (by kernel_rfl)
                have t20 : a.tmps[20]?.getD undef = .pointer (some ⟨w.heap.size, 6, none⟩) := by simpa using s20
                obtain ⟨c0, c1, c2, c3, c4, c5, c6, c7⟩ := (HB.out.below hinv HB.out.lt).c8
                rw [if_pos (Flow.wanted_yes 12 true 19 rfl (by kernel_rfl) sg)]
                clear hfr hdep
                go_simp
                exact hK _ _ True.intro hinv (fun d hd => by cases hd; trivial)
              refine Flow.Steps.cons (fun a W hfr hinv hdep K hK => ?_) ?_
              · have sg : a.tmps.getD 19 undef = .bool true := hdep 19 (by kernel_rfl)
                have s21 : a.tmps.getD 21 undef = .slice pb nb cb := hdep 21 (by kernel_rfl)
                have t21 : a.tmps[21]?.getD undef = .slice pb nb cb := by simpa using s21
                rw [if_pos (Flow.wanted_yes 12 true 19 rfl (by kernel_rfl) sg)]
                clear hfr hdep
                go_simp
                exact hK _ _ True.intro hinv (fun d hd => by cases hd; trivial)
              refine Flow.Steps.cons (fun a W hfr hinv hdep K hK => ?_) ?_
              · have sg : a.tmps.getD 19 undef = .bool true := hdep 19 (by kernel_rfl)
                have s1 : a.tmps.getD 1 undef = .pointer (some ⟨w.heap.size, 0, none⟩) := hfr.at 1 (by kernel_rfl)
                have t1 : a.tmps[1]?.getD undef = .pointer (some ⟨w.heap.size, 0, none⟩) := by simpa using s1
                rw [if_pos (Flow.wanted_yes 12 true 19 rfl (by kernel_rfl) sg)]
                clear hfr hdep
                go_simp
                exact hK _ _ True.intro hinv (fun d hd => by cases hd; trivial)
              refine Flow.Steps.cons (fun a W hfr hinv hdep K hK => ?_) ?_
              · have sg : a.tmps.getD 19 undef = .bool true := hdep 19 (by kernel_rfl)
                have s23 : a.tmps.getD 23 undef = .pointer (some ⟨w.heap.size, 0, none⟩) := hdep 23 (by kernel_rfl)
                have t23 : a.tmps[23]?.getD undef = .pointer (some ⟨w.heap.size, 0, none⟩) := by simpa using s23
                obtain ⟨c0, c1, c2, c3, c4, c5, c6, c7⟩ := (HB.out.below hinv HB.out.lt).c8
                rw [if_pos (Flow.wanted_yes 12 true 19 rfl (by kernel_rfl) sg)]
                clear hfr hdep
                go_simp
                exact hK _ _ True.intro hinv (fun d hd => by cases hd; trivial)
              refine Flow.Steps.cons (fun a W hfr hinv hdep K hK => ?_) ?_
              · have sg : a.tmps.getD 19 undef = .bool true := hdep 19 (by kernel_rfl)
                have s3 : a.tmps.getD 3 undef = .int .i64 na := hfr.at 3 (by kernel_rfl)
                have t3 : a.tmps[3]?.getD undef = .int .i64 na := by simpa using s3
                rw [if_pos (Flow.wanted_yes 12 true 19 rfl (by kernel_rfl) sg)]
                clear hfr hdep
                go_simp
                exact hK _ _ True.intro hinv (fun d hd => by cases hd; trivial)
              refine Flow.Steps.cons (fun a W hfr hinv hdep K hK => ?_) ?_
              · have sg : a.tmps.getD 19 undef = .bool true := hdep 19 (by kernel_rfl)
                have s24 : a.tmps.getD 24 undef = .int .i64 k := hdep 24 (by kernel_rfl)
                have t24 : a.tmps[24]?.getD undef = .int .i64 k := by simpa using s24
                have s25 : a.tmps.getD 25 undef = .int .i64 na := hdep 25 (by kernel_rfl)
                have t25 : a.tmps[25]?.getD undef = .int .i64 na := by simpa using s25
                rw [if_pos (Flow.wanted_yes 12 true 19 rfl (by kernel_rfl) sg)]
                clear hfr hdep
                go_simp
                refine (HF.out W).mono ?_
                rintro e W' ⟨rfl, rfl⟩
                exact hK _ _ True.intro hinv (fun d hd => by cases hd; trivial)
              refine Flow.Steps.cons (fun a W hfr hinv hdep K hK => ?_) ?_
              · have sg : a.tmps.getD 19 undef = .bool true := hdep 19 (by kernel_rfl)
                have s22 : a.tmps.getD 22 undef = .int .i64 nb := hdep 22 (by kernel_rfl)
                have t22 : a.tmps[22]?.getD undef = .int .i64 nb := by simpa using s22
                have s26 : a.tmps.getD 26 undef = .int .i64 (befR k na) := hdep 26 (by kernel_rfl)
                have t26 : a.tmps[26]?.getD undef = .int .i64 (befR k na) := by simpa using s26
                have hq := HQ.out
                rw [if_pos (Flow.wanted_yes 12 true 19 rfl (by kernel_rfl) sg)]
                clear hfr hdep
                go_simp
                exact hK _ _ True.intro hinv (fun d hd => by cases hd; trivial)
              refine Flow.Steps.cons (fun a W hfr hinv hdep K hK => ?_) ?_
              · have s19 : a.tmps.getD 19 undef = .bool true := hdep 19 (by kernel_rfl)
                have t19 : a.tmps[19]?.getD undef = .bool true := by simpa using s19
                have s27 : a.tmps.getD 27 undef = .bool true := hdep 27 (by kernel_rfl)
                have t27 : a.tmps[27]?.getD undef = .bool true := by simpa using s27
                rw [if_pos (Flow.wanted_none rfl)]
                clear hfr hdep
                go_simp
                exact hK _ _ True.intro hinv (fun d hd => by cases hd; trivial)
              refine Flow.Steps.cons (fun a W hfr hinv hdep K hK => ?_) ?_
              · have s28 : a.tmps.getD 28 undef = .bool true := hdep 28 (by kernel_rfl)
                have t28 : a.tmps[28]?.getD undef = .bool true := by simpa using s28
                rw [if_pos (Flow.wanted_none rfl)]
                clear hfr hdep
                go_simp
                exact hK _ _ True.intro hinv (fun d hd => by cases hd; trivial)
              refine Flow.Steps.cons (fun a W hfr hinv hdep K hK => ?_) ?_
              · have sg : a.tmps.getD 29 undef = .bool true := hdep 29 (by kernel_rfl)
                have s1 : a.tmps.getD 1 undef = .pointer (some ⟨w.heap.size, 0, none⟩) := hfr.at 1 (by kernel_rfl)
                have t1 : a.tmps[1]?.getD undef = .pointer (some ⟨w.heap.size, 0, none⟩) := by simpa using s1
                rw [if_pos (Flow.wanted_yes 22 true 29 rfl (by kernel_rfl) sg)]
                clear hfr hdep
                go_simp
                exact hK _ _ True.intro hinv (fun d hd => by cases hd; trivial)
              refine Flow.Steps.cons (fun a W hfr hinv hdep K hK => ?_) ?_
              · have sg : a.tmps.getD 29 undef = .bool true := hdep 29 (by kernel_rfl)
                have s30 : a.tmps.getD 30 undef = .pointer (some ⟨w.heap.size, 5, none⟩) := hdep 30 (by kernel_rfl)
                have t30 : a.tmps[30]?.getD undef = .pointer (some ⟨w.heap.size, 5, none⟩) := by simpa using s30
                obtain ⟨c0, c1, c2, c3, c4, c5, c6, c7⟩ := (HB.out.below hinv HB.out.lt).c8
                rw [if_pos (Flow.wanted_yes 22 true 29 rfl (by kernel_rfl) sg)]
                clear hfr hdep
                go_simp
                exact hK _ _ True.intro hinv (fun d hd => by cases hd; trivial)
              refine Flow.Steps.cons (fun a W hfr hinv hdep K hK => ?_) ?_
              · have sg : a.tmps.getD 29 undef = .bool true := hdep 29 (by kernel_rfl)
                have s31 : a.tmps.getD 31 undef = .int .i64 o := hdep 31 (by kernel_rfl)
                have t31 : a.tmps[31]?.getD undef = .int .i64 o := by simpa using s31
                rw [if_pos (Flow.wanted_yes 22 true 29 rfl (by kernel_rfl) sg)]
                clear hfr hdep
                go_simp
                exact hK _ _ True.intro hinv (fun d hd => by cases hd; trivial)
              refine Flow.Steps.cons (fun a W hfr hinv hdep K hK => ?_) ?_
              · have s29 : a.tmps.getD 29 undef = .bool true := hdep 29 (by kernel_rfl)
                have t29 : a.tmps[29]?.getD undef = .bool true := by simpa using s29
                have s32 : a.tmps.getD 32 undef = .bool false := hdep 32 (by kernel_rfl)
                have t32 : a.tmps[32]?.getD undef = .bool false := by simpa using s32
                rw [if_pos (Flow.wanted_none rfl)]
                clear hfr hdep
                go_simp
                exact hK _ _ True.intro hinv (fun d hd => by cases hd; trivial)
              refine Flow.Steps.cons (fun a W hfr hinv hdep K hK => ?_) ?_
              · have s33 : a.tmps.getD 33 undef = .bool false := hdep 33 (by kernel_rfl)
                have t33 : a.tmps[33]?.getD undef = .bool false := by simpa using s33
                rw [if_pos (Flow.wanted_none rfl)]
                clear hfr hdep
                go_simp
                exact hK _ _ True.intro hinv (fun d hd => by cases hd; trivial)
              refine Flow.Steps.cons (fun a W hfr hinv hdep K hK => ?_) ?_
              · have sg : a.tmps.getD 34 undef = .bool !true := hdep 34 (by kernel_rfl)
                have s1 : a.tmps.getD 1 undef = .pointer (some ⟨w.heap.size, 0, none⟩) := hfr.at 1 (by kernel_rfl)
                have t1 : a.tmps[1]?.getD undef = .pointer (some ⟨w.heap.size, 0, none⟩) := by simpa using s1
                rw [if_neg (Flow.wanted_no 27 true 34 rfl (by kernel_rfl) sg)]
                clear hfr hdep
                exact hK _ _ True.intro hinv (fun d hd => by cases hd; trivial)
              refine Flow.Steps.cons (fun a W hfr hinv hdep K hK => ?_) ?_
              · have sg : a.tmps.getD 34 undef = .bool !true := hdep 34 (by kernel_rfl)
                obtain ⟨c0, c1, c2, c3, c4, c5, c6, c7⟩ := (HB.out.below hinv HB.out.lt).c8
                rw [if_neg (Flow.wanted_no 27 true 34 rfl (by kernel_rfl) sg)]
                clear hfr hdep
                exact hK _ _ True.intro hinv (fun d hd => by cases hd; trivial)
              refine Flow.Steps.cons (fun a W hfr hinv hdep K hK => ?_) ?_
              · have sg : a.tmps.getD 34 undef = .bool !true := hdep 34 (by kernel_rfl)
                have s3 : a.tmps.getD 3 undef = .int .i64 na := hfr.at 3 (by kernel_rfl)
                have t3 : a.tmps[3]?.getD undef = .int .i64 na := by simpa using s3
                rw [if_neg (Flow.wanted_no 27 true 34 rfl (by kernel_rfl) sg)]
                clear hfr hdep
                exact hK _ _ True.intro hinv (fun d hd => by cases hd; trivial)
              refine Flow.Steps.cons (fun a W hfr hinv hdep K hK => ?_) ?_
              · have sg : a.tmps.getD 34 undef = .bool !true := hdep 34 (by kernel_rfl)
                have hw := HW.out
                rw [if_neg (Flow.wanted_no 27 true 34 rfl (by kernel_rfl) sg)]
                clear hfr hdep
                exact hK _ _ True.intro hinv (fun d hd => by cases hd; trivial)
              refine Flow.Steps.cons (fun a W hfr hinv hdep K hK => ?_) ?_
              · have sg : a.tmps.getD 34 undef = .bool !true := hdep 34 (by kernel_rfl)
                rw [if_neg (Flow.wanted_no 27 true 34 rfl (by kernel_rfl) sg)]
                clear hfr hdep
                exact hK _ _ True.intro hinv (fun d hd => by cases hd; trivial)
              refine Flow.Steps.cons (fun a W hfr hinv hdep K hK => ?_) ?_
              · have s34 : a.tmps.getD 34 undef = .bool false := hdep 34 (by kernel_rfl)
                have t34 : a.tmps[34]?.getD undef = .bool false := by simpa using s34
                rw [if_pos (Flow.wanted_none rfl)]
                clear hfr hdep
                go_simp
                exact hK _ _ True.intro hinv (fun d hd => by cases hd; trivial)
              refine Flow.Steps.cons (fun a W hfr hinv hdep K hK => ?_) ?_
              · have s40 : a.tmps.getD 40 undef = .bool false := hdep 40 (by kernel_rfl)
                have t40 : a.tmps[40]?.getD undef = .bool false := by simpa using s40
                rw [if_pos (Flow.wanted_none rfl)]
                clear hfr hdep
                go_simp
                exact hK _ _ True.intro hinv (fun d hd => by cases hd; trivial)
              exact True.intro
            case fin =>
              intro a W hfr hfin hsl
              have s2 : a.tmps.getD 2 undef = .bool false := hsl 34 _ 2 rfl rfl
              have t2 : a.tmps[2]?.getD undef = .bool false := by simpa using s2
              have e := Flow.frame hfr [7, 8, 9, 10, 11, 12, 13, 14, 15, 16, 17, 18, 19, 20, 21, 22, 23, 24, 25, 26, 27, 28, 29, 30, 31, 32, 33, 34, 35, 36, 37, 38, 39, 40, 2] (List.range 41) (by kernel_rfl) (by kernel_rfl)
              simp [List.range, List.range.loop] at e
              rw [t2] at e
              rw [e]
              clear e hfr hsl s2 t2
              rename_i K2 hK2
              refine hK2 _ _ ?_
              go_wp2_with fail
              go_ret
              exact ⟨ret_b HR.out.symm, grow1 hfin⟩
        · have HR : Hid (fitQ k g o nb na = false) := Lib.hid (decide_eq_false (fun h => h3 h.2.2.2.1))
          have HQ : Hid (((nb : Int) == befR k na) = false) := Lib.hid (by simpa using h3)
          clear h3
          go_enter Try.func77, Try.ntmps77
          go_wp2_with fail
          refine Flow.region (SlF3 k t p x g o pb nb cb pa na ca w.heap.size (befR k na)) (Gr (w.alloc (.cells #[.int .i64 k, .int .u64 t, .int .u64 p, .int .u64 x, .int .i64 g, .int .i64 o, .slice pb nb cb, .slice pa na ca] TR))) (fun _ _ => True) (by kernel_rfl) (by kernel_rfl) (fun _ _ _ _ h _ => h) ⟨rfl, rfl, rfl, Nat.le_refl _, fun _ _ => rfl⟩ ?steps ?fin
          case steps =>
            refine Flow.Steps.cons (fun a W hfr hinv hdep K hK => ?_) ?_
            · have s1 : a.tmps.getD 1 undef = .pointer (some ⟨w.heap.size, 0, none⟩) := hfr.at 1 (by kernel_rfl)
              have t1 : a.tmps[1]?.getD undef = .pointer (some ⟨w.heap.size, 0, none⟩) := by simpa using s1
              rw [if_pos (Flow.wanted_none rfl)]
              clear hfr hdep
              go_simp
              exact hK _ _ True.intro hinv (fun d hd => by cases hd; trivial)
            refine Flow.Steps.cons (fun a W hfr hinv hdep K hK => ?_) ?_
            · have s7 : a.tmps.getD 7 undef = .pointer (some ⟨w.heap.size, 4, none⟩) := hdep 7 (by kernel_rfl)
              have t7 : a.tmps[7]?.getD undef = .pointer (some ⟨w.heap.size, 4, none⟩) := by simpa using s7
              obtain ⟨c0, c1, c2, c3, c4, c5, c6, c7⟩ := (HB.out.below hinv HB.out.lt).c8
              rw [if_pos (Flow.wanted_none rfl)]
              clear hfr hdep
              go_simp
              exact hK _ _ True.intro hinv (fun d hd => by cases hd; trivial)
            refine Flow.Steps.cons (fun a W hfr hinv hdep K hK => ?_) ?_
            · have s8 : a.tmps.getD 8 undef = .int .i64 g := hdep 8 (by kernel_rfl)
              have t8 : a.tmps[8]?.getD undef = .int .i64 g := by simpa using s8
              rw [if_pos (Flow.wanted_none rfl)]
              clear hfr hdep
              go_simp
              exact hK _ _ True.intro hinv (fun d hd => by cases hd; trivial)
            refine Flow.Steps.cons (fun a W hfr hinv hdep K hK => ?_) ?_
            · have s9 : a.tmps.getD 9 undef = .bool true := hdep 9 (by kernel_rfl)
              have t9 : a.tmps[9]?.getD undef = .bool true := by simpa using s9
              rw [if_pos (Flow.wanted_none rfl)]
              clear hfr hdep
              go_simp
              exact hK _ _ True.intro hinv (fun d hd => by cases hd; trivial)
            refine Flow.Steps.cons (fun a W hfr hinv hdep K hK => ?_) ?_
            · have sg : a.tmps.getD 10 undef = .bool true := hdep 10 (by kernel_rfl)
              have s1 : a.tmps.getD 1 undef = .pointer (some ⟨w.heap.size, 0, none⟩) := hfr.at 1 (by kernel_rfl)
              have t1 : a.tmps[1]?.getD undef = .pointer (some ⟨w.heap.size, 0, none⟩) := by simpa using s1
              rw [if_pos (Flow.wanted_yes 3 true 10 rfl (by kernel_rfl) sg)]
              clear hfr hdep
              go_simp
              exact hK _ _ True.intro hinv (fun d hd => by cases hd; trivial)
            refine Flow.Steps.cons (fun a W hfr hinv hdep K hK => ?_) ?_
            · have sg : a.tmps.getD 10 undef = .bool true := hdep 10 (by kernel_rfl)
              have s11 : a.tmps.getD 11 undef = .pointer (some ⟨w.heap.size, 4, none⟩) := hdep 11 (by kernel_rfl)
              have t11 : a.tmps[11]?.getD undef = .pointer (some ⟨w.heap.size, 4, none⟩) := by simpa using s11
              obtain ⟨c0, c1, c2, c3, c4, c5, c6, c7⟩ := (HB.out.below hinv HB.out.lt).c8
              rw [if_pos (Flow.wanted_yes 3 true 10 rfl (by kernel_rfl) sg)]
              clear hfr hdep
              go_simp
              exact hK _ _ True.intro hinv (fun d hd => by cases hd; trivial)
            refine Flow.Steps.cons (fun a W hfr hinv hdep K hK => ?_) ?_
            · have sg : a.tmps.getD 10 undef = .bool true := hdep 10 (by kernel_rfl)
              have s12 : a.tmps.getD 12 undef = .int .i64 g := hdep 12 (by kernel_rfl)
              have t12 : a.tmps[12]?.getD undef = .int .i64 g := by simpa using s12
              rw [if_pos (Flow.wanted_yes 3 true 10 rfl (by kernel_rfl) sg)]
              clear hfr hdep
              go_simp
              exact hK _ _ True.intro hinv (fun d hd => by cases hd; trivial)
            refine Flow.Steps.cons (fun a W hfr hinv hdep K hK => ?_) ?_
            · have s10 : a.tmps.getD 10 undef = .bool true := hdep 10 (by kernel_rfl)
              have t10 : a.tmps[10]?.getD undef = .bool true := by simpa using s10
              have s13 : a.tmps.getD 13 undef = .bool true := hdep 13 (by kernel_rfl)
              have t13 : a.tmps[13]?.getD undef = .bool true := by simpa using s13
              rw [if_pos (Flow.wanted_none rfl)]
              clear hfr hdep
              go_simp
              exact hK _ _ True.intro hinv (fun d hd => by cases hd; trivial)
            refine Flow.Steps.cons (fun a W hfr hinv hdep K hK => ?_) ?_
            · have s14 : a.tmps.getD 14 undef = .bool true := hdep 14 (by kernel_rfl)
              have t14 : a.tmps[14]?.getD undef = .bool true := by simpa using s14
              rw [if_pos (Flow.wanted_none rfl)]
              clear hfr hdep
              go_simp
              exact hK _ _ True.intro hinv (fun d hd => by cases hd; trivial)
            refine Flow.Steps.cons (fun a W hfr hinv hdep K hK => ?_) ?_
            · have sg : a.tmps.getD 15 undef = .bool true := hdep 15 (by kernel_rfl)
              have s3 : a.tmps.getD 3 undef = .int .i64 na := hfr.at 3 (by kernel_rfl)
              have t3 : a.tmps[3]?.getD undef = .int .i64 na := by simpa using s3
              rw [if_pos (Flow.wanted_yes 8 true 15 rfl (by kernel_rfl) sg)]
              clear hfr hdep
              go_simp
              exact hK _ _ True.intro hinv (fun d hd => by cases hd; trivial)
            refine Flow.Steps.cons (fun a W hfr hinv hdep K hK => ?_) ?_
            · have sg : a.tmps.getD 15 undef = .bool true := hdep 15 (by kernel_rfl)
              have s16 : a.tmps.getD 16 undef = .int .i64 na := hdep 16 (by kernel_rfl)
              have t16 : a.tmps[16]?.getD undef = .int .i64 na := by simpa using s16
              rw [if_pos (Flow.wanted_yes 8 true 15 rfl (by kernel_rfl) sg)]
              clear hfr hdep
              go_simp
              exact hK _ _ True.intro hinv (fun d hd => by cases hd; trivial)
            refine Flow.Steps.cons (fun a W hfr hinv hdep K hK => ?_) ?_
            · have s15 : a.tmps.getD 15 undef = .bool true := hdep 15 (by kernel_rfl)
              have t15 : a.tmps[15]?.getD undef = .bool true := by simpa using s15
              have s17 : a.tmps.getD 17 undef = .bool true := hdep 17 (by kernel_rfl)
              have t17 : a.tmps[17]?.getD undef = .bool true := by simpa using s17
              rw [if_pos (Flow.wanted_none rfl)]
              clear hfr hdep
              go_simp
              exact hK _ _ True.intro hinv (fun d hd => by cases hd; trivial)
            refine Flow.Steps.cons (fun a W hfr hinv hdep K hK => ?_) ?_
            · have s18 : a.tmps.getD 18 undef = .bool true := hdep 18 (by kernel_rfl)
              have t18 : a.tmps[18]?.getD undef = .bool true := by simpa using s18
              rw [if_pos (Flow.wanted_none rfl)]
              clear hfr hdep
              go_simp
              exact hK _ _ True.intro hinv (fun d hd => by cases hd; trivial)
            refine Flow.Steps.cons (fun a W hfr hinv hdep K hK => ?_) ?_
            · have sg : a.tmps.getD 19 undef = .bool true := hdep 19 (by kernel_rfl)
              have s1 : a.tmps.getD 1 undef = .pointer (some ⟨w.heap.size, 0, none⟩) := hfr.at 1 (by kernel_rfl)
              have t1 : a.tmps[1]?.getD undef = .pointer (some ⟨w.heap.size, 0, none⟩) := by simpa using s1
              rw [if_pos (Flow.wanted_yes 12 true 19 rfl (by kernel_rfl) sg)]
              clear hfr hdep
              go_simp
              exact hK _ _ True.intro hinv (fun d hd => by cases hd; trivial)
            refine Flow.Steps.cons (fun a W hfr hinv hdep K hK => ?_) ?_
            · have sg : a.tmps.getD 19 undef = .bool true := hdep 19 (by kernel_rfl)
              have s20 : a.tmps.getD 20 undef = .pointer (some ⟨w.heap.size, 6, none⟩) := hdep 20 (by kernel_rfl)
              have t20 : a.tmps[20]?.getD undef = .pointer (some ⟨w.heap.size, 6, none⟩) := by simpa using s20
              obtain ⟨c0, c1, c2, c3, c4, c5, c6, c7⟩ := (HB.out.below hinv HB.out.lt).c8
              rw [if_pos (Flow.wanted_yes 12 true 19 rfl (by kernel_rfl) sg)]
              clear hfr hdep
              go_simp
              exact hK _ _ True.intro hinv (fun d hd => by cases hd; trivial)
            refine Flow.Steps.cons (fun a W hfr hinv hdep K hK => ?_) ?_
            · have sg : a.tmps.getD 19 undef = .bool true := hdep 19 (by kernel_rfl)
              have s21 : a.tmps.getD 21 undef = .slice pb nb cb := hdep 21 (by kernel_rfl)
              have t21 : a.tmps[21]?.getD undef = .slice pb nb cb := by simpa using s21
              rw [if_pos (Flow.wanted_yes 12 true 19 rfl (by kernel_rfl) sg)]
              clear hfr hdep
              go_simp
              exact hK _ _ True.intro hinv (fun d hd => by cases hd; trivial)
            refine Flow.Steps.cons (fun a W hfr hinv hdep K hK => ?_) ?_
            · have sg : a.tmps.getD 19 undef = .bool true := hdep 19 (by kernel_rfl)
              have s1 : a.tmps.getD 1 undef = .pointer (some ⟨w.heap.size, 0, none⟩) := hfr.at 1 (by kernel_rfl)
              have t1 : a.tmps[1]?.getD undef = .pointer (some ⟨w.heap.size, 0, none⟩) := by simpa using s1
              rw [if_pos (Flow.wanted_yes 12 true 19 rfl (by kernel_rfl) sg)]
              clear hfr hdep
              go_simp
              exact hK _ _ True.intro hinv (fun d hd => by cases hd; trivial)
            refine Flow.Steps.cons (fun a W hfr hinv hdep K hK => ?_) ?_
            · have sg : a.tmps.getD 19 undef = .bool true := hdep 19 (by kernel_rfl)
              have s23 : a.tmps.getD 23 undef = .pointer (some ⟨w.heap.size, 0, none⟩) := hdep 23 (by kernel_rfl)
              have t23 : a.tmps[23]?.getD undef = .pointer (some ⟨w.heap.size, 0, none⟩) := by simpa using s23
              obtain ⟨c0, c1, c2, c3, c4, c5, c6, c7⟩ := (HB.out.below hinv HB.out.lt).c8
              rw [if_pos (Flow.wanted_yes 12 true 19 rfl (by kernel_rfl) sg)]
              clear hfr hdep
              go_simp
              exact hK _ _ True.intro hinv (fun d hd => by cases hd; trivial)
            refine Flow.Steps.cons (fun a W hfr hinv hdep K hK => ?_) ?_
            · have sg : a.tmps.getD 19 undef = .bool true := hdep 19 (by kernel_rfl)
              have s3 : a.tmps.getD 3 undef = .int .i64 na := hfr.at 3 (by kernel_rfl)
              have t3 : a.tmps[3]?.getD undef = .int .i64 na := by simpa using s3
              rw [if_pos (Flow.wanted_yes 12 true 19 rfl (by kernel_rfl) sg)]
              clear hfr hdep
              go_simp
              exact hK _ _ True.intro hinv (fun d hd => by cases hd; trivial)
            refine Flow.Steps.cons (fun a W hfr hinv hdep K hK => ?_) ?_
            · have sg : a.tmps.getD 19 undef = .bool true := hdep 19 (by kernel_rfl)
              have s24 : a.tmps.getD 24 undef = .int .i64 k := hdep 24 (by kernel_rfl)
              have t24 : a.tmps[24]?.getD undef = .int .i64 k := by simpa using s24
              have s25 : a.tmps.getD 25 undef = .int .i64 na := hdep 25 (by kernel_rfl)
              have t25 : a.tmps[25]?.getD undef = .int .i64 na := by simpa using s25
              rw [if_pos (Flow.wanted_yes 12 true 19 rfl (by kernel_rfl) sg)]
              clear hfr hdep
              go_simp
              refine (HF.out W).mono ?_
              rintro e W' ⟨rfl, rfl⟩
              exact hK _ _ True.intro hinv (fun d hd => by cases hd; trivial)
            refine Flow.Steps.cons (fun a W hfr hinv hdep K hK => ?_) ?_
            · have sg : a.tmps.getD 19 undef = .bool true := hdep 19 (by kernel_rfl)
              have s22 : a.tmps.getD 22 undef = .int .i64 nb := hdep 22 (by kernel_rfl)
              have t22 : a.tmps[22]?.getD undef = .int .i64 nb := by simpa using s22
              have s26 : a.tmps.getD 26 undef = .int .i64 (befR k na) := hdep 26 (by kernel_rfl)
              have t26 : a.tmps[26]?.getD undef = .int .i64 (befR k na) := by simpa using s26
              have hq := HQ.out
              rw [if_pos (Flow.wanted_yes 12 true 19 rfl (by kernel_rfl) sg)]
              clear hfr hdep
              go_simp
              exact hK _ _ True.intro hinv (fun d hd => by cases hd; trivial)
            refine Flow.Steps.cons (fun a W hfr hinv hdep K hK => ?_) ?_
            · have s19 : a.tmps.getD 19 undef = .bool true := hdep 19 (by kernel_rfl)
              have t19 : a.tmps[19]?.getD undef = .bool true := by simpa using s19
              have s27 : a.tmps.getD 27 undef = .bool false := hdep 27 (by kernel_rfl)
              have t27 : a.tmps[27]?.getD undef = .bool false := by simpa using s27
              rw [if_pos (Flow.wanted_none rfl)]
              clear hfr hdep
              go_simp
              exact hK _ _ True.intro hinv (fun d hd => by cases hd; trivial)
            refine Flow.Steps.cons (fun a W hfr hinv hdep K hK => ?_) ?_
            · have s28 : a.tmps.getD 28 undef = .bool false := hdep 28 (by kernel_rfl)
              have t28 : a.tmps[28]?.getD undef = .bool false := by simpa using s28
              rw [if_pos (Flow.wanted_none rfl)]
              clear hfr hdep
              go_simp
              exact hK _ _ True.intro hinv (fun d hd => by cases hd; trivial)
            refine Flow.Steps.cons (fun a W hfr hinv hdep K hK => ?_) ?_
            · have sg : a.tmps.getD 29 undef = .bool !true := hdep 29 (by kernel_rfl)
              have s1 : a.tmps.getD 1 undef = .pointer (some ⟨w.heap.size, 0, none⟩) := hfr.at 1 (by kernel_rfl)
              have t1 : a.tmps[1]?.getD undef = .pointer (some ⟨w.heap.size, 0, none⟩) := by simpa using s1
              rw [if_neg (Flow.wanted_no 22 true 29 rfl (by kernel_rfl) sg)]
              clear hfr hdep
              exact hK _ _ True.intro hinv (fun d hd => by cases hd; trivial)
            refine Flow.Steps.cons (fun a W hfr hinv hdep K hK => ?_) ?_
            · have sg : a.tmps.getD 29 undef = .bool !true := hdep 29 (by kernel_rfl)
              obtain ⟨c0, c1, c2, c3, c4, c5, c6, c7⟩ := (HB.out.below hinv HB.out.lt).c8
              rw [if_neg (Flow.wanted_no 22 true 29 rfl (by kernel_rfl) sg)]
              clear hfr hdep
              exact hK _ _ True.intro hinv (fun d hd => by cases hd; trivial)
            refine Flow.Steps.cons (fun a W hfr hinv hdep K hK => ?_) ?_
            · have sg : a.tmps.getD 29 undef = .bool !true := hdep 29 (by kernel_rfl)
              rw [if_neg (Flow.wanted_no 22 true 29 rfl (by kernel_rfl) sg)]
              clear hfr hdep
              exact hK _ _ True.intro hinv (fun d hd => by cases hd; trivial)
            refine Flow.Steps.cons (fun a W hfr hinv hdep K hK => ?_) ?_
            · have s29 : a.tmps.getD 29 undef = .bool false := hdep 29 (by kernel_rfl)
              have t29 : a.tmps[29]?.getD undef = .bool false := by simpa using s29
              rw [if_pos (Flow.wanted_none rfl)]
              clear hfr hdep
              go_simp
              exact hK _ _ True.intro hinv (fun d hd => by cases hd; trivial)
            refine Flow.Steps.cons (fun a W hfr hinv hdep K hK => ?_) ?_
            · have s33 : a.tmps.getD 33 undef = .bool false := hdep 33 (by kernel_rfl)
              have t33 : a.tmps[33]?.getD undef = .bool false := by simpa using s33
              rw [if_pos (Flow.wanted_none rfl)]
              clear hfr hdep
              go_simp
              exact hK _ _ True.intro hinv (fun d hd => by cases hd; trivial)
            refine Flow.Steps.cons (fun a W hfr hinv hdep K hK => ?_) ?_
            · have sg : a.tmps.getD 34 undef = .bool !true := hdep 34 (by kernel_rfl)
              have s1 : a.tmps.getD 1 undef = .pointer (some ⟨w.heap.size, 0, none⟩) := hfr.at 1 (by kernel_rfl)
              have t1 : a.tmps[1]?.getD undef = .pointer (some ⟨w.heap.size, 0, none⟩) := by simpa using s1
              rw [if_neg (Flow.wanted_no 27 true 34 rfl (by kernel_rfl) sg)]
              clear hfr hdep
              exact hK _ _ True.intro hinv (fun d hd => by cases hd; trivial)
            refine Flow.Steps.cons (fun a W hfr hinv hdep K hK => ?_) ?_
            · have sg : a.tmps.getD 34 undef = .bool !true := hdep 34 (by kernel_rfl)
              obtain ⟨c0, c1, c2, c3, c4, c5, c6, c7⟩ := (HB.out.below hinv HB.out.lt).c8
              rw [if_neg (Flow.wanted_no 27 true 34 rfl (by kernel_rfl) sg)]
              clear hfr hdep
              exact hK _ _ True.intro hinv (fun d hd => by cases hd; trivial)
            refine Flow.Steps.cons (fun a W hfr hinv hdep K hK => ?_) ?_
            · have sg : a.tmps.getD 34 undef = .bool !true := hdep 34 (by kernel_rfl)
              have s3 : a.tmps.getD 3 undef = .int .i64 na := hfr.at 3 (by kernel_rfl)
              have t3 : a.tmps[3]?.getD undef = .int .i64 na := by simpa using s3
              rw [if_neg (Flow.wanted_no 27 true 34 rfl (by kernel_rfl) sg)]
              clear hfr hdep
              exact hK _ _ True.intro hinv (fun d hd => by cases hd; trivial)
            refine Flow.Steps.cons (fun a W hfr hinv hdep K hK => ?_) ?_
            · have sg : a.tmps.getD 34 undef = .bool !true := hdep 34 (by kernel_rfl)
              have hw := HW.out
              rw [if_neg (Flow.wanted_no 27 true 34 rfl (by kernel_rfl) sg)]
              clear hfr hdep
              exact hK _ _ True.intro hinv (fun d hd => by cases hd; trivial)
            refine Flow.Steps.cons (fun a W hfr hinv hdep K hK => ?_) ?_
            · have sg : a.tmps.getD 34 undef = .bool !true := hdep 34 (by kernel_rfl)
              rw [if_neg (Flow.wanted_no 27 true 34 rfl (by kernel_rfl) sg)]
              clear hfr hdep
              exact hK _ _ True.intro hinv (fun d hd => by cases hd; trivial)
            refine Flow.Steps.cons (fun a W hfr hinv hdep K hK => ?_) ?_
            · have s34 : a.tmps.getD 34 undef = .bool false := hdep 34 (by kernel_rfl)
              have t34 : a.tmps[34]?.getD undef = .bool false := by simpa using s34
              rw [if_pos (Flow.wanted_none rfl)]
              clear hfr hdep
              go_simp
              exact hK _ _ True.intro hinv (fun d hd => by cases hd; trivial)
            refine Flow.Steps.cons (fun a W hfr hinv hdep K hK => ?_) ?_
            · have s40 : a.tmps.getD 40 undef = .bool false := hdep 40 (by kernel_rfl)
              have t40 : a.tmps[40]?.getD undef = .bool false := by simpa using s40
              rw [if_pos (Flow.wanted_none rfl)]
              clear hfr hdep
              go_simp
              exact hK _ _ True.intro hinv (fun d hd => by cases hd; trivial)
            exact True.intro
          case fin =>
            intro a W hfr hfin hsl
            have s2 : a.tmps.getD 2 undef = .bool false := hsl 34 _ 2 rfl rfl
            have t2 : a.tmps[2]?.getD undef = .bool false := by simpa using s2
            have e := Flow.frame hfr [7, 8, 9, 10, 11, 12, 13, 14, 15, 16, 17, 18, 19, 20, 21, 22, 23, 24, 25, 26, 27, 28, 29, 30, 31, 32, 33, 34, 35, 36, 37, 38, 39, 40, 2] (List.range 41) (by kernel_rfl) (by kernel_rfl)
            simp [List.range, List.range.loop] at e
            rw [t2] at e
            rw [e]
            clear e hfr hsl s2 t2
            rename_i K2 hK2
            refine hK2 _ _ ?_
            go_wp2_with fail
            go_ret
            exact ⟨ret_b HR.out.symm, grow1 hfin⟩
      · obtain rfl : na = 0 := by omega
        have HR : Hid (fitQ k g o nb 0 = false) := Lib.hid (decide_eq_false (by omega))
        go_enter Try.func77, Try.ntmps77
        go_wp2_with fail
        refine Flow.region (SlF2 k t p x g o pb nb cb pa 0 ca w.heap.size (befR k 0)) (Gr (w.alloc (.cells #[.int .i64 k, .int .u64 t, .int .u64 p, .int .u64 x, .int .i64 g, .int .i64 o, .slice pb nb cb, .slice pa 0 ca] TR))) (fun _ _ => True) (by kernel_rfl) (by kernel_rfl) (fun _ _ _ _ h _ => h) ⟨rfl, rfl, rfl, Nat.le_refl _, fun _ _ => rfl⟩ ?steps ?fin
        case steps =>
          refine Flow.Steps.cons (fun a W hfr hinv hdep K hK => ?_) ?_
          · have s1 : a.tmps.getD 1 undef = .pointer (some ⟨w.heap.size, 0, none⟩) := hfr.at 1 (by kernel_rfl)
            have t1 : a.tmps[1]?.getD undef = .pointer (some ⟨w.heap.size, 0, none⟩) := by simpa using s1
            rw [if_pos (Flow.wanted_none rfl)]
            clear hfr hdep
            go_simp
            exact hK _ _ True.intro hinv (fun d hd => by cases hd; trivial)
          refine Flow.Steps.cons (fun a W hfr hinv hdep K hK => ?_) ?_
          · have s7 : a.tmps.getD 7 undef = .pointer (some ⟨w.heap.size, 4, none⟩) := hdep 7 (by kernel_rfl)
            have t7 : a.tmps[7]?.getD undef = .pointer (some ⟨w.heap.size, 4, none⟩) := by simpa using s7
            obtain ⟨c0, c1, c2, c3, c4, c5, c6, c7⟩ := (HB.out.below hinv HB.out.lt).c8
            rw [if_pos (Flow.wanted_none rfl)]
            clear hfr hdep
            go_simp
            exact hK _ _ True.intro hinv (fun d hd => by cases hd; trivial)
          refine Flow.Steps.cons (fun a W hfr hinv hdep K hK => ?_) ?_
          · have s8 : a.tmps.getD 8 undef = .int .i64 g := hdep 8 (by kernel_rfl)
            have t8 : a.tmps[8]?.getD undef = .int .i64 g := by simpa using s8
            rw [if_pos (Flow.wanted_none rfl)]
            clear hfr hdep
            go_simp
            exact hK _ _ True.intro hinv (fun d hd => by cases hd; trivial)
          refine Flow.Steps.cons (fun a W hfr hinv hdep K hK => ?_) ?_
          · have s9 : a.tmps.getD 9 undef = .bool true := hdep 9 (by kernel_rfl)
            have t9 : a.tmps[9]?.getD undef = .bool true := by simpa using s9
            rw [if_pos (Flow.wanted_none rfl)]
            clear hfr hdep
            go_simp
            exact hK _ _ True.intro hinv (fun d hd => by cases hd; trivial)
          refine Flow.Steps.cons (fun a W hfr hinv hdep K hK => ?_) ?_
          · have sg : a.tmps.getD 10 undef = .bool true := hdep 10 (by kernel_rfl)
            have s1 : a.tmps.getD 1 undef = .pointer (some ⟨w.heap.size, 0, none⟩) := hfr.at 1 (by kernel_rfl)
            have t1 : a.tmps[1]?.getD undef = .pointer (some ⟨w.heap.size, 0, none⟩) := by simpa using s1
            rw [if_pos (Flow.wanted_yes 3 true 10 rfl (by kernel_rfl) sg)]
            clear hfr hdep
            go_simp
            exact hK _ _ True.intro hinv (fun d hd => by cases hd; trivial)
          refine Flow.Steps.cons (fun a W hfr hinv hdep K hK => ?_) ?_
          · have sg : a.tmps.getD 10 undef = .bool true := hdep 10 (by kernel_rfl)
            have s11 : a.tmps.getD 11 undef = .pointer (some ⟨w.heap.size, 4, none⟩) := hdep 11 (by kernel_rfl)
            have t11 : a.tmps[11]?.getD undef = .pointer (some ⟨w.heap.size, 4, none⟩) := by simpa using s11
            obtain ⟨c0, c1, c2, c3, c4, c5, c6, c7⟩ := (HB.out.below hinv HB.out.lt).c8
            rw [if_pos (Flow.wanted_yes 3 true 10 rfl (by kernel_rfl) sg)]
            clear hfr hdep
            go_simp
            exact hK _ _ True.intro hinv (fun d hd => by cases hd; trivial)
          refine Flow.Steps.cons (fun a W hfr hinv hdep K hK => ?_) ?_
          · have sg : a.tmps.getD 10 undef = .bool true := hdep 10 (by kernel_rfl)
            have s12 : a.tmps.getD 12 undef = .int .i64 g := hdep 12 (by kernel_rfl)
            have t12 : a.tmps[12]?.getD undef = .int .i64 g := by simpa using s12
            rw [if_pos (Flow.wanted_yes 3 true 10 rfl (by kernel_rfl) sg)]
            clear hfr hdep
            go_simp
            exact hK _ _ True.intro hinv (fun d hd => by cases hd; trivial)
          refine Flow.Steps.cons (fun a W hfr hinv hdep K hK => ?_) ?_
          · have s10 : a.tmps.getD 10 undef = .bool true := hdep 10 (by kernel_rfl)
            have t10 : a.tmps[10]?.getD undef = .bool true := by simpa using s10
            have s13 : a.tmps.getD 13 undef = .bool true := hdep 13 (by kernel_rfl)
            have t13 : a.tmps[13]?.getD undef = .bool true := by simpa using s13
            rw [if_pos (Flow.wanted_none rfl)]
            clear hfr hdep
            go_simp
            exact hK _ _ True.intro hinv (fun d hd => by cases hd; trivial)
          refine Flow.Steps.cons (fun a W hfr hinv hdep K hK => ?_) ?_
          · have s14 : a.tmps.getD 14 undef = .bool true := hdep 14 (by kernel_rfl)
            have t14 : a.tmps[14]?.getD undef = .bool true := by simpa using s14
            rw [if_pos (Flow.wanted_none rfl)]
            clear hfr hdep
            go_simp
            exact hK _ _ True.intro hinv (fun d hd => by cases hd; trivial)
          refine Flow.Steps.cons (fun a W hfr hinv hdep K hK => ?_) ?_
          · have sg : a.tmps.getD 15 undef = .bool true := hdep 15 (by kernel_rfl)
            have s3 : a.tmps.getD 3 undef = .int .i64 0 := hfr.at 3 (by kernel_rfl)
            have t3 : a.tmps[3]?.getD undef = .int .i64 0 := by simpa using s3
            rw [if_pos (Flow.wanted_yes 8 true 15 rfl (by kernel_rfl) sg)]
            clear hfr hdep
            go_simp
            exact hK _ _ True.intro hinv (fun d hd => by cases hd; trivial)
          refine Flow.Steps.cons (fun a W hfr hinv hdep K hK => ?_) ?_
          · have sg : a.tmps.getD 15 undef = .bool true := hdep 15 (by kernel_rfl)
            have s16 : a.tmps.getD 16 undef = .int .i64 0 := hdep 16 (by kernel_rfl)
            have t16 : a.tmps[16]?.getD undef = .int .i64 0 := by simpa using s16
            rw [if_pos (Flow.wanted_yes 8 true 15 rfl (by kernel_rfl) sg)]
            clear hfr hdep
            go_simp
            exact hK _ _ True.intro hinv (fun d hd => by cases hd; trivial)
          refine Flow.Steps.cons (fun a W hfr hinv hdep K hK => ?_) ?_
          · have s15 : a.tmps.getD 15 undef = .bool true := hdep 15 (by kernel_rfl)
            have t15 : a.tmps[15]?.getD undef = .bool true := by simpa using s15
            have s17 : a.tmps.getD 17 undef = .bool false := hdep 17 (by kernel_rfl)
            have t17 : a.tmps[17]?.getD undef = .bool false := by simpa using s17
            rw [if_pos (Flow.wanted_none rfl)]
            clear hfr hdep
            go_simp
            exact hK _ _ True.intro hinv (fun d hd => by cases hd; trivial)
          refine Flow.Steps.cons (fun a W hfr hinv hdep K hK => ?_) ?_
          · have s18 : a.tmps.getD 18 undef = .bool false := hdep 18 (by kernel_rfl)
            have t18 : a.tmps[18]?.getD undef = .bool false := by simpa using s18
            rw [if_pos (Flow.wanted_none rfl)]
            clear hfr hdep
            go_simp
            exact hK _ _ True.intro hinv (fun d hd => by cases hd; trivial)
          refine Flow.Steps.cons (fun a W hfr hinv hdep K hK => ?_) ?_
          · have sg : a.tmps.getD 19 undef = .bool !true := hdep 19 (by kernel_rfl)
            have s1 : a.tmps.getD 1 undef = .pointer (some ⟨w.heap.size, 0, none⟩) := hfr.at 1 (by kernel_rfl)
            have t1 : a.tmps[1]?.getD undef = .pointer (some ⟨w.heap.size, 0, none⟩) := by simpa using s1
            rw [if_neg (Flow.wanted_no 12 true 19 rfl (by kernel_rfl) sg)]
            clear hfr hdep
            exact hK _ _ True.intro hinv (fun d hd => by cases hd; trivial)
          refine Flow.Steps.cons (fun a W hfr hinv hdep K hK => ?_) ?_
          · have sg : a.tmps.getD 19 undef = .bool !true := hdep 19 (by kernel_rfl)
            obtain ⟨c0, c1, c2, c3, c4, c5, c6, c7⟩ := (HB.out.below hinv HB.out.lt).c8
            rw [if_neg (Flow.wanted_no 12 true 19 rfl (by kernel_rfl) sg)]
            clear hfr hdep
            exact hK _ _ True.intro hinv (fun d hd => by cases hd; trivial)
          refine Flow.Steps.cons (fun a W hfr hinv hdep K hK => ?_) ?_
          · have sg : a.tmps.getD 19 undef = .bool !true := hdep 19 (by kernel_rfl)
            rw [if_neg (Flow.wanted_no 12 true 19 rfl (by kernel_rfl) sg)]
            clear hfr hdep
            exact hK _ _ True.intro hinv (fun d hd => by cases hd; trivial)
          refine Flow.Steps.cons (fun a W hfr hinv hdep K hK => ?_) ?_
          · have sg : a.tmps.getD 19 undef = .bool !true := hdep 19 (by kernel_rfl)
            have s1 : a.tmps.getD 1 undef = .pointer (some ⟨w.heap.size, 0, none⟩) := hfr.at 1 (by kernel_rfl)
            have t1 : a.tmps[1]?.getD undef = .pointer (some ⟨w.heap.size, 0, none⟩) := by simpa using s1
            rw [if_neg (Flow.wanted_no 12 true 19 rfl (by kernel_rfl) sg)]
            clear hfr hdep
            exact hK _ _ True.intro hinv (fun d hd => by cases hd; trivial)
          refine Flow.Steps.cons (fun a W hfr hinv hdep K hK => ?_) ?_
          · have sg : a.tmps.getD 19 undef = .bool !true := hdep 19 (by kernel_rfl)
            obtain ⟨c0, c1, c2, c3, c4, c5, c6, c7⟩ := (HB.out.below hinv HB.out.lt).c8
            rw [if_neg (Flow.wanted_no 12 true 19 rfl (by kernel_rfl) sg)]
            clear hfr hdep
            exact hK _ _ True.intro hinv (fun d hd => by cases hd; trivial)
          refine Flow.Steps.cons (fun a W hfr hinv hdep K hK => ?_) ?_
          · have sg : a.tmps.getD 19 undef = .bool !true := hdep 19 (by kernel_rfl)
            have s3 : a.tmps.getD 3 undef = .int .i64 0 := hfr.at 3 (by kernel_rfl)
            have t3 : a.tmps[3]?.getD undef = .int .i64 0 := by simpa using s3
            rw [if_neg (Flow.wanted_no 12 true 19 rfl (by kernel_rfl) sg)]
            clear hfr hdep
            exact hK _ _ True.intro hinv (fun d hd => by cases hd; trivial)
          refine Flow.Steps.cons (fun a W hfr hinv hdep K hK => ?_) ?_
          · have sg : a.tmps.getD 19 undef = .bool !true := hdep 19 (by kernel_rfl)
            rw [if_neg (Flow.wanted_no 12 true 19 rfl (by kernel_rfl) sg)]
            clear hfr hdep
            exact hK _ _ True.intro hinv (fun d hd => by cases hd; trivial)
          refine Flow.Steps.cons (fun a W hfr hinv hdep K hK => ?_) ?_
          · have sg : a.tmps.getD 19 undef = .bool !true := hdep 19 (by kernel_rfl)
            rw [if_neg (Flow.wanted_no 12 true 19 rfl (by kernel_rfl) sg)]
            clear hfr hdep
            exact hK _ _ True.intro hinv (fun d hd => by cases hd; trivial)
          refine Flow.Steps.cons (fun a W hfr hinv hdep K hK => ?_) ?_
          · have s19 : a.tmps.getD 19 undef = .bool false := hdep 19 (by kernel_rfl)
            have t19 : a.tmps[19]?.getD undef = .bool false := by simpa using s19
            rw [if_pos (Flow.wanted_none rfl)]
            clear hfr hdep
            go_simp
            exact hK _ _ True.intro hinv (fun d hd => by cases hd; trivial)
          refine Flow.Steps.cons (fun a W hfr hinv hdep K hK => ?_) ?_
          · have s28 : a.tmps.getD 28 undef = .bool false := hdep 28 (by kernel_rfl)
            have t28 : a.tmps[28]?.getD undef = .bool false := by simpa using s28
            rw [if_pos (Flow.wanted_none rfl)]
            clear hfr hdep
            go_simp
            exact hK _ _ True.intro hinv (fun d hd => by cases hd; trivial)
          refine Flow.Steps.cons (fun a W hfr hinv hdep K hK => ?_) ?_
          · have sg : a.tmps.getD 29 undef = .bool !true := hdep 29 (by kernel_rfl)
            have s1 : a.tmps.getD 1 undef = .pointer (some ⟨w.heap.size, 0, none⟩) := hfr.at 1 (by kernel_rfl)
            have t1 : a.tmps[1]?.getD undef = .pointer (some ⟨w.heap.size, 0, none⟩) := by simpa using s1
            rw [if_neg (Flow.wanted_no 22 true 29 rfl (by kernel_rfl) sg)]
            clear hfr hdep
            exact hK _ _ True.intro hinv (fun d hd => by cases hd; trivial)
          refine Flow.Steps.cons (fun a W hfr hinv hdep K hK => ?_) ?_
          · have sg : a.tmps.getD 29 undef = .bool !true := hdep 29 (by kernel_rfl)
            obtain ⟨c0, c1, c2, c3, c4, c5, c6, c7⟩ := (HB.out.below hinv HB.out.lt).c8
            rw [if_neg (Flow.wanted_no 22 true 29 rfl (by kernel_rfl) sg)]
            clear hfr hdep
            exact hK _ _ True.intro hinv (fun d hd => by cases hd; trivial)
          refine Flow.Steps.cons (fun a W hfr hinv hdep K hK => ?_) ?_
          · have sg : a.tmps.getD 29 undef = .bool !true := hdep 29 (by kernel_rfl)
            rw [if_neg (Flow.wanted_no 22 true 29 rfl (by kernel_rfl) sg)]
            clear hfr hdep
            exact hK _ _ True.intro hinv (fun d hd => by cases hd; trivial)
          refine Flow.Steps.cons (fun a W hfr hinv hdep K hK => ?_) ?_
          · have s29 : a.tmps.getD 29 undef = .bool false := hdep 29 (by kernel_rfl)
            have t29 : a.tmps[29]?.getD undef = .bool false := by simpa using s29
            rw [if_pos (Flow.wanted_none rfl)]
            clear hfr hdep
            go_simp
            exact hK _ _ True.intro hinv (fun d hd => by cases hd; trivial)
          refine Flow.Steps.cons (fun a W hfr hinv hdep K hK => ?_) ?_
          · have s33 : a.tmps.getD 33 undef = .bool false := hdep 33 (by kernel_rfl)
            have t33 : a.tmps[33]?.getD undef = .bool false := by simpa using s33
            rw [if_pos (Flow.wanted_none rfl)]
            clear hfr hdep
            go_simp
            exact hK _ _ True.intro hinv (fun d hd => by cases hd; trivial)
          refine Flow.Steps.cons (fun a W hfr hinv hdep K hK => ?_) ?_
          · have sg : a.tmps.getD 34 undef = .bool !true := hdep 34 (by kernel_rfl)
            have s1 : a.tmps.getD 1 undef = .pointer (some ⟨w.heap.size, 0, none⟩) := hfr.at 1 (by kernel_rfl)
            have t1 : a.tmps[1]?.getD undef = .pointer (some ⟨w.heap.size, 0, none⟩) := by simpa using s1
            rw [if_neg (Flow.wanted_no 27 true 34 rfl (by kernel_rfl) sg)]
            clear hfr hdep
            exact hK _ _ True.intro hinv (fun d hd => by cases hd; trivial)
          refine Flow.Steps.cons (fun a W hfr hinv hdep K hK => ?_) ?_
          · have sg : a.tmps.getD 34 undef = .bool !true := hdep 34 (by kernel_rfl)
            obtain ⟨c0, c1, c2, c3, c4, c5, c6, c7⟩ := (HB.out.below hinv HB.out.lt).c8
            rw [if_neg (Flow.wanted_no 27 true 34 rfl (by kernel_rfl) sg)]
            clear hfr hdep
            exact hK _ _ True.intro hinv (fun d hd => by cases hd; trivial)
          refine Flow.Steps.cons (fun a W hfr hinv hdep K hK => ?_) ?_
          · have sg : a.tmps.getD 34 undef = .bool !true := hdep 34 (by kernel_rfl)
            have s3 : a.tmps.getD 3 undef = .int .i64 0 := hfr.at 3 (by kernel_rfl)
            have t3 : a.tmps[3]?.getD undef = .int .i64 0 := by simpa using s3
            rw [if_neg (Flow.wanted_no 27 true 34 rfl (by kernel_rfl) sg)]
            clear hfr hdep
            exact hK _ _ True.intro hinv (fun d hd => by cases hd; trivial)
          refine Flow.Steps.cons (fun a W hfr hinv hdep K hK => ?_) ?_
          · have sg : a.tmps.getD 34 undef = .bool !true := hdep 34 (by kernel_rfl)
            rw [if_neg (Flow.wanted_no 27 true 34 rfl (by kernel_rfl) sg)]
            clear hfr hdep
            exact hK _ _ True.intro hinv (fun d hd => by cases hd; trivial)
          refine Flow.Steps.cons (fun a W hfr hinv hdep K hK => ?_) ?_
          · have sg : a.tmps.getD 34 undef = .bool !true := hdep 34 (by kernel_rfl)
            rw [if_neg (Flow.wanted_no 27 true 34 rfl (by kernel_rfl) sg)]
            clear hfr hdep
            exact hK _ _ True.intro hinv (fun d hd => by cases hd; trivial)
          refine Flow.Steps.cons (fun a W hfr hinv hdep K hK => ?_) ?_
          · have s34 : a.tmps.getD 34 undef = .bool false := hdep 34 (by kernel_rfl)
            have t34 : a.tmps[34]?.getD undef = .bool false := by simpa using s34
            rw [if_pos (Flow.wanted_none rfl)]
            clear hfr hdep
            go_simp
            exact hK _ _ True.intro hinv (fun d hd => by cases hd; trivial)
          refine Flow.Steps.cons (fun a W hfr hinv hdep K hK => ?_) ?_
          · have s40 : a.tmps.getD 40 undef = .bool false := hdep 40 (by kernel_rfl)
            have t40 : a.tmps[40]?.getD undef = .bool false := by simpa using s40
            rw [if_pos (Flow.wanted_none rfl)]
            clear hfr hdep
            go_simp
            exact hK _ _ True.intro hinv (fun d hd => by cases hd; trivial)
          exact True.intro
        case fin =>
          intro a W hfr hfin hsl
          have s2 : a.tmps.getD 2 undef = .bool false := hsl 34 _ 2 rfl rfl
          have t2 : a.tmps[2]?.getD undef = .bool false := by simpa using s2
          have e := Flow.frame hfr [7, 8, 9, 10, 11, 12, 13, 14, 15, 16, 17, 18, 19, 20, 21, 22, 23, 24, 25, 26, 27, 28, 29, 30, 31, 32, 33, 34, 35, 36, 37, 38, 39, 40, 2] (List.range 41) (by kernel_rfl) (by kernel_rfl)
          simp [List.range, List.range.loop] at e
          rw [t2] at e
          rw [e]
          clear e hfr hsl s2 t2
          rename_i K2 hK2
          refine hK2 _ _ ?_
          go_wp2_with fail
          go_ret
          exact ⟨ret_b HR.out.symm, grow1 hfin⟩
    · have HR : Hid (fitQ k g o nb na = false) := Lib.hid (decide_eq_false (by omega))
      have d1 : decide (g < 4096) = false := decide_eq_false h1
      go_enter Try.func77, Try.ntmps77
      go_wp2_with fail
      refine Flow.region (SlF1 k t p x g o pb nb cb pa na ca w.heap.size (befR k na)) (Gr (w.alloc (.cells #[.int .i64 k, .int .u64 t, .int .u64 p, .int .u64 x, .int .i64 g, .int .i64 o, .slice pb nb cb, .slice pa na ca] TR))) (fun _ _ => True) (by kernel_rfl) (by kernel_rfl) (fun _ _ _ _ h _ => h) ⟨rfl, rfl, rfl, Nat.le_refl _, fun _ _ => rfl⟩ ?steps ?fin
      case steps =>
        refine Flow.Steps.cons (fun a W hfr hinv hdep K hK => ?_) ?_
        · have s1 : a.tmps.getD 1 undef = .pointer (some ⟨w.heap.size, 0, none⟩) := hfr.at 1 (by kernel_rfl)
          have t1 : a.tmps[1]?.getD undef = .pointer (some ⟨w.heap.size, 0, none⟩) := by simpa using s1
          rw [if_pos (Flow.wanted_none rfl)]
          clear hfr hdep
          go_simp
          exact hK _ _ True.intro hinv (fun d hd => by cases hd; trivial)
        refine Flow.Steps.cons (fun a W hfr hinv hdep K hK => ?_) ?_
        · have s7 : a.tmps.getD 7 undef = .pointer (some ⟨w.heap.size, 4, none⟩) := hdep 7 (by kernel_rfl)
          have t7 : a.tmps[7]?.getD undef = .pointer (some ⟨w.heap.size, 4, none⟩) := by simpa using s7
          obtain ⟨c0, c1, c2, c3, c4, c5, c6, c7⟩ := (HB.out.below hinv HB.out.lt).c8
          rw [if_pos (Flow.wanted_none rfl)]
          clear hfr hdep
          go_simp
          exact hK _ _ True.intro hinv (fun d hd => by cases hd; trivial)
        refine Flow.Steps.cons (fun a W hfr hinv hdep K hK => ?_) ?_
        · have s8 : a.tmps.getD 8 undef = .int .i64 g := hdep 8 (by kernel_rfl)
          have t8 : a.tmps[8]?.getD undef = .int .i64 g := by simpa using s8
          rw [if_pos (Flow.wanted_none rfl)]
          clear hfr hdep
          go_simp
          exact hK _ _ True.intro hinv (fun d hd => by cases hd; trivial)
        refine Flow.Steps.cons (fun a W hfr hinv hdep K hK => ?_) ?_
        · have s9 : a.tmps.getD 9 undef = .bool true := hdep 9 (by kernel_rfl)
          have t9 : a.tmps[9]?.getD undef = .bool true := by simpa using s9
          rw [if_pos (Flow.wanted_none rfl)]
          clear hfr hdep
          go_simp
          exact hK _ _ True.intro hinv (fun d hd => by cases hd; trivial)
        refine Flow.Steps.cons (fun a W hfr hinv hdep K hK => ?_) ?_
        · have sg : a.tmps.getD 10 undef = .bool true := hdep 10 (by kernel_rfl)
          have s1 : a.tmps.getD 1 undef = .pointer (some ⟨w.heap.size, 0, none⟩) := hfr.at 1 (by kernel_rfl)
          have t1 : a.tmps[1]?.getD undef = .pointer (some ⟨w.heap.size, 0, none⟩) := by simpa using s1
          rw [if_pos (Flow.wanted_yes 3 true 10 rfl (by kernel_rfl) sg)]
          clear hfr hdep
          go_simp
          exact hK _ _ True.intro hinv (fun d hd => by cases hd; trivial)
        refine Flow.Steps.cons (fun a W hfr hinv hdep K hK => ?_) ?_
        · have sg : a.tmps.getD 10 undef = .bool true := hdep 10 (by kernel_rfl)
          have s11 : a.tmps.getD 11 undef = .pointer (some ⟨w.heap.size, 4, none⟩) := hdep 11 (by kernel_rfl)
          have t11 : a.tmps[11]?.getD undef = .pointer (some ⟨w.heap.size, 4, none⟩) := by simpa using s11
          obtain ⟨c0, c1, c2, c3, c4, c5, c6, c7⟩ := (HB.out.below hinv HB.out.lt).c8
          rw [if_pos (Flow.wanted_yes 3 true 10 rfl (by kernel_rfl) sg)]
          clear hfr hdep
          go_simp
          exact hK _ _ True.intro hinv (fun d hd => by cases hd; trivial)
        refine Flow.Steps.cons (fun a W hfr hinv hdep K hK => ?_) ?_
        · have sg : a.tmps.getD 10 undef = .bool true := hdep 10 (by kernel_rfl)
          have s12 : a.tmps.getD 12 undef = .int .i64 g := hdep 12 (by kernel_rfl)
          have t12 : a.tmps[12]?.getD undef = .int .i64 g := by simpa using s12
          rw [if_pos (Flow.wanted_yes 3 true 10 rfl (by kernel_rfl) sg)]
          clear hfr hdep
          go_simp
          exact hK _ _ True.intro hinv (fun d hd => by cases hd; trivial)
        refine Flow.Steps.cons (fun a W hfr hinv hdep K hK => ?_) ?_
        · have s10 : a.tmps.getD 10 undef = .bool true := hdep 10 (by kernel_rfl)
          have t10 : a.tmps[10]?.getD undef = .bool true := by simpa using s10
          have s13 : a.tmps.getD 13 undef = .bool false := hdep 13 (by kernel_rfl)
          have t13 : a.tmps[13]?.getD undef = .bool false := by simpa using s13
          rw [if_pos (Flow.wanted_none rfl)]
          clear hfr hdep
          go_simp
          exact hK _ _ True.intro hinv (fun d hd => by cases hd; trivial)
        refine Flow.Steps.cons (fun a W hfr hinv hdep K hK => ?_) ?_
        · have s14 : a.tmps.getD 14 undef = .bool false := hdep 14 (by kernel_rfl)
          have t14 : a.tmps[14]?.getD undef = .bool false := by simpa using s14
          rw [if_pos (Flow.wanted_none rfl)]
          clear hfr hdep
          go_simp
          exact hK _ _ True.intro hinv (fun d hd => by cases hd; trivial)
        refine Flow.Steps.cons (fun a W hfr hinv hdep K hK => ?_) ?_
        · have sg : a.tmps.getD 15 undef = .bool !true := hdep 15 (by kernel_rfl)
          have s3 : a.tmps.getD 3 undef = .int .i64 na := hfr.at 3 (by kernel_rfl)
          have t3 : a.tmps[3]?.getD undef = .int .i64 na := by simpa using s3
          rw [if_neg (Flow.wanted_no 8 true 15 rfl (by kernel_rfl) sg)]
          clear hfr hdep
          exact hK _ _ True.intro hinv (fun d hd => by cases hd; trivial)
        refine Flow.Steps.cons (fun a W hfr hinv hdep K hK => ?_) ?_
        · have sg : a.tmps.getD 15 undef = .bool !true := hdep 15 (by kernel_rfl)
          rw [if_neg (Flow.wanted_no 8 true 15 rfl (by kernel_rfl) sg)]
          clear hfr hdep
          exact hK _ _ True.intro hinv (fun d hd => by cases hd; trivial)
        refine Flow.Steps.cons (fun a W hfr hinv hdep K hK => ?_) ?_
        · have s15 : a.tmps.getD 15 undef = .bool false := hdep 15 (by kernel_rfl)
          have t15 : a.tmps[15]?.getD undef = .bool false := by simpa using s15
          rw [if_pos (Flow.wanted_none rfl)]
          clear hfr hdep
          go_simp
          exact hK _ _ True.intro hinv (fun d hd => by cases hd; trivial)
        refine Flow.Steps.cons (fun a W hfr hinv hdep K hK => ?_) ?_
        · have s18 : a.tmps.getD 18 undef = .bool false := hdep 18 (by kernel_rfl)
          have t18 : a.tmps[18]?.getD undef = .bool false := by simpa using s18
          rw [if_pos (Flow.wanted_none rfl)]
          clear hfr hdep
          go_simp
          exact hK _ _ True.intro hinv (fun d hd => by cases hd; trivial)
        refine Flow.Steps.cons (fun a W hfr hinv hdep K hK => ?_) ?_
        · have sg : a.tmps.getD 19 undef = .bool !true := hdep 19 (by kernel_rfl)
          have s1 : a.tmps.getD 1 undef = .pointer (some ⟨w.heap.size, 0, none⟩) := hfr.at 1 (by kernel_rfl)
          have t1 : a.tmps[1]?.getD undef = .pointer (some ⟨w.heap.size, 0, none⟩) := by simpa using s1
          rw [if_neg (Flow.wanted_no 12 true 19 rfl (by kernel_rfl) sg)]
          clear hfr hdep
          exact hK _ _ True.intro hinv (fun d hd => by cases hd; trivial)
        refine Flow.Steps.cons (fun a W hfr hinv hdep K hK => ?_) ?_
        · have sg : a.tmps.getD 19 undef = .bool !true := hdep 19 (by kernel_rfl)
          obtain ⟨c0, c1, c2, c3, c4, c5, c6, c7⟩ := (HB.out.below hinv HB.out.lt).c8
          rw [if_neg (Flow.wanted_no 12 true 19 rfl (by kernel_rfl) sg)]
          clear hfr hdep
          exact hK _ _ True.intro hinv (fun d hd => by cases hd; trivial)
        refine Flow.Steps.cons (fun a W hfr hinv hdep K hK => ?_) ?_
        · have sg : a.tmps.getD 19 undef = .bool !true := hdep 19 (by kernel_rfl)
          rw [if_neg (Flow.wanted_no 12 true 19 rfl (by kernel_rfl) sg)]
          clear hfr hdep
          exact hK _ _ True.intro hinv (fun d hd => by cases hd; trivial)
        refine Flow.Steps.cons (fun a W hfr hinv hdep K hK => ?_) ?_
        · have sg : a.tmps.getD 19 undef = .bool !true := hdep 19 (by kernel_rfl)
          have s1 : a.tmps.getD 1 undef = .pointer (some ⟨w.heap.size, 0, none⟩) := hfr.at 1 (by kernel_rfl)
          have t1 : a.tmps[1]?.getD undef = .pointer (some ⟨w.heap.size, 0, none⟩) := by simpa using s1
          rw [if_neg (Flow.wanted_no 12 true 19 rfl (by kernel_rfl) sg)]
          clear hfr hdep
          exact hK _ _ True.intro hinv (fun d hd => by cases hd; trivial)
        refine Flow.Steps.cons (fun a W hfr hinv hdep K hK => ?_) ?_
        · have sg : a.tmps.getD 19 undef = .bool !true := hdep 19 (by kernel_rfl)
          obtain ⟨c0, c1, c2, c3, c4, c5, c6, c7⟩ := (HB.out.below hinv HB.out.lt).c8
          rw [if_neg (Flow.wanted_no 12 true 19 rfl (by kernel_rfl) sg)]
          clear hfr hdep
          exact hK _ _ True.intro hinv (fun d hd => by cases hd; trivial)
        refine Flow.Steps.cons (fun a W hfr hinv hdep K hK => ?_) ?_
        · have sg : a.tmps.getD 19 undef = .bool !true := hdep 19 (by kernel_rfl)
          have s3 : a.tmps.getD 3 undef = .int .i64 na := hfr.at 3 (by kernel_rfl)
          have t3 : a.tmps[3]?.getD undef = .int .i64 na := by simpa using s3
          rw [if_neg (Flow.wanted_no 12 true 19 rfl (by kernel_rfl) sg)]
          clear hfr hdep
          exact hK _ _ True.intro hinv (fun d hd => by cases hd; trivial)
        refine Flow.Steps.cons (fun a W hfr hinv hdep K hK => ?_) ?_
        · have sg : a.tmps.getD 19 undef = .bool !true := hdep 19 (by kernel_rfl)
          rw [if_neg (Flow.wanted_no 12 true 19 rfl (by kernel_rfl) sg)]
          clear hfr hdep
          exact hK _ _ True.intro hinv (fun d hd => by cases hd; trivial)
        refine Flow.Steps.cons (fun a W hfr hinv hdep K hK => ?_) ?_
        · have sg : a.tmps.getD 19 undef = .bool !true := hdep 19 (by kernel_rfl)
          rw [if_neg (Flow.wanted_no 12 true 19 rfl (by kernel_rfl) sg)]
          clear hfr hdep
          exact hK _ _ True.intro hinv (fun d hd => by cases hd; trivial)
        refine Flow.Steps.cons (fun a W hfr hinv hdep K hK => ?_) ?_
        · have s19 : a.tmps.getD 19 undef = .bool false := hdep 19 (by kernel_rfl)
          have t19 : a.tmps[19]?.getD undef = .bool false := by simpa using s19
          rw [if_pos (Flow.wanted_none rfl)]
          clear hfr hdep
          go_simp
          exact hK _ _ True.intro hinv (fun d hd => by cases hd; trivial)
        refine Flow.Steps.cons (fun a W hfr hinv hdep K hK => ?_) ?_
        · have s28 : a.tmps.getD 28 undef = .bool false := hdep 28 (by kernel_rfl)
          have t28 : a.tmps[28]?.getD undef = .bool false := by simpa using s28
          rw [if_pos (Flow.wanted_none rfl)]
          clear hfr hdep
          go_simp
          exact hK _ _ True.intro hinv (fun d hd => by cases hd; trivial)
        refine Flow.Steps.cons (fun a W hfr hinv hdep K hK => ?_) ?_
        · have sg : a.tmps.getD 29 undef = .bool !true := hdep 29 (by kernel_rfl)
          have s1 : a.tmps.getD 1 undef = .pointer (some ⟨w.heap.size, 0, none⟩) := hfr.at 1 (by kernel_rfl)
          have t1 : a.tmps[1]?.getD undef = .pointer (some ⟨w.heap.size, 0, none⟩) := by simpa using s1
          rw [if_neg (Flow.wanted_no 22 true 29 rfl (by kernel_rfl) sg)]
          clear hfr hdep
          exact hK _ _ True.intro hinv (fun d hd => by cases hd; trivial)
        refine Flow.Steps.cons (fun a W hfr hinv hdep K hK => ?_) ?_
        · have sg : a.tmps.getD 29 undef = .bool !true := hdep 29 (by kernel_rfl)
          obtain ⟨c0, c1, c2, c3, c4, c5, c6, c7⟩ := (HB.out.below hinv HB.out.lt).c8
          rw [if_neg (Flow.wanted_no 22 true 29 rfl (by kernel_rfl) sg)]
          clear hfr hdep
          exact hK _ _ True.intro hinv (fun d hd => by cases hd; trivial)
        refine Flow.Steps.cons (fun a W hfr hinv hdep K hK => ?_) ?_
        · have sg : a.tmps.getD 29 undef = .bool !true := hdep 29 (by kernel_rfl)
          rw [if_neg (Flow.wanted_no 22 true 29 rfl (by kernel_rfl) sg)]
          clear hfr hdep
          exact hK _ _ True.intro hinv (fun d hd => by cases hd; trivial)
        refine Flow.Steps.cons (fun a W hfr hinv hdep K hK => ?_) ?_
        · have s29 : a.tmps.getD 29 undef = .bool false := hdep 29 (by kernel_rfl)
          have t29 : a.tmps[29]?.getD undef = .bool false := by simpa using s29
          rw [if_pos (Flow.wanted_none rfl)]
          clear hfr hdep
          go_simp
          exact hK _ _ True.intro hinv (fun d hd => by cases hd; trivial)
        refine Flow.Steps.cons (fun a W hfr hinv hdep K hK => ?_) ?_
        · have s33 : a.tmps.getD 33 undef = .bool false := hdep 33 (by kernel_rfl)
          have t33 : a.tmps[33]?.getD undef = .bool false := by simpa using s33
          rw [if_pos (Flow.wanted_none rfl)]
          clear hfr hdep
          go_simp
          exact hK _ _ True.intro hinv (fun d hd => by cases hd; trivial)
        refine Flow.Steps.cons (fun a W hfr hinv hdep K hK => ?_) ?_
        · have sg : a.tmps.getD 34 undef = .bool !true := hdep 34 (by kernel_rfl)
          have s1 : a.tmps.getD 1 undef = .pointer (some ⟨w.heap.size, 0, none⟩) := hfr.at 1 (by kernel_rfl)
          have t1 : a.tmps[1]?.getD undef = .pointer (some ⟨w.heap.size, 0, none⟩) := by simpa using s1
          rw [if_neg (Flow.wanted_no 27 true 34 rfl (by kernel_rfl) sg)]
          clear hfr hdep
          exact hK _ _ True.intro hinv (fun d hd => by cases hd; trivial)
        refine Flow.Steps.cons (fun a W hfr hinv hdep K hK => ?_) ?_
        · have sg : a.tmps.getD 34 undef = .bool !true := hdep 34 (by kernel_rfl)
          obtain ⟨c0, c1, c2, c3, c4, c5, c6, c7⟩ := (HB.out.below hinv HB.out.lt).c8
          rw [if_neg (Flow.wanted_no 27 true 34 rfl (by kernel_rfl) sg)]
          clear hfr hdep
          exact hK _ _ True.intro hinv (fun d hd => by cases hd; trivial)
        refine Flow.Steps.cons (fun a W hfr hinv hdep K hK => ?_) ?_
        · have sg : a.tmps.getD 34 undef = .bool !true := hdep 34 (by kernel_rfl)
          have s3 : a.tmps.getD 3 undef = .int .i64 na := hfr.at 3 (by kernel_rfl)
          have t3 : a.tmps[3]?.getD undef = .int .i64 na := by simpa using s3
          rw [if_neg (Flow.wanted_no 27 true 34 rfl (by kernel_rfl) sg)]
          clear hfr hdep
          exact hK _ _ True.intro hinv (fun d hd => by cases hd; trivial)
        refine Flow.Steps.cons (fun a W hfr hinv hdep K hK => ?_) ?_
        · have sg : a.tmps.getD 34 undef = .bool !true := hdep 34 (by kernel_rfl)
          rw [if_neg (Flow.wanted_no 27 true 34 rfl (by kernel_rfl) sg)]
          clear hfr hdep
          exact hK _ _ True.intro hinv (fun d hd => by cases hd; trivial)
        refine Flow.Steps.cons (fun a W hfr hinv hdep K hK => ?_) ?_
        · have sg : a.tmps.getD 34 undef = .bool !true := hdep 34 (by kernel_rfl)
          rw [if_neg (Flow.wanted_no 27 true 34 rfl (by kernel_rfl) sg)]
          clear hfr hdep
          exact hK _ _ True.intro hinv (fun d hd => by cases hd; trivial)
        refine Flow.Steps.cons (fun a W hfr hinv hdep K hK => ?_) ?_
        · have s34 : a.tmps.getD 34 undef = .bool false := hdep 34 (by kernel_rfl)
          have t34 : a.tmps[34]?.getD undef = .bool false := by simpa using s34
          rw [if_pos (Flow.wanted_none rfl)]
          clear hfr hdep
          go_simp
          exact hK _ _ True.intro hinv (fun d hd => by cases hd; trivial)
        refine Flow.Steps.cons (fun a W hfr hinv hdep K hK => ?_) ?_
        · have s40 : a.tmps.getD 40 undef = .bool false := hdep 40 (by kernel_rfl)
          have t40 : a.tmps[40]?.getD undef = .bool false := by simpa using s40
          rw [if_pos (Flow.wanted_none rfl)]
          clear hfr hdep
          go_simp
          exact hK _ _ True.intro hinv (fun d hd => by cases hd; trivial)
        exact True.intro
      case fin =>
        intro a W hfr hfin hsl
        have s2 : a.tmps.getD 2 undef = .bool false := hsl 34 _ 2 rfl rfl
        have t2 : a.tmps[2]?.getD undef = .bool false := by simpa using s2
        have e := Flow.frame hfr [7, 8, 9, 10, 11, 12, 13, 14, 15, 16, 17, 18, 19, 20, 21, 22, 23, 24, 25, 26, 27, 28, 29, 30, 31, 32, 33, 34, 35, 36, 37, 38, 39, 40, 2] (List.range 41) (by kernel_rfl) (by kernel_rfl)
        simp [List.range, List.range.loop] at e
        rw [t2] at e
        rw [e]
        clear e hfr hsl s2 t2
        rename_i K2 hK2
        refine hK2 _ _ ?_
        go_wp2_with fail
        go_ret
        exact ⟨ret_b HR.out.symm, grow1 hfin⟩
  · have HR : Hid (fitQ k g o nb na = false) := Lib.hid (decide_eq_false (by omega))
    have d0 : decide (0 ≤ g) = false := decide_eq_false h0
    go_enter Try.func77, Try.ntmps77
    go_wp2_with fail
    refine Flow.region (SlF0 k t p x g o pb nb cb pa na ca w.heap.size (befR k na)) (Gr (w.alloc (.cells #[.int .i64 k, .int .u64 t, .int .u64 p, .int .u64 x, .int .i64 g, .int .i64 o, .slice pb nb cb, .slice pa na ca] TR))) (fun _ _ => True) (by kernel_rfl) (by kernel_rfl) (fun _ _ _ _ h _ => h) ⟨rfl, rfl, rfl, Nat.le_refl _, fun _ _ => rfl⟩ ?steps ?fin
    case steps =>
      refine Flow.Steps.cons (fun a W hfr hinv hdep K hK => ?_) ?_
      · have s1 : a.tmps.getD 1 undef = .pointer (some ⟨w.heap.size, 0, none⟩) := hfr.at 1 (by kernel_rfl)
        have t1 : a.tmps[1]?.getD undef = .pointer (some ⟨w.heap.size, 0, none⟩) := by simpa using s1
        rw [if_pos (Flow.wanted_none rfl)]
        clear hfr hdep
        go_simp
        exact hK _ _ True.intro hinv (fun d hd => by cases hd; trivial)
      refine Flow.Steps.cons (fun a W hfr hinv hdep K hK => ?_) ?_
      · have s7 : a.tmps.getD 7 undef = .pointer (some ⟨w.heap.size, 4, none⟩) := hdep 7 (by kernel_rfl)
        have t7 : a.tmps[7]?.getD undef = .pointer (some ⟨w.heap.size, 4, none⟩) := by simpa using s7
        obtain ⟨c0, c1, c2, c3, c4, c5, c6, c7⟩ := (HB.out.below hinv HB.out.lt).c8
        rw [if_pos (Flow.wanted_none rfl)]
        clear hfr hdep
        go_simp
        exact hK _ _ True.intro hinv (fun d hd => by cases hd; trivial)
      refine Flow.Steps.cons (fun a W hfr hinv hdep K hK => ?_) ?_
      · have s8 : a.tmps.getD 8 undef = .int .i64 g := hdep 8 (by kernel_rfl)
        have t8 : a.tmps[8]?.getD undef = .int .i64 g := by simpa using s8
        rw [if_pos (Flow.wanted_none rfl)]
        clear hfr hdep
        go_simp
        exact hK _ _ True.intro hinv (fun d hd => by cases hd; trivial)
      refine Flow.Steps.cons (fun a W hfr hinv hdep K hK => ?_) ?_
      · have s9 : a.tmps.getD 9 undef = .bool false := hdep 9 (by kernel_rfl)
        have t9 : a.tmps[9]?.getD undef = .bool false := by simpa using s9
        rw [if_pos (Flow.wanted_none rfl)]
        clear hfr hdep
        go_simp
        exact hK _ _ True.intro hinv (fun d hd => by cases hd; trivial)
      refine Flow.Steps.cons (fun a W hfr hinv hdep K hK => ?_) ?_
      · have sg : a.tmps.getD 10 undef = .bool !true := hdep 10 (by kernel_rfl)
        have s1 : a.tmps.getD 1 undef = .pointer (some ⟨w.heap.size, 0, none⟩) := hfr.at 1 (by kernel_rfl)
        have t1 : a.tmps[1]?.getD undef = .pointer (some ⟨w.heap.size, 0, none⟩) := by simpa using s1
        rw [if_neg (Flow.wanted_no 3 true 10 rfl (by kernel_rfl) sg)]
        clear hfr hdep
        exact hK _ _ True.intro hinv (fun d hd => by cases hd; trivial)
      refine Flow.Steps.cons (fun a W hfr hinv hdep K hK => ?_) ?_
      · have sg : a.tmps.getD 10 undef = .bool !true := hdep 10 (by kernel_rfl)
        obtain ⟨c0, c1, c2, c3, c4, c5, c6, c7⟩ := (HB.out.below hinv HB.out.lt).c8
        rw [if_neg (Flow.wanted_no 3 true 10 rfl (by kernel_rfl) sg)]
        clear hfr hdep
        exact hK _ _ True.intro hinv (fun d hd => by cases hd; trivial)
      refine Flow.Steps.cons (fun a W hfr hinv hdep K hK => ?_) ?_
      · have sg : a.tmps.getD 10 undef = .bool !true := hdep 10 (by kernel_rfl)
        rw [if_neg (Flow.wanted_no 3 true 10 rfl (by kernel_rfl) sg)]
        clear hfr hdep
        exact hK _ _ True.intro hinv (fun d hd => by cases hd; trivial)
      refine Flow.Steps.cons (fun a W hfr hinv hdep K hK => ?_) ?_
      · have s10 : a.tmps.getD 10 undef = .bool false := hdep 10 (by kernel_rfl)
        have t10 : a.tmps[10]?.getD undef = .bool false := by simpa using s10
        rw [if_pos (Flow.wanted_none rfl)]
        clear hfr hdep
        go_simp
        exact hK _ _ True.intro hinv (fun d hd => by cases hd; trivial)
      refine Flow.Steps.cons (fun a W hfr hinv hdep K hK => ?_) ?_
      · have s14 : a.tmps.getD 14 undef = .bool false := hdep 14 (by kernel_rfl)
        have t14 : a.tmps[14]?.getD undef = .bool false := by simpa using s14
        rw [if_pos (Flow.wanted_none rfl)]
        clear hfr hdep
        go_simp
        exact hK _ _ True.intro hinv (fun d hd => by cases hd; trivial)
      refine Flow.Steps.cons (fun a W hfr hinv hdep K hK => ?_) ?_
      · have sg : a.tmps.getD 15 undef = .bool !true := hdep 15 (by kernel_rfl)
        have s3 : a.tmps.getD 3 undef = .int .i64 na := hfr.at 3 (by kernel_rfl)
        have t3 : a.tmps[3]?.getD undef = .int .i64 na := by simpa using s3
        rw [if_neg (Flow.wanted_no 8 true 15 rfl (by kernel_rfl) sg)]
        clear hfr hdep
        exact hK _ _ True.intro hinv (fun d hd => by cases hd; trivial)
      refine Flow.Steps.cons (fun a W hfr hinv hdep K hK => ?_) ?_
      · have sg : a.tmps.getD 15 undef = .bool !true := hdep 15 (by kernel_rfl)
        rw [if_neg (Flow.wanted_no 8 true 15 rfl (by kernel_rfl) sg)]
        clear hfr hdep
        exact hK _ _ True.intro hinv (fun d hd => by cases hd; trivial)
      refine Flow.Steps.cons (fun a W hfr hinv hdep K hK => ?_) ?_
      · have s15 : a.tmps.getD 15 undef = .bool false := hdep 15 (by kernel_rfl)
        have t15 : a.tmps[15]?.getD undef = .bool false := by simpa using s15
        rw [if_pos (Flow.wanted_none rfl)]
        clear hfr hdep
        go_simp
        exact hK _ _ True.intro hinv (fun d hd => by cases hd; trivial)
      refine Flow.Steps.cons (fun a W hfr hinv hdep K hK => ?_) ?_
      · have s18 : a.tmps.getD 18 undef = .bool false := hdep 18 (by kernel_rfl)
        have t18 : a.tmps[18]?.getD undef = .bool false := by simpa using s18
        rw [if_pos (Flow.wanted_none rfl)]
        clear hfr hdep
        go_simp
        exact hK _ _ True.intro hinv (fun d hd => by cases hd; trivial)
      refine Flow.Steps.cons (fun a W hfr hinv hdep K hK => ?_) ?_
      · have sg : a.tmps.getD 19 undef = .bool !true := hdep 19 (by kernel_rfl)
        have s1 : a.tmps.getD 1 undef = .pointer (some ⟨w.heap.size, 0, none⟩) := hfr.at 1 (by kernel_rfl)
        have t1 : a.tmps[1]?.getD undef = .pointer (some ⟨w.heap.size, 0, none⟩) := by simpa using s1
        rw [if_neg (Flow.wanted_no 12 true 19 rfl (by kernel_rfl) sg)]
        clear hfr hdep
        exact hK _ _ True.intro hinv (fun d hd => by cases hd; trivial)
      refine Flow.Steps.cons (fun a W hfr hinv hdep K hK => ?_) ?_
      · have sg : a.tmps.getD 19 undef = .bool !true := hdep 19 (by kernel_rfl)
        obtain ⟨c0, c1, c2, c3, c4, c5, c6, c7⟩ := (HB.out.below hinv HB.out.lt).c8
        rw [if_neg (Flow.wanted_no 12 true 19 rfl (by kernel_rfl) sg)]
        clear hfr hdep
        exact hK _ _ True.intro hinv (fun d hd => by cases hd; trivial)
      refine Flow.Steps.cons (fun a W hfr hinv hdep K hK => ?_) ?_
      · have sg : a.tmps.getD 19 undef = .bool !true := hdep 19 (by kernel_rfl)
        rw [if_neg (Flow.wanted_no 12 true 19 rfl (by kernel_rfl) sg)]
        clear hfr hdep
        exact hK _ _ True.intro hinv (fun d hd => by cases hd; trivial)
      refine Flow.Steps.cons (fun a W hfr hinv hdep K hK => ?_) ?_
      · have sg : a.tmps.getD 19 undef = .bool !true := hdep 19 (by kernel_rfl)
        have s1 : a.tmps.getD 1 undef = .pointer (some ⟨w.heap.size, 0, none⟩) := hfr.at 1 (by kernel_rfl)
        have t1 : a.tmps[1]?.getD undef = .pointer (some ⟨w.heap.size, 0, none⟩) := by simpa using s1
        rw [if_neg (Flow.wanted_no 12 true 19 rfl (by kernel_rfl) sg)]
        clear hfr hdep
        exact hK _ _ True.intro hinv (fun d hd => by cases hd; trivial)
      refine Flow.Steps.cons (fun a W hfr hinv hdep K hK => ?_) ?_
      · have sg : a.tmps.getD 19 undef = .bool !true := hdep 19 (by kernel_rfl)
        obtain ⟨c0, c1, c2, c3, c4, c5, c6, c7⟩ := (HB.out.below hinv HB.out.lt).c8
        rw [if_neg (Flow.wanted_no 12 true 19 rfl (by kernel_rfl) sg)]
        clear hfr hdep
        exact hK _ _ True.intro hinv (fun d hd => by cases hd; trivial)
      refine Flow.Steps.cons (fun a W hfr hinv hdep K hK => ?_) ?_
      · have sg : a.tmps.getD 19 undef = .bool !true := hdep 19 (by kernel_rfl)
        have s3 : a.tmps.getD 3 undef = .int .i64 na := hfr.at 3 (by kernel_rfl)
        have t3 : a.tmps[3]?.getD undef = .int .i64 na := by simpa using s3
        rw [if_neg (Flow.wanted_no 12 true 19 rfl (by kernel_rfl) sg)]
        clear hfr hdep
        exact hK _ _ True.intro hinv (fun d hd => by cases hd; trivial)
      refine Flow.Steps.cons (fun a W hfr hinv hdep K hK => ?_) ?_
      · have sg : a.tmps.getD 19 undef = .bool !true := hdep 19 (by kernel_rfl)
        rw [if_neg (Flow.wanted_no 12 true 19 rfl (by kernel_rfl) sg)]
        clear hfr hdep
        exact hK _ _ True.intro hinv (fun d hd => by cases hd; trivial)
      refine Flow.Steps.cons (fun a W hfr hinv hdep K hK => ?_) ?_
      · have sg : a.tmps.getD 19 undef = .bool !true := hdep 19 (by kernel_rfl)
        rw [if_neg (Flow.wanted_no 12 true 19 rfl (by kernel_rfl) sg)]
        clear hfr hdep
        exact hK _ _ True.intro hinv (fun d hd => by cases hd; trivial)
      refine Flow.Steps.cons (fun a W hfr hinv hdep K hK => ?_) ?_
      · have s19 : a.tmps.getD 19 undef = .bool false := hdep 19 (by kernel_rfl)
        have t19 : a.tmps[19]?.getD undef = .bool false := by simpa using s19
        rw [if_pos (Flow.wanted_none rfl)]
        clear hfr hdep
        go_simp
        exact hK _ _ True.intro hinv (fun d hd => by cases hd; trivial)
      refine Flow.Steps.cons (fun a W hfr hinv hdep K hK => ?_) ?_
      · have s28 : a.tmps.getD 28 undef = .bool false := hdep 28 (by kernel_rfl)
        have t28 : a.tmps[28]?.getD undef = .bool false := by simpa using s28
        rw [if_pos (Flow.wanted_none rfl)]
        clear hfr hdep
        go_simp
        exact hK _ _ True.intro hinv (fun d hd => by cases hd; trivial)
      refine Flow.Steps.cons (fun a W hfr hinv hdep K hK => ?_) ?_
      · have sg : a.tmps.getD 29 undef = .bool !true := hdep 29 (by kernel_rfl)
        have s1 : a.tmps.getD 1 undef = .pointer (some ⟨w.heap.size, 0, none⟩) := hfr.at 1 (by kernel_rfl)
        have t1 : a.tmps[1]?.getD undef = .pointer (some ⟨w.heap.size, 0, none⟩) := by simpa using s1
        rw [if_neg (Flow.wanted_no 22 true 29 rfl (by kernel_rfl) sg)]
        clear hfr hdep
        exact hK _ _ True.intro hinv (fun d hd => by cases hd; trivial)
      refine Flow.Steps.cons (fun a W hfr hinv hdep K hK => ?_) ?_
      · have sg : a.tmps.getD 29 undef = .bool !true := hdep 29 (by kernel_rfl)
        obtain ⟨c0, c1, c2, c3, c4, c5, c6, c7⟩ := (HB.out.below hinv HB.out.lt).c8
        rw [if_neg (Flow.wanted_no 22 true 29 rfl (by kernel_rfl) sg)]
        clear hfr hdep
        exact hK _ _ True.intro hinv (fun d hd => by cases hd; trivial)
      refine Flow.Steps.cons (fun a W hfr hinv hdep K hK => ?_) ?_
      · have sg : a.tmps.getD 29 undef = .bool !true := hdep 29 (by kernel_rfl)
        rw [if_neg (Flow.wanted_no 22 true 29 rfl (by kernel_rfl) sg)]
        clear hfr hdep
        exact hK _ _ True.intro hinv (fun d hd => by cases hd; trivial)
      refine Flow.Steps.cons (fun a W hfr hinv hdep K hK => ?_) ?_
      · have s29 : a.tmps.getD 29 undef = .bool false := hdep 29 (by kernel_rfl)
        have t29 : a.tmps[29]?.getD undef = .bool false := by simpa using s29
        rw [if_pos (Flow.wanted_none rfl)]
        clear hfr hdep
        go_simp
        exact hK _ _ True.intro hinv (fun d hd => by cases hd; trivial)
      refine Flow.Steps.cons (fun a W hfr hinv hdep K hK => ?_) ?_
      · have s33 : a.tmps.getD 33 undef = .bool false := hdep 33 (by kernel_rfl)
        have t33 : a.tmps[33]?.getD undef = .bool false := by simpa using s33
        rw [if_pos (Flow.wanted_none rfl)]
        clear hfr hdep
        go_simp
        exact hK _ _ True.intro hinv (fun d hd => by cases hd; trivial)
      refine Flow.Steps.cons (fun a W hfr hinv hdep K hK => ?_) ?_
      · have sg : a.tmps.getD 34 undef = .bool !true := hdep 34 (by kernel_rfl)
        have s1 : a.tmps.getD 1 undef = .pointer (some ⟨w.heap.size, 0, none⟩) := hfr.at 1 (by kernel_rfl)
        have t1 : a.tmps[1]?.getD undef = .pointer (some ⟨w.heap.size, 0, none⟩) := by simpa using s1
        rw [if_neg (Flow.wanted_no 27 true 34 rfl (by kernel_rfl) sg)]
        clear hfr hdep
        exact hK _ _ True.intro hinv (fun d hd => by cases hd; trivial)
      refine Flow.Steps.cons (fun a W hfr hinv hdep K hK => ?_) ?_
      · have sg : a.tmps.getD 34 undef = .bool !true := hdep 34 (by kernel_rfl)
        obtain ⟨c0, c1, c2, c3, c4, c5, c6, c7⟩ := (HB.out.below hinv HB.out.lt).c8
        rw [if_neg (Flow.wanted_no 27 true 34 rfl (by kernel_rfl) sg)]
        clear hfr hdep
        exact hK _ _ True.intro hinv (fun d hd => by cases hd; trivial)
      refine Flow.Steps.cons (fun a W hfr hinv hdep K hK => ?_) ?_
      · have sg : a.tmps.getD 34 undef = .bool !true := hdep 34 (by kernel_rfl)
        have s3 : a.tmps.getD 3 undef = .int .i64 na := hfr.at 3 (by kernel_rfl)
        have t3 : a.tmps[3]?.getD undef = .int .i64 na := by simpa using s3
        rw [if_neg (Flow.wanted_no 27 true 34 rfl (by kernel_rfl) sg)]
        clear hfr hdep
        exact hK _ _ True.intro hinv (fun d hd => by cases hd; trivial)
      refine Flow.Steps.cons (fun a W hfr hinv hdep K hK => ?_) ?_
      · have sg : a.tmps.getD 34 undef = .bool !true := hdep 34 (by kernel_rfl)
        rw [if_neg (Flow.wanted_no 27 true 34 rfl (by kernel_rfl) sg)]
        clear hfr hdep
        exact hK _ _ True.intro hinv (fun d hd => by cases hd; trivial)
      refine Flow.Steps.cons (fun a W hfr hinv hdep K hK => ?_) ?_
      · have sg : a.tmps.getD 34 undef = .bool !true := hdep 34 (by kernel_rfl)
        rw [if_neg (Flow.wanted_no 27 true 34 rfl (by kernel_rfl) sg)]
        clear hfr hdep
        exact hK _ _ True.intro hinv (fun d hd => by cases hd; trivial)
      refine Flow.Steps.cons (fun a W hfr hinv hdep K hK => ?_) ?_
      · have s34 : a.tmps.getD 34 undef = .bool false := hdep 34 (by kernel_rfl)
        have t34 : a.tmps[34]?.getD undef = .bool false := by simpa using s34
        rw [if_pos (Flow.wanted_none rfl)]
        clear hfr hdep
        go_simp
        exact hK _ _ True.intro hinv (fun d hd => by cases hd; trivial)
      refine Flow.Steps.cons (fun a W hfr hinv hdep K hK => ?_) ?_
      · have s40 : a.tmps.getD 40 undef = .bool false := hdep 40 (by kernel_rfl)
        have t40 : a.tmps[40]?.getD undef = .bool false := by simpa using s40
        rw [if_pos (Flow.wanted_none rfl)]
        clear hfr hdep
        go_simp
        exact hK _ _ True.intro hinv (fun d hd => by cases hd; trivial)
      exact True.intro
    case fin =>
      intro a W hfr hfin hsl
      have s2 : a.tmps.getD 2 undef = .bool false := hsl 34 _ 2 rfl rfl
      have t2 : a.tmps[2]?.getD undef = .bool false := by simpa using s2
      have e := Flow.frame hfr [7, 8, 9, 10, 11, 12, 13, 14, 15, 16, 17, 18, 19, 20, 21, 22, 23, 24, 25, 26, 27, 28, 29, 30, 31, 32, 33, 34, 35, 36, 37, 38, 39, 40, 2] (List.range 41) (by kernel_rfl) (by kernel_rfl)
      simp [List.range, List.range.loop] at e
      rw [t2] at e
      rw [e]
      clear e hfr hsl s2 t2
      rename_i K2 hK2
      refine hK2 _ _ ?_
      go_wp2_with fail
      go_ret
      exact ⟨ret_b HR.out.symm, grow1 hfin⟩

set_option maxRecDepth 100000 in
set_option maxHeartbeats 4000000 in
theorem may_core (k : Int) (t : Nat) (p : Nat) (x : Nat) (g : Int) (o : Int) (pb : Option Addr) (nb : Nat) (cb : Nat) (pa : Option Addr) (na : Nat) (ca : Nat) (V : Value) (S F : Bool) (w : World) (hN : ∀ W, Calls Try.prog 76 #[.agg #[.int .i64 k, .int .u64 t, .int .u64 p, .int .u64 x, .int .i64 g, .int .i64 o, .slice pb nb cb, .slice pa na ca]] W (RetV V W))
    (hS : ∀ W, Gr w W → Calls Try.prog 75 #[.agg #[.int .i64 k, .int .u64 t, .int .u64 p, .int .u64 x, .int .i64 g, .int .i64 o, .slice pb nb cb, .slice pa na ca], V] W (RetB S W)) (hF : ∀ W, Calls Try.prog 77 #[.agg #[.int .i64 k, .int .u64 t, .int .u64 p, .int .u64 x, .int .i64 g, .int .i64 o, .slice pb nb cb, .slice pa na ca]] W (RetB F W)) :
    Calls Try.prog 57 #[.agg #[.int .i64 k, .int .u64 t, .int .u64 p, .int .u64 x, .int .i64 g, .int .i64 o, .slice pb nb cb, .slice pa na ca]] w (RetB (!decide (t = 0) && (S && (!chB k || F))) w) := by
  have HB := Lib.hid (Blk.new w TR #[.int .i64 k, .int .u64 t, .int .u64 p, .int .u64 x, .int .i64 g, .int .i64 o, .slice pb nb cb, .slice pa na ca])
  obtain ⟨c0, c1, c2, c3, c4, c5, c6, c7⟩ := HB.out.c8
  have HN := Lib.hid hN
  have HF := Lib.hid hF
  have HS : Hid (∀ W, Gr (w.alloc (.cells #[.int .i64 k, .int .u64 t, .int .u64 p, .int .u64 x, .int .i64 g, .int .i64 o, .slice pb nb cb, .slice pa na ca] TR)) W → Calls Try.prog 75 #[.agg #[.int .i64 k, .int .u64 t, .int .u64 p, .int .u64 x, .int .i64 g, .int .i64 o, .slice pb nb cb, .slice pa na ca], V] W (RetB S W)) := Lib.hid (fun W g => hS W (grow1 g))
  clear hN hF hS
  by_cases ht : t = 0
  · have HT := Lib.hid ht
    clear ht
    go_enter Try.func57, Try.ntmps57
    go_wp2_with fail
    refine Flow.region (SlM0 k t p x g o pb nb cb pa na ca w.heap.size V F) (Gr (w.alloc (.cells #[.int .i64 k, .int .u64 t, .int .u64 p, .int .u64 x, .int .i64 g, .int .i64 o, .slice pb nb cb, .slice pa na ca] TR))) (fun _ _ => True) (by kernel_rfl) (by kernel_rfl) (fun _ _ _ _ h _ => h) ⟨rfl, rfl, rfl, Nat.le_refl _, fun _ _ => rfl⟩ ?steps ?fin
    case steps =>
      refine Flow.Steps.cons (fun a W hfr hinv hdep K hK => ?_) ?_
      · have s1 : a.tmps.getD 1 undef = .pointer (some ⟨w.heap.size, 0, none⟩) := hfr.at 1 (by kernel_rfl)
        have t1 : a.tmps[1]?.getD undef = .pointer (some ⟨w.heap.size, 0, none⟩) := by simpa using s1
        rw [if_pos (Flow.wanted_none rfl)]
        clear hfr hdep
        go_simp
        exact hK _ _ True.intro hinv (fun d hd => by cases hd; trivial)
      refine Flow.Steps.cons (fun a W hfr hinv hdep K hK => ?_) ?_
      · have s3 : a.tmps.getD 3 undef = .pointer (some ⟨w.heap.size, 1, none⟩) := hdep 3 (by kernel_rfl)
        have t3 : a.tmps[3]?.getD undef = .pointer (some ⟨w.heap.size, 1, none⟩) := by simpa using s3
        obtain ⟨c0, c1, c2, c3, c4, c5, c6, c7⟩ := (HB.out.below hinv HB.out.lt).c8
        rw [if_pos (Flow.wanted_none rfl)]
        clear hfr hdep
        go_simp
        exact hK _ _ True.intro hinv (fun d hd => by cases hd; trivial)
      refine Flow.Steps.cons (fun a W hfr hinv hdep K hK => ?_) ?_
      · have s4 : a.tmps.getD 4 undef = .int .u64 t := hdep 4 (by kernel_rfl)
        have t4 : a.tmps[4]?.getD undef = .int .u64 t := by simpa using s4
        have hq := HT.out
        rw [if_pos (Flow.wanted_none rfl)]
        clear hfr hdep
        go_simp
        exact hK _ _ True.intro hinv (fun d hd => by cases hd; trivial)
      refine Flow.Steps.cons (fun a W hfr hinv hdep K hK => ?_) ?_
      · have s5 : a.tmps.getD 5 undef = .bool false := hdep 5 (by kernel_rfl)
        have t5 : a.tmps[5]?.getD undef = .bool false := by simpa using s5
        rw [if_pos (Flow.wanted_none rfl)]
        clear hfr hdep
        go_simp
        exact hK _ _ True.intro hinv (fun d hd => by cases hd; trivial)
      refine Flow.Steps.cons (fun a W hfr hinv hdep K hK => ?_) ?_
      · have sg : a.tmps.getD 6 undef = .bool !true := hdep 6 (by kernel_rfl)
        have s1 : a.tmps.getD 1 undef = .pointer (some ⟨w.heap.size, 0, none⟩) := hfr.at 1 (by kernel_rfl)
        have t1 : a.tmps[1]?.getD undef = .pointer (some ⟨w.heap.size, 0, none⟩) := by simpa using s1
        obtain ⟨c0, c1, c2, c3, c4, c5, c6, c7⟩ := (HB.out.below hinv HB.out.lt).c8
        rw [if_neg (Flow.wanted_no 3 true 6 rfl (by kernel_rfl) sg)]
        clear hfr hdep
        exact hK _ _ True.intro hinv (fun d hd => by cases hd; trivial)
      refine Flow.Steps.cons (fun a W hfr hinv hdep K hK => ?_) ?_
      · have sg : a.tmps.getD 6 undef = .bool !true := hdep 6 (by kernel_rfl)
        have s1 : a.tmps.getD 1 undef = .pointer (some ⟨w.heap.size, 0, none⟩) := hfr.at 1 (by kernel_rfl)
        have t1 : a.tmps[1]?.getD undef = .pointer (some ⟨w.heap.size, 0, none⟩) := by simpa using s1
        obtain ⟨c0, c1, c2, c3, c4, c5, c6, c7⟩ := (HB.out.below hinv HB.out.lt).c8
        rw [if_neg (Flow.wanted_no 3 true 6 rfl (by kernel_rfl) sg)]
        clear hfr hdep
        exact hK _ _ True.intro hinv (fun d hd => by cases hd; trivial)
      refine Flow.Steps.cons (fun a W hfr hinv hdep K hK => ?_) ?_
      · have sg : a.tmps.getD 6 undef = .bool !true := hdep 6 (by kernel_rfl)
        rw [if_neg (Flow.wanted_no 3 true 6 rfl (by kernel_rfl) sg)]
        clear hfr hdep
        exact hK _ _ True.intro hinv (fun d hd => by cases hd; trivial)
      refine Flow.Steps.cons (fun a W hfr hinv hdep K hK => ?_) ?_
      · have sg : a.tmps.getD 6 undef = .bool !true := hdep 6 (by kernel_rfl)
        rw [if_neg (Flow.wanted_no 3 true 6 rfl (by kernel_rfl) sg)]
        clear hfr hdep
        exact hK _ _ True.intro hinv (fun d hd => by cases hd; trivial)
      refine Flow.Steps.cons (fun a W hfr hinv hdep K hK => ?_) ?_
      · have s6 : a.tmps.getD 6 undef = .bool false := hdep 6 (by kernel_rfl)
        have t6 : a.tmps[6]?.getD undef = .bool false := by simpa using s6
        rw [if_pos (Flow.wanted_none rfl)]
        clear hfr hdep
        go_simp
        exact hK _ _ True.intro hinv (fun d hd => by cases hd; trivial)
      refine Flow.Steps.cons (fun a W hfr hinv hdep K hK => ?_) ?_
      · have s11 : a.tmps.getD 11 undef = .bool false := hdep 11 (by kernel_rfl)
        have t11 : a.tmps[11]?.getD undef = .bool false := by simpa using s11
        rw [if_pos (Flow.wanted_none rfl)]
        clear hfr hdep
        go_simp
        exact hK _ _ True.intro hinv (fun d hd => by cases hd; trivial)
      refine Flow.Steps.cons (fun a W hfr hinv hdep K hK => ?_) ?_
      · have sg : a.tmps.getD 12 undef = .bool !true := hdep 12 (by kernel_rfl)
        have s1 : a.tmps.getD 1 undef = .pointer (some ⟨w.heap.size, 0, none⟩) := hfr.at 1 (by kernel_rfl)
        have t1 : a.tmps[1]?.getD undef = .pointer (some ⟨w.heap.size, 0, none⟩) := by simpa using s1
        rw [if_neg (Flow.wanted_no 9 true 12 rfl (by kernel_rfl) sg)]
        clear hfr hdep
        exact hK _ _ True.intro hinv (fun d hd => by cases hd; trivial)
      refine Flow.Steps.cons (fun a W hfr hinv hdep K hK => ?_) ?_
      · have sg : a.tmps.getD 12 undef = .bool !true := hdep 12 (by kernel_rfl)
        obtain ⟨c0, c1, c2, c3, c4, c5, c6, c7⟩ := (HB.out.below hinv HB.out.lt).c8
        rw [if_neg (Flow.wanted_no 9 true 12 rfl (by kernel_rfl) sg)]
        clear hfr hdep
        exact hK _ _ True.intro hinv (fun d hd => by cases hd; trivial)
      refine Flow.Steps.cons (fun a W hfr hinv hdep K hK => ?_) ?_
      · have sg : a.tmps.getD 12 undef = .bool !true := hdep 12 (by kernel_rfl)
        rw [if_neg (Flow.wanted_no 9 true 12 rfl (by kernel_rfl) sg)]
        clear hfr hdep
        exact hK _ _ True.intro hinv (fun d hd => by cases hd; trivial)
      refine Flow.Steps.cons (fun a W hfr hinv hdep K hK => ?_) ?_
      · have sg : a.tmps.getD 12 undef = .bool !true := hdep 12 (by kernel_rfl)
        rw [if_neg (Flow.wanted_no 9 true 12 rfl (by kernel_rfl) sg)]
        clear hfr hdep
        exact hK _ _ True.intro hinv (fun d hd => by cases hd; trivial)
      refine Flow.Steps.cons (fun a W hfr hinv hdep K hK => ?_) ?_
      · have sg : a.tmps.getD 12 undef = .bool !true := hdep 12 (by kernel_rfl)
        rw [if_neg (Flow.wanted_no 9 true 12 rfl (by kernel_rfl) sg)]
        clear hfr hdep
        exact hK _ _ True.intro hinv (fun d hd => by cases hd; trivial)
      refine Flow.Steps.cons (fun a W hfr hinv hdep K hK => ?_) ?_
      · have sg : a.tmps.getD 17 undef = undef := hdep 17 (by kernel_rfl)
        have s1 : a.tmps.getD 1 undef = .pointer (some ⟨w.heap.size, 0, none⟩) := hfr.at 1 (by kernel_rfl)
        have t1 : a.tmps[1]?.getD undef = .pointer (some ⟨w.heap.size, 0, none⟩) := by simpa using s1
        obtain ⟨c0, c1, c2, c3, c4, c5, c6, c7⟩ := (HB.out.below hinv HB.out.lt).c8
        rw [if_neg (Flow.wanted_undef 14 false 17 rfl (by kernel_rfl) sg)]
        clear hfr hdep
        exact hK _ _ True.intro hinv (fun d hd => by cases hd; trivial)
      refine Flow.Steps.cons (fun a W hfr hinv hdep K hK => ?_) ?_
      · have sg : a.tmps.getD 17 undef = undef := hdep 17 (by kernel_rfl)
        rw [if_neg (Flow.wanted_undef 14 false 17 rfl (by kernel_rfl) sg)]
        clear hfr hdep
        exact hK _ _ True.intro hinv (fun d hd => by cases hd; trivial)
      refine Flow.Steps.cons (fun a W hfr hinv hdep K hK => ?_) ?_
      · have sg : a.tmps.getD 12 undef = .bool !true := hdep 12 (by kernel_rfl)
        have s17 : a.tmps.getD 17 undef = undef := hdep 17 (by kernel_rfl)
        have t17 : a.tmps[17]?.getD undef = undef := by simpa using s17
        rw [if_neg (Flow.wanted_no 9 true 12 rfl (by kernel_rfl) sg)]
        clear hfr hdep
        exact hK _ _ True.intro hinv (fun d hd => by cases hd; trivial)
      refine Flow.Steps.cons (fun a W hfr hinv hdep K hK => ?_) ?_
      · have s12 : a.tmps.getD 12 undef = .bool false := hdep 12 (by kernel_rfl)
        have t12 : a.tmps[12]?.getD undef = .bool false := by simpa using s12
        rw [if_pos (Flow.wanted_none rfl)]
        clear hfr hdep
        go_simp
        exact hK _ _ True.intro hinv (fun d hd => by cases hd; trivial)
      refine Flow.Steps.cons (fun a W hfr hinv hdep K hK => ?_) ?_
      · have s21 : a.tmps.getD 21 undef = .bool false := hdep 21 (by kernel_rfl)
        have t21 : a.tmps[21]?.getD undef = .bool false := by simpa using s21
        rw [if_pos (Flow.wanted_none rfl)]
        clear hfr hdep
        go_simp
        exact hK _ _ True.intro hinv (fun d hd => by cases hd; trivial)
      exact True.intro
    case fin =>
      intro a W hfr hfin hsl
      have s2 : a.tmps.getD 2 undef = .bool false := hsl 19 _ 2 rfl rfl
      have t2 : a.tmps[2]?.getD undef = .bool false := by simpa using s2
      have e := Flow.frame hfr [3, 4, 5, 6, 7, 8, 9, 10, 11, 12, 13, 14, 15, 16, 17, 18, 19, 20, 21, 2] (List.range 22) (by kernel_rfl) (by kernel_rfl)
      simp [List.range, List.range.loop] at e
      rw [t2] at e
      rw [e]
      clear e hfr hsl s2 t2
      rename_i K2 hK2
      refine hK2 _ _ ?_
      go_wp2_with fail
      go_ret
      exact ⟨ret_b (by rw [decide_eq_true HT.out]; rfl), grow1 hfin⟩
  · have HT : Hid (((t : Int) != 0) = true ∧ decide (t = 0) = false) := Lib.hid ⟨by simp; omega, decide_eq_false ht⟩
    clear ht
    cases S
    · go_enter Try.func57, Try.ntmps57
      go_wp2_with fail
      refine Flow.region (SlM1 k t p x g o pb nb cb pa na ca w.heap.size V F) (Gr (w.alloc (.cells #[.int .i64 k, .int .u64 t, .int .u64 p, .int .u64 x, .int .i64 g, .int .i64 o, .slice pb nb cb, .slice pa na ca] TR))) (fun _ _ => True) (by kernel_rfl) (by kernel_rfl) (fun _ _ _ _ h _ => h) ⟨rfl, rfl, rfl, Nat.le_refl _, fun _ _ => rfl⟩ ?steps ?fin
      case steps =>
        refine Flow.Steps.cons (fun a W hfr hinv hdep K hK => ?_) ?_
        · have s1 : a.tmps.getD 1 undef = .pointer (some ⟨w.heap.size, 0, none⟩) := hfr.at 1 (by kernel_rfl)
          have t1 : a.tmps[1]?.getD undef = .pointer (some ⟨w.heap.size, 0, none⟩) := by simpa using s1
          rw [if_pos (Flow.wanted_none rfl)]
          clear hfr hdep
          go_simp
          exact hK _ _ True.intro hinv (fun d hd => by cases hd; trivial)
        refine Flow.Steps.cons (fun a W hfr hinv hdep K hK => ?_) ?_
        · have s3 : a.tmps.getD 3 undef = .pointer (some ⟨w.heap.size, 1, none⟩) := hdep 3 (by kernel_rfl)
          have t3 : a.tmps[3]?.getD undef = .pointer (some ⟨w.heap.size, 1, none⟩) := by simpa using s3
          obtain ⟨c0, c1, c2, c3, c4, c5, c6, c7⟩ := (HB.out.below hinv HB.out.lt).c8
          rw [if_pos (Flow.wanted_none rfl)]
          clear hfr hdep
          go_simp
          exact hK _ _ True.intro hinv (fun d hd => by cases hd; trivial)
        refine Flow.Steps.cons (fun a W hfr hinv hdep K hK => ?_) ?_
        · have s4 : a.tmps.getD 4 undef = .int .u64 t := hdep 4 (by kernel_rfl)
          have t4 : a.tmps[4]?.getD undef = .int .u64 t := by simpa using s4
          obtain ⟨hq, hq2⟩ := HT.out
          rw [if_pos (Flow.wanted_none rfl)]
          clear hfr hdep
          go_simp
          exact hK _ _ True.intro hinv (fun d hd => by cases hd; trivial)
        refine Flow.Steps.cons (fun a W hfr hinv hdep K hK => ?_) ?_
        · have s5 : a.tmps.getD 5 undef = .bool true := hdep 5 (by kernel_rfl)
          have t5 : a.tmps[5]?.getD undef = .bool true := by simpa using s5
          rw [if_pos (Flow.wanted_none rfl)]
          clear hfr hdep
          go_simp
          exact hK _ _ True.intro hinv (fun d hd => by cases hd; trivial)
        refine Flow.Steps.cons (fun a W hfr hinv hdep K hK => ?_) ?_
        · have sg : a.tmps.getD 6 undef = .bool true := hdep 6 (by kernel_rfl)
          have s1 : a.tmps.getD 1 undef = .pointer (some ⟨w.heap.size, 0, none⟩) := hfr.at 1 (by kernel_rfl)
          have t1 : a.tmps[1]?.getD undef = .pointer (some ⟨w.heap.size, 0, none⟩) := by simpa using s1
          obtain ⟨c0, c1, c2, c3, c4, c5, c6, c7⟩ := (HB.out.below hinv HB.out.lt).c8
          rw [if_pos (Flow.wanted_yes 3 true 6 rfl (by kernel_rfl) sg)]
          clear hfr hdep
          go_simp
          exact hK _ _ True.intro hinv (fun d hd => by cases hd; trivial)
        refine Flow.Steps.cons (fun a W hfr hinv hdep K hK => ?_) ?_
        · have sg : a.tmps.getD 6 undef = .bool true := hdep 6 (by kernel_rfl)
          have s1 : a.tmps.getD 1 undef = .pointer (some ⟨w.heap.size, 0, none⟩) := hfr.at 1 (by kernel_rfl)
          have t1 : a.tmps[1]?.getD undef = .pointer (some ⟨w.heap.size, 0, none⟩) := by simpa using s1
          obtain ⟨c0, c1, c2, c3, c4, c5, c6, c7⟩ := (HB.out.below hinv HB.out.lt).c8
          rw [if_pos (Flow.wanted_yes 3 true 6 rfl (by kernel_rfl) sg)]
          clear hfr hdep
          go_simp
          exact hK _ _ True.intro hinv (fun d hd => by cases hd; trivial)
        refine Flow.Steps.cons (fun a W hfr hinv hdep K hK => ?_) ?_
        · have sg : a.tmps.getD 6 undef = .bool true := hdep 6 (by kernel_rfl)
          have s8 : a.tmps.getD 8 undef = .agg #[.int .i64 k, .int .u64 t, .int .u64 p, .int .u64 x, .int .i64 g, .int .i64 o, .slice pb nb cb, .slice pa na ca] := hdep 8 (by kernel_rfl)
          have t8 : a.tmps[8]?.getD undef = .agg #[.int .i64 k, .int .u64 t, .int .u64 p, .int .u64 x, .int .i64 g, .int .i64 o, .slice pb nb cb, .slice pa na ca] := by simpa using s8
          rw [if_pos (Flow.wanted_yes 3 true 6 rfl (by kernel_rfl) sg)]
          clear hfr hdep
          go_simp
          refine (HN.out W).mono ?_
          rintro e W' ⟨rfl, g1⟩
          exact hK _ _ True.intro (Gr.trans hinv g1) (fun d hd => by cases hd; trivial)
        refine Flow.Steps.cons (fun a W hfr hinv hdep K hK => ?_) ?_
        · have sg : a.tmps.getD 6 undef = .bool true := hdep 6 (by kernel_rfl)
          have s7 : a.tmps.getD 7 undef = .agg #[.int .i64 k, .int .u64 t, .int .u64 p, .int .u64 x, .int .i64 g, .int .i64 o, .slice pb nb cb, .slice pa na ca] := hdep 7 (by kernel_rfl)
          have t7 : a.tmps[7]?.getD undef = .agg #[.int .i64 k, .int .u64 t, .int .u64 p, .int .u64 x, .int .i64 g, .int .i64 o, .slice pb nb cb, .slice pa na ca] := by simpa using s7
          have s9 : a.tmps.getD 9 undef = V := hdep 9 (by kernel_rfl)
          have t9 : a.tmps[9]?.getD undef = V := by simpa using s9
          rw [if_pos (Flow.wanted_yes 3 true 6 rfl (by kernel_rfl) sg)]
          clear hfr hdep
          go_simp
          refine (HS.out W hinv).mono ?_
          rintro e W' ⟨rfl, g1⟩
          exact hK _ _ True.intro (Gr.trans hinv g1) (fun d hd => by cases hd; trivial)
        refine Flow.Steps.cons (fun a W hfr hinv hdep K hK => ?_) ?_
        · have s6 : a.tmps.getD 6 undef = .bool true := hdep 6 (by kernel_rfl)
          have t6 : a.tmps[6]?.getD undef = .bool true := by simpa using s6
          have s10 : a.tmps.getD 10 undef = .bool false := hdep 10 (by kernel_rfl)
          have t10 : a.tmps[10]?.getD undef = .bool false := by simpa using s10
          rw [if_pos (Flow.wanted_none rfl)]
          clear hfr hdep
          go_simp
          exact hK _ _ True.intro hinv (fun d hd => by cases hd; trivial)
        refine Flow.Steps.cons (fun a W hfr hinv hdep K hK => ?_) ?_
        · have s11 : a.tmps.getD 11 undef = .bool false := hdep 11 (by kernel_rfl)
          have t11 : a.tmps[11]?.getD undef = .bool false := by simpa using s11
          rw [if_pos (Flow.wanted_none rfl)]
          clear hfr hdep
          go_simp
          exact hK _ _ True.intro hinv (fun d hd => by cases hd; trivial)
        refine Flow.Steps.cons (fun a W hfr hinv hdep K hK => ?_) ?_
        · have sg : a.tmps.getD 12 undef = .bool !true := hdep 12 (by kernel_rfl)
          have s1 : a.tmps.getD 1 undef = .pointer (some ⟨w.heap.size, 0, none⟩) := hfr.at 1 (by kernel_rfl)
          have t1 : a.tmps[1]?.getD undef = .pointer (some ⟨w.heap.size, 0, none⟩) := by simpa using s1
          rw [if_neg (Flow.wanted_no 9 true 12 rfl (by kernel_rfl) sg)]
          clear hfr hdep
          exact hK _ _ True.intro hinv (fun d hd => by cases hd; trivial)
        refine Flow.Steps.cons (fun a W hfr hinv hdep K hK => ?_) ?_
        · have sg : a.tmps.getD 12 undef = .bool !true := hdep 12 (by kernel_rfl)
          obtain ⟨c0, c1, c2, c3, c4, c5, c6, c7⟩ := (HB.out.below hinv HB.out.lt).c8
          rw [if_neg (Flow.wanted_no 9 true 12 rfl (by kernel_rfl) sg)]
          clear hfr hdep
          exact hK _ _ True.intro hinv (fun d hd => by cases hd; trivial)
        refine Flow.Steps.cons (fun a W hfr hinv hdep K hK => ?_) ?_
        · have sg : a.tmps.getD 12 undef = .bool !true := hdep 12 (by kernel_rfl)
          rw [if_neg (Flow.wanted_no 9 true 12 rfl (by kernel_rfl) sg)]
          clear hfr hdep
          exact hK _ _ True.intro hinv (fun d hd => by cases hd; trivial)
        refine Flow.Steps.cons (fun a W hfr hinv hdep K hK => ?_) ?_
        · have sg : a.tmps.getD 12 undef = .bool !true := hdep 12 (by kernel_rfl)
          rw [if_neg (Flow.wanted_no 9 true 12 rfl (by kernel_rfl) sg)]
          clear hfr hdep
          exact hK _ _ True.intro hinv (fun d hd => by cases hd; trivial)
        refine Flow.Steps.cons (fun a W hfr hinv hdep K hK => ?_) ?_
        · have sg : a.tmps.getD 12 undef = .bool !true := hdep 12 (by kernel_rfl)
          rw [if_neg (Flow.wanted_no 9 true 12 rfl (by kernel_rfl) sg)]
          clear hfr hdep
          exact hK _ _ True.intro hinv (fun d hd => by cases hd; trivial)
        refine Flow.Steps.cons (fun a W hfr hinv hdep K hK => ?_) ?_
        · have sg : a.tmps.getD 17 undef = undef := hdep 17 (by kernel_rfl)
          have s1 : a.tmps.getD 1 undef = .pointer (some ⟨w.heap.size, 0, none⟩) := hfr.at 1 (by kernel_rfl)
          have t1 : a.tmps[1]?.getD undef = .pointer (some ⟨w.heap.size, 0, none⟩) := by simpa using s1
          obtain ⟨c0, c1, c2, c3, c4, c5, c6, c7⟩ := (HB.out.below hinv HB.out.lt).c8
          rw [if_neg (Flow.wanted_undef 14 false 17 rfl (by kernel_rfl) sg)]
          clear hfr hdep
          exact hK _ _ True.intro hinv (fun d hd => by cases hd; trivial)
        refine Flow.Steps.cons (fun a W hfr hinv hdep K hK => ?_) ?_
        · have sg : a.tmps.getD 17 undef = undef := hdep 17 (by kernel_rfl)
          rw [if_neg (Flow.wanted_undef 14 false 17 rfl (by kernel_rfl) sg)]
          clear hfr hdep
          exact hK _ _ True.intro hinv (fun d hd => by cases hd; trivial)
        refine Flow.Steps.cons (fun a W hfr hinv hdep K hK => ?_) ?_
        · have sg : a.tmps.getD 12 undef = .bool !true := hdep 12 (by kernel_rfl)
          have s17 : a.tmps.getD 17 undef = undef := hdep 17 (by kernel_rfl)
          have t17 : a.tmps[17]?.getD undef = undef := by simpa using s17
          rw [if_neg (Flow.wanted_no 9 true 12 rfl (by kernel_rfl) sg)]
          clear hfr hdep
          exact hK _ _ True.intro hinv (fun d hd => by cases hd; trivial)
        refine Flow.Steps.cons (fun a W hfr hinv hdep K hK => ?_) ?_
        · have s12 : a.tmps.getD 12 undef = .bool false := hdep 12 (by kernel_rfl)
          have t12 : a.tmps[12]?.getD undef = .bool false := by simpa using s12
          rw [if_pos (Flow.wanted_none rfl)]
          clear hfr hdep
          go_simp
          exact hK _ _ True.intro hinv (fun d hd => by cases hd; trivial)
        refine Flow.Steps.cons (fun a W hfr hinv hdep K hK => ?_) ?_
        · have s21 : a.tmps.getD 21 undef = .bool false := hdep 21 (by kernel_rfl)
          have t21 : a.tmps[21]?.getD undef = .bool false := by simpa using s21
          rw [if_pos (Flow.wanted_none rfl)]
          clear hfr hdep
          go_simp
          exact hK _ _ True.intro hinv (fun d hd => by cases hd; trivial)
        exact True.intro
      case fin =>
        intro a W hfr hfin hsl
        have s2 : a.tmps.getD 2 undef = .bool false := hsl 19 _ 2 rfl rfl
        have t2 : a.tmps[2]?.getD undef = .bool false := by simpa using s2
        have e := Flow.frame hfr [3, 4, 5, 6, 7, 8, 9, 10, 11, 12, 13, 14, 15, 16, 17, 18, 19, 20, 21, 2] (List.range 22) (by kernel_rfl) (by kernel_rfl)
        simp [List.range, List.range.loop] at e
        rw [t2] at e
        rw [e]
        clear e hfr hsl s2 t2
        rename_i K2 hK2
        refine hK2 _ _ ?_
        go_wp2_with fail
        go_ret
        exact ⟨ret_b (by rw [HT.out.2]; rfl), grow1 hfin⟩
    · cases hc : chB k
      · have HC := Lib.hid hc
        clear hc
        go_enter Try.func57, Try.ntmps57
        go_wp2_with fail
        refine Flow.region (SlM2 k t p x g o pb nb cb pa na ca w.heap.size V F) (Gr (w.alloc (.cells #[.int .i64 k, .int .u64 t, .int .u64 p, .int .u64 x, .int .i64 g, .int .i64 o, .slice pb nb cb, .slice pa na ca] TR))) (fun _ _ => True) (by kernel_rfl) (by kernel_rfl) (fun _ _ _ _ h _ => h) ⟨rfl, rfl, rfl, Nat.le_refl _, fun _ _ => rfl⟩ ?steps ?fin
        case steps =>
          refine Flow.Steps.cons (fun a W hfr hinv hdep K hK => ?_) ?_
          · have s1 : a.tmps.getD 1 undef = .pointer (some ⟨w.heap.size, 0, none⟩) := hfr.at 1 (by kernel_rfl)
            have t1 : a.tmps[1]?.getD undef = .pointer (some ⟨w.heap.size, 0, none⟩) := by simpa using s1
            rw [if_pos (Flow.wanted_none rfl)]
            clear hfr hdep
            go_simp
            exact hK _ _ True.intro hinv (fun d hd => by cases hd; trivial)
          refine Flow.Steps.cons (fun a W hfr hinv hdep K hK => ?_) ?_
          · have s3 : a.tmps.getD 3 undef = .pointer (some ⟨w.heap.size, 1, none⟩) := hdep 3 (by kernel_rfl)
            have t3 : a.tmps[3]?.getD undef = .pointer (some ⟨w.heap.size, 1, none⟩) := by simpa using s3
            obtain ⟨c0, c1, c2, c3, c4, c5, c6, c7⟩ := (HB.out.below hinv HB.out.lt).c8
            rw [if_pos (Flow.wanted_none rfl)]
            clear hfr hdep
            go_simp
            exact hK _ _ True.intro hinv (fun d hd => by cases hd; trivial)
          refine Flow.Steps.cons (fun a W hfr hinv hdep K hK => ?_) ?_
          · have s4 : a.tmps.getD 4 undef = .int .u64 t := hdep 4 (by kernel_rfl)
            have t4 : a.tmps[4]?.getD undef = .int .u64 t := by simpa using s4
            obtain ⟨hq, hq2⟩ := HT.out
            rw [if_pos (Flow.wanted_none rfl)]
            clear hfr hdep
            go_simp
            exact hK _ _ True.intro hinv (fun d hd => by cases hd; trivial)
          refine Flow.Steps.cons (fun a W hfr hinv hdep K hK => ?_) ?_
          · have s5 : a.tmps.getD 5 undef = .bool true := hdep 5 (by kernel_rfl)
            have t5 : a.tmps[5]?.getD undef = .bool true := by simpa using s5
            rw [if_pos (Flow.wanted_none rfl)]
            clear hfr hdep
            go_simp
            exact hK _ _ True.intro hinv (fun d hd => by cases hd; trivial)
          refine Flow.Steps.cons (fun a W hfr hinv hdep K hK => ?_) ?_
          · have sg : a.tmps.getD 6 undef = .bool true := hdep 6 (by kernel_rfl)
            have s1 : a.tmps.getD 1 undef = .pointer (some ⟨w.heap.size, 0, none⟩) := hfr.at 1 (by kernel_rfl)
            have t1 : a.tmps[1]?.getD undef = .pointer (some ⟨w.heap.size, 0, none⟩) := by simpa using s1
            obtain ⟨c0, c1, c2, c3, c4, c5, c6, c7⟩ := (HB.out.below hinv HB.out.lt).c8
            rw [if_pos (Flow.wanted_yes 3 true 6 rfl (by kernel_rfl) sg)]
            clear hfr hdep
            go_simp
            exact hK _ _ True.intro hinv (fun d hd => by cases hd; trivial)
          refine Flow.Steps.cons (fun a W hfr hinv hdep K hK => ?_) ?_
          · have sg : a.tmps.getD 6 undef = .bool true := hdep 6 (by kernel_rfl)
            have s1 : a.tmps.getD 1 undef = .pointer (some ⟨w.heap.size, 0, none⟩) := hfr.at 1 (by kernel_rfl)
            have t1 : a.tmps[1]?.getD undef = .pointer (some ⟨w.heap.size, 0, none⟩) := by simpa using s1
            obtain ⟨c0, c1, c2, c3, c4, c5, c6, c7⟩ := (HB.out.below hinv HB.out.lt).c8
            rw [if_pos (Flow.wanted_yes 3 true 6 rfl (by kernel_rfl) sg)]
            clear hfr hdep
            go_simp
            exact hK _ _ True.intro hinv (fun d hd => by cases hd; trivial)
          refine Flow.Steps.cons (fun a W hfr hinv hdep K hK => ?_) ?_
          · have sg : a.tmps.getD 6 undef = .bool true := hdep 6 (by kernel_rfl)
            have s8 : a.tmps.getD 8 undef = .agg #[.int .i64 k, .int .u64 t, .int .u64 p, .int .u64 x, .int .i64 g, .int .i64 o, .slice pb nb cb, .slice pa na ca] := hdep 8 (by kernel_rfl)
            have t8 : a.tmps[8]?.getD undef = .agg #[.int .i64 k, .int .u64 t, .int .u64 p, .int .u64 x, .int .i64 g, .int .i64 o, .slice pb nb cb, .slice pa na ca] := by simpa using s8
            rw [if_pos (Flow.wanted_yes 3 true 6 rfl (by kernel_rfl) sg)]
            clear hfr hdep
            go_simp
            refine (HN.out W).mono ?_
            rintro e W' ⟨rfl, g1⟩
            exact hK _ _ True.intro (Gr.trans hinv g1) (fun d hd => by cases hd; trivial)
          refine Flow.Steps.cons (fun a W hfr hinv hdep K hK => ?_) ?_
          · have sg : a.tmps.getD 6 undef = .bool true := hdep 6 (by kernel_rfl)
            have s7 : a.tmps.getD 7 undef = .agg #[.int .i64 k, .int .u64 t, .int .u64 p, .int .u64 x, .int .i64 g, .int .i64 o, .slice pb nb cb, .slice pa na ca] := hdep 7 (by kernel_rfl)
            have t7 : a.tmps[7]?.getD undef = .agg #[.int .i64 k, .int .u64 t, .int .u64 p, .int .u64 x, .int .i64 g, .int .i64 o, .slice pb nb cb, .slice pa na ca] := by simpa using s7
            have s9 : a.tmps.getD 9 undef = V := hdep 9 (by kernel_rfl)
            have t9 : a.tmps[9]?.getD undef = V := by simpa using s9
            rw [if_pos (Flow.wanted_yes 3 true 6 rfl (by kernel_rfl) sg)]
            clear hfr hdep
            go_simp
            refine (HS.out W hinv).mono ?_
            rintro e W' ⟨rfl, g1⟩
            exact hK _ _ True.intro (Gr.trans hinv g1) (fun d hd => by cases hd; trivial)
          refine Flow.Steps.cons (fun a W hfr hinv hdep K hK => ?_) ?_
          · have s6 : a.tmps.getD 6 undef = .bool true := hdep 6 (by kernel_rfl)
            have t6 : a.tmps[6]?.getD undef = .bool true := by simpa using s6
            have s10 : a.tmps.getD 10 undef = .bool true := hdep 10 (by kernel_rfl)
            have t10 : a.tmps[10]?.getD undef = .bool true := by simpa using s10
            rw [if_pos (Flow.wanted_none rfl)]
            clear hfr hdep
            go_simp
            exact hK _ _ True.intro hinv (fun d hd => by cases hd; trivial)
          refine Flow.Steps.cons (fun a W hfr hinv hdep K hK => ?_) ?_
          · have s11 : a.tmps.getD 11 undef = .bool true := hdep 11 (by kernel_rfl)
            have t11 : a.tmps[11]?.getD undef = .bool true := by simpa using s11
            rw [if_pos (Flow.wanted_none rfl)]
            clear hfr hdep
            go_simp
            exact hK _ _ True.intro hinv (fun d hd => by cases hd; trivial)
          refine Flow.Steps.cons (fun a W hfr hinv hdep K hK => ?_) ?_
          · have sg : a.tmps.getD 12 undef = .bool true := hdep 12 (by kernel_rfl)
            have s1 : a.tmps.getD 1 undef = .pointer (some ⟨w.heap.size, 0, none⟩) := hfr.at 1 (by kernel_rfl)
            have t1 : a.tmps[1]?.getD undef = .pointer (some ⟨w.heap.size, 0, none⟩) := by simpa using s1
            rw [if_pos (Flow.wanted_yes 9 true 12 rfl (by kernel_rfl) sg)]
            clear hfr hdep
            go_simp
            exact hK _ _ True.intro hinv (fun d hd => by cases hd; trivial)
          refine Flow.Steps.cons (fun a W hfr hinv hdep K hK => ?_) ?_
          · have sg : a.tmps.getD 12 undef = .bool true := hdep 12 (by kernel_rfl)
            have s13 : a.tmps.getD 13 undef = .pointer (some ⟨w.heap.size, 0, none⟩) := hdep 13 (by kernel_rfl)
            have t13 : a.tmps[13]?.getD undef = .pointer (some ⟨w.heap.size, 0, none⟩) := by simpa using s13
            obtain ⟨c0, c1, c2, c3, c4, c5, c6, c7⟩ := (HB.out.below hinv HB.out.lt).c8
            rw [if_pos (Flow.wanted_yes 9 true 12 rfl (by kernel_rfl) sg)]
            clear hfr hdep
            go_simp
            exact hK _ _ True.intro hinv (fun d hd => by cases hd; trivial)
          refine Flow.Steps.cons (fun a W hfr hinv hdep K hK => ?_) ?_
          · have sg : a.tmps.getD 12 undef = .bool true := hdep 12 (by kernel_rfl)
            have s14 : a.tmps.getD 14 undef = .int .i64 k := hdep 14 (by kernel_rfl)
            have t14 : a.tmps[14]?.getD undef = .int .i64 k := by simpa using s14
            rw [if_pos (Flow.wanted_yes 9 true 12 rfl (by kernel_rfl) sg)]
            clear hfr hdep
            go_simp
            refine (changes_any _ W).mono ?_
            rintro e W' ⟨rfl, rfl⟩
            rw [HC.out]
            exact hK _ _ True.intro hinv (fun d hd => by cases hd; trivial)
          refine Flow.Steps.cons (fun a W hfr hinv hdep K hK => ?_) ?_
          · have sg : a.tmps.getD 12 undef = .bool true := hdep 12 (by kernel_rfl)
            have s15 : a.tmps.getD 15 undef = .bool false := hdep 15 (by kernel_rfl)
            have t15 : a.tmps[15]?.getD undef = .bool false := by simpa using s15
            rw [if_pos (Flow.wanted_yes 9 true 12 rfl (by kernel_rfl) sg)]
            clear hfr hdep
            go_simp
            exact hK _ _ True.intro hinv (fun d hd => by cases hd; trivial)
          refine Flow.Steps.cons (fun a W hfr hinv hdep K hK => ?_) ?_
          · have sg : a.tmps.getD 12 undef = .bool true := hdep 12 (by kernel_rfl)
            have s16 : a.tmps.getD 16 undef = .bool true := hdep 16 (by kernel_rfl)
            have t16 : a.tmps[16]?.getD undef = .bool true := by simpa using s16
            rw [if_pos (Flow.wanted_yes 9 true 12 rfl (by kernel_rfl) sg)]
            clear hfr hdep
            go_simp
            exact hK _ _ True.intro hinv (fun d hd => by cases hd; trivial)
          refine Flow.Steps.cons (fun a W hfr hinv hdep K hK => ?_) ?_
          · have sg : a.tmps.getD 17 undef = .bool !false := hdep 17 (by kernel_rfl)
            have s1 : a.tmps.getD 1 undef = .pointer (some ⟨w.heap.size, 0, none⟩) := hfr.at 1 (by kernel_rfl)
            have t1 : a.tmps[1]?.getD undef = .pointer (some ⟨w.heap.size, 0, none⟩) := by simpa using s1
            obtain ⟨c0, c1, c2, c3, c4, c5, c6, c7⟩ := (HB.out.below hinv HB.out.lt).c8
            rw [if_neg (Flow.wanted_no 14 false 17 rfl (by kernel_rfl) sg)]
            clear hfr hdep
            exact hK _ _ True.intro hinv (fun d hd => by cases hd; trivial)
          refine Flow.Steps.cons (fun a W hfr hinv hdep K hK => ?_) ?_
          · have sg : a.tmps.getD 17 undef = .bool !false := hdep 17 (by kernel_rfl)
            rw [if_neg (Flow.wanted_no 14 false 17 rfl (by kernel_rfl) sg)]
            clear hfr hdep
            exact hK _ _ True.intro hinv (fun d hd => by cases hd; trivial)
          refine Flow.Steps.cons (fun a W hfr hinv hdep K hK => ?_) ?_
          · have sg : a.tmps.getD 12 undef = .bool true := hdep 12 (by kernel_rfl)
            have s17 : a.tmps.getD 17 undef = .bool true := hdep 17 (by kernel_rfl)
            have t17 : a.tmps[17]?.getD undef = .bool true := by simpa using s17
            rw [if_pos (Flow.wanted_yes 9 true 12 rfl (by kernel_rfl) sg)]
            clear hfr hdep
            go_simp
            exact hK _ _ True.intro hinv (fun d hd => by cases hd; trivial)
          refine Flow.Steps.cons (fun a W hfr hinv hdep K hK => ?_) ?_
          · have s12 : a.tmps.getD 12 undef = .bool true := hdep 12 (by kernel_rfl)
            have t12 : a.tmps[12]?.getD undef = .bool true := by simpa using s12
            have s20 : a.tmps.getD 20 undef = .bool true := hdep 20 (by kernel_rfl)
            have t20 : a.tmps[20]?.getD undef = .bool true := by simpa using s20
            rw [if_pos (Flow.wanted_none rfl)]
            clear hfr hdep
            go_simp
            exact hK _ _ True.intro hinv (fun d hd => by cases hd; trivial)
          refine Flow.Steps.cons (fun a W hfr hinv hdep K hK => ?_) ?_
          · have s21 : a.tmps.getD 21 undef = .bool true := hdep 21 (by kernel_rfl)
            have t21 : a.tmps[21]?.getD undef = .bool true := by simpa using s21
            rw [if_pos (Flow.wanted_none rfl)]
            clear hfr hdep
            go_simp
            exact hK _ _ True.intro hinv (fun d hd => by cases hd; trivial)
          exact True.intro
        case fin =>
          intro a W hfr hfin hsl
          have s2 : a.tmps.getD 2 undef = .bool true := hsl 19 _ 2 rfl rfl
          have t2 : a.tmps[2]?.getD undef = .bool true := by simpa using s2
          have e := Flow.frame hfr [3, 4, 5, 6, 7, 8, 9, 10, 11, 12, 13, 14, 15, 16, 17, 18, 19, 20, 21, 2] (List.range 22) (by kernel_rfl) (by kernel_rfl)
          simp [List.range, List.range.loop] at e
          rw [t2] at e
          rw [e]
          clear e hfr hsl s2 t2
          rename_i K2 hK2
          refine hK2 _ _ ?_
          go_wp2_with fail
          go_ret
          exact ⟨ret_b (by rw [HT.out.2]; rfl), grow1 hfin⟩
      · have HC := Lib.hid hc
        clear hc
        go_enter Try.func57, Try.ntmps57
        go_wp2_with fail
        refine Flow.region (SlM3 k t p x g o pb nb cb pa na ca w.heap.size V F) (Gr (w.alloc (.cells #[.int .i64 k, .int .u64 t, .int .u64 p, .int .u64 x, .int .i64 g, .int .i64 o, .slice pb nb cb, .slice pa na ca] TR))) (fun _ _ => True) (by kernel_rfl) (by kernel_rfl) (fun _ _ _ _ h _ => h) ⟨rfl, rfl, rfl, Nat.le_refl _, fun _ _ => rfl⟩ ?steps ?fin
        case steps =>
          refine Flow.Steps.cons (fun a W hfr hinv hdep K hK => ?_) ?_
          · have s1 : a.tmps.getD 1 undef = .pointer (some ⟨w.heap.size, 0, none⟩) := hfr.at 1 (by kernel_rfl)
            have t1 : a.tmps[1]?.getD undef = .pointer (some ⟨w.heap.size, 0, none⟩) := by simpa using s1
            rw [if_pos (Flow.wanted_none rfl)]
            clear hfr hdep
            go_simp
            exact hK _ _ True.intro hinv (fun d hd => by cases hd; trivial)
          refine Flow.Steps.cons (fun a W hfr hinv hdep K hK => ?_) ?_
          · have s3 : a.tmps.getD 3 undef = .pointer (some ⟨w.heap.size, 1, none⟩) := hdep 3 (by kernel_rfl)
            have t3 : a.tmps[3]?.getD undef = .pointer (some ⟨w.heap.size, 1, none⟩) := by simpa using s3
            obtain ⟨c0, c1, c2, c3, c4, c5, c6, c7⟩ := (HB.out.below hinv HB.out.lt).c8
            rw [if_pos (Flow.wanted_none rfl)]
            clear hfr hdep
            go_simp
            exact hK _ _ True.intro hinv (fun d hd => by cases hd; trivial)
          refine Flow.Steps.cons (fun a W hfr hinv hdep K hK => ?_) ?_
          · have s4 : a.tmps.getD 4 undef = .int .u64 t := hdep 4 (by kernel_rfl)
            have t4 : a.tmps[4]?.getD undef = .int .u64 t := by simpa using s4
            obtain ⟨hq, hq2⟩ := HT.out
            rw [if_pos (Flow.wanted_none rfl)]
            clear hfr hdep
            go_simp
            exact hK _ _ True.intro hinv (fun d hd => by cases hd; trivial)
          refine Flow.Steps.cons (fun a W hfr hinv hdep K hK => ?_) ?_
          · have s5 : a.tmps.getD 5 undef = .bool true := hdep 5 (by kernel_rfl)
            have t5 : a.tmps[5]?.getD undef = .bool true := by simpa using s5
            rw [if_pos (Flow.wanted_none rfl)]
            clear hfr hdep
            go_simp
            exact hK _ _ True.intro hinv (fun d hd => by cases hd; trivial)
          refine Flow.Steps.cons (fun a W hfr hinv hdep K hK => ?_) ?_
          · have sg : a.tmps.getD 6 undef = .bool true := hdep 6 (by kernel_rfl)
            have s1 : a.tmps.getD 1 undef = .pointer (some ⟨w.heap.size, 0, none⟩) := hfr.at 1 (by kernel_rfl)
            have t1 : a.tmps[1]?.getD undef = .pointer (some ⟨w.heap.size, 0, none⟩) := by simpa using s1
            obtain ⟨c0, c1, c2, c3, c4, c5, c6, c7⟩ := (HB.out.below hinv HB.out.lt).c8
            rw [if_pos (Flow.wanted_yes 3 true 6 rfl (by kernel_rfl) sg)]
            clear hfr hdep
            go_simp
            exact hK _ _ True.intro hinv (fun d hd => by cases hd; trivial)
          refine Flow.Steps.cons (fun a W hfr hinv hdep K hK => ?_) ?_
          · have sg : a.tmps.getD 6 undef = .bool true := hdep 6 (by kernel_rfl)
            have s1 : a.tmps.getD 1 undef = .pointer (some ⟨w.heap.size, 0, none⟩) := hfr.at 1 (by kernel_rfl)
            have t1 : a.tmps[1]?.getD undef = .pointer (some ⟨w.heap.size, 0, none⟩) := by simpa using s1
            obtain ⟨c0, c1, c2, c3, c4, c5, c6, c7⟩ := (HB.out.below hinv HB.out.lt).c8
            rw [if_pos (Flow.wanted_yes 3 true 6 rfl (by kernel_rfl) sg)]
            clear hfr hdep
            go_simp
            exact hK _ _ True.intro hinv (fun d hd => by cases hd; trivial)
          refine Flow.Steps.cons (fun a W hfr hinv hdep K hK => ?_) ?_
          · have sg : a.tmps.getD 6 undef = .bool true := hdep 6 (by kernel_rfl)
            have s8 : a.tmps.getD 8 undef = .agg #[.int .i64 k, .int .u64 t, .int .u64 p, .int .u64 x, .int .i64 g, .int .i64 o, .slice pb nb cb, .slice pa na ca] := hdep 8 (by kernel_rfl)
            have t8 : a.tmps[8]?.getD undef = .agg #[.int .i64 k, .int .u64 t, .int .u64 p, .int .u64 x, .int .i64 g, .int .i64 o, .slice pb nb cb, .slice pa na ca] := by simpa using s8
            rw [if_pos (Flow.wanted_yes 3 true 6 rfl (by kernel_rfl) sg)]
            clear hfr hdep
            go_simp
            refine (HN.out W).mono ?_
            rintro e W' ⟨rfl, g1⟩
            exact hK _ _ True.intro (Gr.trans hinv g1) (fun d hd => by cases hd; trivial)
          refine Flow.Steps.cons (fun a W hfr hinv hdep K hK => ?_) ?_
          · have sg : a.tmps.getD 6 undef = .bool true := hdep 6 (by kernel_rfl)
            have s7 : a.tmps.getD 7 undef = .agg #[.int .i64 k, .int .u64 t, .int .u64 p, .int .u64 x, .int .i64 g, .int .i64 o, .slice pb nb cb, .slice pa na ca] := hdep 7 (by kernel_rfl)
            have t7 : a.tmps[7]?.getD undef = .agg #[.int .i64 k, .int .u64 t, .int .u64 p, .int .u64 x, .int .i64 g, .int .i64 o, .slice pb nb cb, .slice pa na ca] := by simpa using s7
            have s9 : a.tmps.getD 9 undef = V := hdep 9 (by kernel_rfl)
            have t9 : a.tmps[9]?.getD undef = V := by simpa using s9
            rw [if_pos (Flow.wanted_yes 3 true 6 rfl (by kernel_rfl) sg)]
            clear hfr hdep
            go_simp
            refine (HS.out W hinv).mono ?_
            rintro e W' ⟨rfl, g1⟩
            exact hK _ _ True.intro (Gr.trans hinv g1) (fun d hd => by cases hd; trivial)
          refine Flow.Steps.cons (fun a W hfr hinv hdep K hK => ?_) ?_
          · have s6 : a.tmps.getD 6 undef = .bool true := hdep 6 (by kernel_rfl)
            have t6 : a.tmps[6]?.getD undef = .bool true := by simpa using s6
            have s10 : a.tmps.getD 10 undef = .bool true := hdep 10 (by kernel_rfl)
            have t10 : a.tmps[10]?.getD undef = .bool true := by simpa using s10
            rw [if_pos (Flow.wanted_none rfl)]
            clear hfr hdep
            go_simp
            exact hK _ _ True.intro hinv (fun d hd => by cases hd; trivial)
          refine Flow.Steps.cons (fun a W hfr hinv hdep K hK => ?_) ?_
          · have s11 : a.tmps.getD 11 undef = .bool true := hdep 11 (by kernel_rfl)
            have t11 : a.tmps[11]?.getD undef = .bool true := by simpa using s11
            rw [if_pos (Flow.wanted_none rfl)]
            clear hfr hdep
            go_simp
            exact hK _ _ True.intro hinv (fun d hd => by cases hd; trivial)
          refine Flow.Steps.cons (fun a W hfr hinv hdep K hK => ?_) ?_
          · have sg : a.tmps.getD 12 undef = .bool true := hdep 12 (by kernel_rfl)
            have s1 : a.tmps.getD 1 undef = .pointer (some ⟨w.heap.size, 0, none⟩) := hfr.at 1 (by kernel_rfl)
            have t1 : a.tmps[1]?.getD undef = .pointer (some ⟨w.heap.size, 0, none⟩) := by simpa using s1
            rw [if_pos (Flow.wanted_yes 9 true 12 rfl (by kernel_rfl) sg)]
            clear hfr hdep
            go_simp
            exact hK _ _ True.intro hinv (fun d hd => by cases hd; trivial)
          refine Flow.Steps.cons (fun a W hfr hinv hdep K hK => ?_) ?_
          · have sg : a.tmps.getD 12 undef = .bool true := hdep 12 (by kernel_rfl)
            have s13 : a.tmps.getD 13 undef = .pointer (some ⟨w.heap.size, 0, none⟩) := hdep 13 (by kernel_rfl)
            have t13 : a.tmps[13]?.getD undef = .pointer (some ⟨w.heap.size, 0, none⟩) := by simpa using s13
            obtain ⟨c0, c1, c2, c3, c4, c5, c6, c7⟩ := (HB.out.below hinv HB.out.lt).c8
            rw [if_pos (Flow.wanted_yes 9 true 12 rfl (by kernel_rfl) sg)]
            clear hfr hdep
            go_simp
            exact hK _ _ True.intro hinv (fun d hd => by cases hd; trivial)
          refine Flow.Steps.cons (fun a W hfr hinv hdep K hK => ?_) ?_
          · have sg : a.tmps.getD 12 undef = .bool true := hdep 12 (by kernel_rfl)
            have s14 : a.tmps.getD 14 undef = .int .i64 k := hdep 14 (by kernel_rfl)
            have t14 : a.tmps[14]?.getD undef = .int .i64 k := by simpa using s14
            rw [if_pos (Flow.wanted_yes 9 true 12 rfl (by kernel_rfl) sg)]
            clear hfr hdep
            go_simp
            refine (changes_any _ W).mono ?_
            rintro e W' ⟨rfl, rfl⟩
            rw [HC.out]
            exact hK _ _ True.intro hinv (fun d hd => by cases hd; trivial)
          refine Flow.Steps.cons (fun a W hfr hinv hdep K hK => ?_) ?_
          · have sg : a.tmps.getD 12 undef = .bool true := hdep 12 (by kernel_rfl)
            have s15 : a.tmps.getD 15 undef = .bool true := hdep 15 (by kernel_rfl)
            have t15 : a.tmps[15]?.getD undef = .bool true := by simpa using s15
            rw [if_pos (Flow.wanted_yes 9 true 12 rfl (by kernel_rfl) sg)]
            clear hfr hdep
            go_simp
            exact hK _ _ True.intro hinv (fun d hd => by cases hd; trivial)
          refine Flow.Steps.cons (fun a W hfr hinv hdep K hK => ?_) ?_
          · have sg : a.tmps.getD 12 undef = .bool true := hdep 12 (by kernel_rfl)
            have s16 : a.tmps.getD 16 undef = .bool false := hdep 16 (by kernel_rfl)
            have t16 : a.tmps[16]?.getD undef = .bool false := by simpa using s16
            rw [if_pos (Flow.wanted_yes 9 true 12 rfl (by kernel_rfl) sg)]
            clear hfr hdep
            go_simp
            exact hK _ _ True.intro hinv (fun d hd => by cases hd; trivial)
          refine Flow.Steps.cons (fun a W hfr hinv hdep K hK => ?_) ?_
          · have sg : a.tmps.getD 17 undef = .bool false := hdep 17 (by kernel_rfl)
            have s1 : a.tmps.getD 1 undef = .pointer (some ⟨w.heap.size, 0, none⟩) := hfr.at 1 (by kernel_rfl)
            have t1 : a.tmps[1]?.getD undef = .pointer (some ⟨w.heap.size, 0, none⟩) := by simpa using s1
            obtain ⟨c0, c1, c2, c3, c4, c5, c6, c7⟩ := (HB.out.below hinv HB.out.lt).c8
            rw [if_pos (Flow.wanted_yes 14 false 17 rfl (by kernel_rfl) sg)]
            clear hfr hdep
            go_simp
            exact hK _ _ True.intro hinv (fun d hd => by cases hd; trivial)
          refine Flow.Steps.cons (fun a W hfr hinv hdep K hK => ?_) ?_
          · have sg : a.tmps.getD 17 undef = .bool false := hdep 17 (by kernel_rfl)
            have s18 : a.tmps.getD 18 undef = .agg #[.int .i64 k, .int .u64 t, .int .u64 p, .int .u64 x, .int .i64 g, .int .i64 o, .slice pb nb cb, .slice pa na ca] := hdep 18 (by kernel_rfl)
            have t18 : a.tmps[18]?.getD undef = .agg #[.int .i64 k, .int .u64 t, .int .u64 p, .int .u64 x, .int .i64 g, .int .i64 o, .slice pb nb cb, .slice pa na ca] := by simpa using s18
            rw [if_pos (Flow.wanted_yes 14 false 17 rfl (by kernel_rfl) sg)]
            clear hfr hdep
            go_simp
            refine (HF.out W).mono ?_
            rintro e W' ⟨rfl, g1⟩
            exact hK _ _ True.intro (Gr.trans hinv g1) (fun d hd => by cases hd; trivial)
          refine Flow.Steps.cons (fun a W hfr hinv hdep K hK => ?_) ?_
          · have sg : a.tmps.getD 12 undef = .bool true := hdep 12 (by kernel_rfl)
            have s17 : a.tmps.getD 17 undef = .bool false := hdep 17 (by kernel_rfl)
            have t17 : a.tmps[17]?.getD undef = .bool false := by simpa using s17
            have s19 : a.tmps.getD 19 undef = .bool F := hdep 19 (by kernel_rfl)
            have t19 : a.tmps[19]?.getD undef = .bool F := by simpa using s19
            rw [if_pos (Flow.wanted_yes 9 true 12 rfl (by kernel_rfl) sg)]
            clear hfr hdep
            go_simp
            exact hK _ _ True.intro hinv (fun d hd => by cases hd; trivial)
          refine Flow.Steps.cons (fun a W hfr hinv hdep K hK => ?_) ?_
          · have s12 : a.tmps.getD 12 undef = .bool true := hdep 12 (by kernel_rfl)
            have t12 : a.tmps[12]?.getD undef = .bool true := by simpa using s12
            have s20 : a.tmps.getD 20 undef = .bool F := hdep 20 (by kernel_rfl)
            have t20 : a.tmps[20]?.getD undef = .bool F := by simpa using s20
            rw [if_pos (Flow.wanted_none rfl)]
            clear hfr hdep
            go_simp
            exact hK _ _ True.intro hinv (fun d hd => by cases hd; trivial)
          refine Flow.Steps.cons (fun a W hfr hinv hdep K hK => ?_) ?_
          · have s21 : a.tmps.getD 21 undef = .bool F := hdep 21 (by kernel_rfl)
            have t21 : a.tmps[21]?.getD undef = .bool F := by simpa using s21
            rw [if_pos (Flow.wanted_none rfl)]
            clear hfr hdep
            go_simp
            exact hK _ _ True.intro hinv (fun d hd => by cases hd; trivial)
          exact True.intro
        case fin =>
          intro a W hfr hfin hsl
          have s2 : a.tmps.getD 2 undef = .bool F := hsl 19 _ 2 rfl rfl
          have t2 : a.tmps[2]?.getD undef = .bool F := by simpa using s2
          have e := Flow.frame hfr [3, 4, 5, 6, 7, 8, 9, 10, 11, 12, 13, 14, 15, 16, 17, 18, 19, 20, 21, 2] (List.range 22) (by kernel_rfl) (by kernel_rfl)
          simp [List.range, List.range.loop] at e
          rw [t2] at e
          rw [e]
          clear e hfr hsl s2 t2
          rename_i K2 hK2
          refine hK2 _ _ ?_
          go_wp2_with fail
          go_ret
          exact ⟨ret_b (by rw [HT.out.2]; rfl), grow1 hfin⟩

end Go.Proofs.Ytchfhgeipmfegaa
