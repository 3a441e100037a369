
/-
  Where a sector is a block: the program's closure.
-/
import Derived.Test.YtanajjfcnedaiaaPlaces
import Derived.Test.YtanajjfcnedaiaaFlowBy
namespace Go.Proofs.Ytanajjfcnedaiaa
open Go.RowKit

def SlB1 (n : Int) (l : Int) (g : Int) (i : Int) (_ : Nat) (slot : Nat) (v : Value) (_ : World) : Prop :=
  match slot with
  | 8 => v = .int .i64 i
  | 9 => v = .agg #[.int .i64 n, .int .i64 l, .int .i64 g]
  | 10 => v = .int .i64 (3 + l)
  | 11 | 12 | 22 => v = .bool true
  | _ => True

def SlB2 (n : Int) (l : Int) (g : Int) (i : Int) (d : Nat) (slot : Nat) (v : Value) (_ : World) : Prop :=
  match slot with
  | 8 | 13 => v = .int .i64 i
  | 9 | 14 => v = .agg #[.int .i64 n, .int .i64 l, .int .i64 g]
  | 10 => v = .int .i64 (3 + l)
  | 11 | 12 => v = .bool false
  | 22 | 21 => v = .bool (decide (min (3 + l + g * 64) n ≤ i))
  | 15 => v = .pointer (some ⟨d, 2, none⟩)
  | 16 => v = .int .i64 g
  | 17 => v = .int .i64 (3 + l + g * 64)
  | 18 => v = .pointer (some ⟨d, 0, none⟩)
  | 19 => v = .int .i64 n
  | 20 => v = .int .i64 (min (3 + l + g * 64) n)
  | _ => True

/-- The sector i is a block. -/
def blkB (n l g i : Int) : Bool := decide (3 + l ≤ i ∧ i < 3 + l + g * 64 ∧ i < n ∧ 5 ≤ (i - (3 + l)) % 64)

set_option maxRecDepth 100000 in
set_option maxHeartbeats 1000000 in
theorem block1_any (n l g i : Int) (d : Nat) (w : World) (hb : Blk w d TY #[.int .i64 n, .int .i64 l, .int .i64 g]) (hm : mayL n l g = true) :
    Calls Try.prog 40 #[.int .i64 i, .pointer (some ⟨d, 0, none⟩)] w (RetT ((i - (3 + l)) / 64) ((i - (3 + l)) % 64) (blkB n l g i) w) := by
  have HB := Lib.hid hb
  obtain ⟨⟨c0, c1, c2⟩, f0, f1, f2⟩ := hb.c3
  have HI := Lib.hid (may_in hm)
  have hi := may_in hm
  have HS0 : Hid (∀ W, Calls Try.prog 36 #[.agg #[.int .i64 n, .int .i64 l, .int .i64 g], .int .i64 0] W (RetI (3 + l) W)) := Lib.hid fun W => by
    have h := start_any n l g 0 W
    rw [startW_in (by omega) (by omega) (by omega) (by omega), Int.zero_mul, Int.add_zero] at h
    exact h
  have HS1 : Hid (∀ W, Calls Try.prog 36 #[.agg #[.int .i64 n, .int .i64 l, .int .i64 g], .int .i64 g] W (RetI (3 + l + g * 64) W)) := Lib.hid fun W => by
    have h := start_any n l g g W
    rw [startW_in (by omega) (by omega) (by omega) (by omega)] at h
    exact h
  clear hb hm hi
  by_cases hlo : i < 3 + l
  · have HR : Hid (blkB n l g i = false) := Lib.hid (decide_eq_false (by omega))
    rw [HR.out]
    go_enter Try.func40, Try.ntmps40
    go_wp2_with fail
    refine Flow.region (SlB1 n l g i d) (Gr w) (fun _ _ => True) (by kernel_rfl) (by kernel_rfl) (fun _ _ _ _ h _ => h) ⟨rfl, rfl, rfl, Nat.le_refl _, fun _ _ => rfl⟩ ?steps ?fin
    case steps =>
      refine Flow.Steps.cons (fun a W hfr hinv hdep K hK => ?_) ?_
      · have s0 : a.tmps.getD 0 undef = .int .i64 i := hfr.at 0 (by kernel_rfl)
        have t0 : a.tmps[0]?.getD undef = .int .i64 i := by simpa using s0
        rw [if_pos (Flow.wanted_none rfl)]
        clear hfr hdep
        go_simp
        exact hK _ _ True.intro hinv (fun d hd => by cases hd; trivial)
      refine Flow.Steps.cons (fun a W hfr hinv hdep K hK => ?_) ?_
      · have s1 : a.tmps.getD 1 undef = .pointer (some ⟨d, 0, none⟩) := hfr.at 1 (by kernel_rfl)
        have t1 : a.tmps[1]?.getD undef = .pointer (some ⟨d, 0, none⟩) := by simpa using s1
        obtain ⟨⟨c0, c1, c2⟩, _⟩ := (HB.out.below hinv HB.out.lt).c3
        rw [if_pos (Flow.wanted_none rfl)]
        clear hfr hdep
        go_simp
        exact hK _ _ True.intro hinv (fun d hd => by cases hd; trivial)
      refine Flow.Steps.cons (fun a W hfr hinv hdep K hK => ?_) ?_
      · have s9 : a.tmps.getD 9 undef = .agg #[.int .i64 n, .int .i64 l, .int .i64 g] := hdep 9 (by kernel_rfl)
        have t9 : a.tmps[9]?.getD undef = .agg #[.int .i64 n, .int .i64 l, .int .i64 g] := by simpa using s9
        rw [if_pos (Flow.wanted_none rfl)]
        clear hfr hdep
        go_simp
        refine (HS0.out W).mono ?_
        rintro e W' ⟨rfl, g1⟩
        exact hK _ _ True.intro (Gr.trans hinv g1) (fun d hd => by cases hd; trivial)
      refine Flow.Steps.cons (fun a W hfr hinv hdep K hK => ?_) ?_
      · have s8 : a.tmps.getD 8 undef = .int .i64 i := hdep 8 (by kernel_rfl)
        have t8 : a.tmps[8]?.getD undef = .int .i64 i := by simpa using s8
        have s10 : a.tmps.getD 10 undef = .int .i64 (3 + l) := hdep 10 (by kernel_rfl)
        have t10 : a.tmps[10]?.getD undef = .int .i64 (3 + l) := by simpa using s10
        rw [if_pos (Flow.wanted_none rfl)]
        clear hfr hdep
        go_simp
        exact hK _ _ True.intro hinv (fun d hd => by cases hd; trivial)
      refine Flow.Steps.cons (fun a W hfr hinv hdep K hK => ?_) ?_
      · have s11 : a.tmps.getD 11 undef = .bool true := hdep 11 (by kernel_rfl)
        have t11 : a.tmps[11]?.getD undef = .bool true := by simpa using s11
        rw [if_pos (Flow.wanted_none rfl)]
        clear hfr hdep
        go_simp
        exact hK _ _ True.intro hinv (fun d hd => by cases hd; trivial)
      refine Flow.Steps.cons (fun a W hfr hinv hdep K hK => ?_) ?_
      · have sg : a.tmps.getD 12 undef = .bool !false := hdep 12 (by kernel_rfl)
        have s0 : a.tmps.getD 0 undef = .int .i64 i := hfr.at 0 (by kernel_rfl)
        have t0 : a.tmps[0]?.getD undef = .int .i64 i := by simpa using s0
        rw [if_neg (Flow.wanted_no 4 false 12 rfl (by kernel_rfl) sg)]
        clear hfr hdep
        exact hK _ _ True.intro hinv (fun d hd => by cases hd; trivial)
      refine Flow.Steps.cons (fun a W hfr hinv hdep K hK => ?_) ?_
      · have sg : a.tmps.getD 12 undef = .bool !false := hdep 12 (by kernel_rfl)
        have s1 : a.tmps.getD 1 undef = .pointer (some ⟨d, 0, none⟩) := hfr.at 1 (by kernel_rfl)
        have t1 : a.tmps[1]?.getD undef = .pointer (some ⟨d, 0, none⟩) := by simpa using s1
        obtain ⟨⟨c0, c1, c2⟩, _⟩ := (HB.out.below hinv HB.out.lt).c3
        rw [if_neg (Flow.wanted_no 4 false 12 rfl (by kernel_rfl) sg)]
        clear hfr hdep
        exact hK _ _ True.intro hinv (fun d hd => by cases hd; trivial)
      refine Flow.Steps.cons (fun a W hfr hinv hdep K hK => ?_) ?_
      · have sg : a.tmps.getD 12 undef = .bool !false := hdep 12 (by kernel_rfl)
        have s1 : a.tmps.getD 1 undef = .pointer (some ⟨d, 0, none⟩) := hfr.at 1 (by kernel_rfl)
        have t1 : a.tmps[1]?.getD undef = .pointer (some ⟨d, 0, none⟩) := by simpa using s1
        rw [if_neg (Flow.wanted_no 4 false 12 rfl (by kernel_rfl) sg)]
        clear hfr hdep
        exact hK _ _ True.intro hinv (fun d hd => by cases hd; trivial)
      refine Flow.Steps.cons (fun a W hfr hinv hdep K hK => ?_) ?_
      · have sg : a.tmps.getD 12 undef = .bool !false := hdep 12 (by kernel_rfl)
        obtain ⟨⟨c0, c1, c2⟩, _⟩ := (HB.out.below hinv HB.out.lt).c3
        rw [if_neg (Flow.wanted_no 4 false 12 rfl (by kernel_rfl) sg)]
        clear hfr hdep
        exact hK _ _ True.intro hinv (fun d hd => by cases hd; trivial)
      refine Flow.Steps.cons (fun a W hfr hinv hdep K hK => ?_) ?_
      · have sg : a.tmps.getD 12 undef = .bool !false := hdep 12 (by kernel_rfl)
        rw [if_neg (Flow.wanted_no 4 false 12 rfl (by kernel_rfl) sg)]
        clear hfr hdep
        exact hK _ _ True.intro hinv (fun d hd => by cases hd; trivial)
      refine Flow.Steps.cons (fun a W hfr hinv hdep K hK => ?_) ?_
      · have sg : a.tmps.getD 12 undef = .bool !false := hdep 12 (by kernel_rfl)
        have s1 : a.tmps.getD 1 undef = .pointer (some ⟨d, 0, none⟩) := hfr.at 1 (by kernel_rfl)
        have t1 : a.tmps[1]?.getD undef = .pointer (some ⟨d, 0, none⟩) := by simpa using s1
        rw [if_neg (Flow.wanted_no 4 false 12 rfl (by kernel_rfl) sg)]
        clear hfr hdep
        exact hK _ _ True.intro hinv (fun d hd => by cases hd; trivial)
      refine Flow.Steps.cons (fun a W hfr hinv hdep K hK => ?_) ?_
      · have sg : a.tmps.getD 12 undef = .bool !false := hdep 12 (by kernel_rfl)
        obtain ⟨⟨c0, c1, c2⟩, _⟩ := (HB.out.below hinv HB.out.lt).c3
        rw [if_neg (Flow.wanted_no 4 false 12 rfl (by kernel_rfl) sg)]
        clear hfr hdep
        exact hK _ _ True.intro hinv (fun d hd => by cases hd; trivial)
      refine Flow.Steps.cons (fun a W hfr hinv hdep K hK => ?_) ?_
      · have sg : a.tmps.getD 12 undef = .bool !false := hdep 12 (by kernel_rfl)
        rw [if_neg (Flow.wanted_no 4 false 12 rfl (by kernel_rfl) sg)]
        clear hfr hdep
        exact hK _ _ True.intro hinv (fun d hd => by cases hd; trivial)
      refine Flow.Steps.cons (fun a W hfr hinv hdep K hK => ?_) ?_
      · have sg : a.tmps.getD 12 undef = .bool !false := hdep 12 (by kernel_rfl)
        rw [if_neg (Flow.wanted_no 4 false 12 rfl (by kernel_rfl) sg)]
        clear hfr hdep
        exact hK _ _ True.intro hinv (fun d hd => by cases hd; trivial)
      refine Flow.Steps.cons (fun a W hfr hinv hdep K hK => ?_) ?_
      · have s12 : a.tmps.getD 12 undef = .bool true := hdep 12 (by kernel_rfl)
        have t12 : a.tmps[12]?.getD undef = .bool true := by simpa using s12
        rw [if_pos (Flow.wanted_none rfl)]
        clear hfr hdep
        go_simp
        exact hK _ _ True.intro hinv (fun d hd => by cases hd; trivial)
      exact True.intro
    case fin =>
      intro a W hfr hfin hsl
      have s22 : a.tmps.getD 22 undef = .bool true := hsl 14 _ 22 rfl rfl
      have t22 : a.tmps[22]?.getD undef = .bool true := by simpa using s22
      have e := Flow.frame hfr [8, 9, 10, 11, 12, 13, 14, 15, 16, 17, 18, 19, 20, 21, 22] (List.range 34) (by kernel_rfl) (by kernel_rfl)
      simp [List.range, List.range.loop] at e
      rw [t22] at e
      rw [e]
      clear e hfr hsl s22 t22
      rename_i K2 hK2
      refine hK2 _ _ ?_
      go_wp2_with fail
      go_returns
      exact ⟨_, _, rfl, fun h => (by cases h), hfin⟩
  · have HQ : Hid (decide (i < 3 + l) = false) := Lib.hid (decide_eq_false hlo)
    go_enter Try.func40, Try.ntmps40
    go_wp2_with fail
    refine Flow.region (SlB2 n l g i d) (Gr w) (fun _ _ => True) (by kernel_rfl) (by kernel_rfl) (fun _ _ _ _ h _ => h) ⟨rfl, rfl, rfl, Nat.le_refl _, fun _ _ => rfl⟩ ?steps ?fin
    case steps =>
      refine Flow.Steps.cons (fun a W hfr hinv hdep K hK => ?_) ?_
      · have s0 : a.tmps.getD 0 undef = .int .i64 i := hfr.at 0 (by kernel_rfl)
        have t0 : a.tmps[0]?.getD undef = .int .i64 i := by simpa using s0
        rw [if_pos (Flow.wanted_none rfl)]
        clear hfr hdep
        go_simp
        exact hK _ _ True.intro hinv (fun d hd => by cases hd; trivial)
      refine Flow.Steps.cons (fun a W hfr hinv hdep K hK => ?_) ?_
      · have s1 : a.tmps.getD 1 undef = .pointer (some ⟨d, 0, none⟩) := hfr.at 1 (by kernel_rfl)
        have t1 : a.tmps[1]?.getD undef = .pointer (some ⟨d, 0, none⟩) := by simpa using s1
        obtain ⟨⟨c0, c1, c2⟩, _⟩ := (HB.out.below hinv HB.out.lt).c3
        rw [if_pos (Flow.wanted_none rfl)]
        clear hfr hdep
        go_simp
        exact hK _ _ True.intro hinv (fun d hd => by cases hd; trivial)
      refine Flow.Steps.cons (fun a W hfr hinv hdep K hK => ?_) ?_
      · have s9 : a.tmps.getD 9 undef = .agg #[.int .i64 n, .int .i64 l, .int .i64 g] := hdep 9 (by kernel_rfl)
        have t9 : a.tmps[9]?.getD undef = .agg #[.int .i64 n, .int .i64 l, .int .i64 g] := by simpa using s9
        rw [if_pos (Flow.wanted_none rfl)]
        clear hfr hdep
        go_simp
        refine (HS0.out W).mono ?_
        rintro e W' ⟨rfl, g1⟩
        exact hK _ _ True.intro (Gr.trans hinv g1) (fun d hd => by cases hd; trivial)
      refine Flow.Steps.cons (fun a W hfr hinv hdep K hK => ?_) ?_
      · have s8 : a.tmps.getD 8 undef = .int .i64 i := hdep 8 (by kernel_rfl)
        have t8 : a.tmps[8]?.getD undef = .int .i64 i := by simpa using s8
        have s10 : a.tmps.getD 10 undef = .int .i64 (3 + l) := hdep 10 (by kernel_rfl)
        have t10 : a.tmps[10]?.getD undef = .int .i64 (3 + l) := by simpa using s10
        rw [if_pos (Flow.wanted_none rfl)]
        clear hfr hdep
        go_simp
        rw [HQ.out]
        exact hK _ _ True.intro hinv (fun d hd => by cases hd; trivial)
      refine Flow.Steps.cons (fun a W hfr hinv hdep K hK => ?_) ?_
      · have s11 : a.tmps.getD 11 undef = .bool false := hdep 11 (by kernel_rfl)
        have t11 : a.tmps[11]?.getD undef = .bool false := by simpa using s11
        rw [if_pos (Flow.wanted_none rfl)]
        clear hfr hdep
        go_simp
        exact hK _ _ True.intro hinv (fun d hd => by cases hd; trivial)
      refine Flow.Steps.cons (fun a W hfr hinv hdep K hK => ?_) ?_
      · have sg : a.tmps.getD 12 undef = .bool false := hdep 12 (by kernel_rfl)
        have s0 : a.tmps.getD 0 undef = .int .i64 i := hfr.at 0 (by kernel_rfl)
        have t0 : a.tmps[0]?.getD undef = .int .i64 i := by simpa using s0
        rw [if_pos (Flow.wanted_yes 4 false 12 rfl (by kernel_rfl) sg)]
        clear hfr hdep
        go_simp
        exact hK _ _ True.intro hinv (fun d hd => by cases hd; trivial)
      refine Flow.Steps.cons (fun a W hfr hinv hdep K hK => ?_) ?_
      · have sg : a.tmps.getD 12 undef = .bool false := hdep 12 (by kernel_rfl)
        have s1 : a.tmps.getD 1 undef = .pointer (some ⟨d, 0, none⟩) := hfr.at 1 (by kernel_rfl)
        have t1 : a.tmps[1]?.getD undef = .pointer (some ⟨d, 0, none⟩) := by simpa using s1
        obtain ⟨⟨c0, c1, c2⟩, _⟩ := (HB.out.below hinv HB.out.lt).c3
        rw [if_pos (Flow.wanted_yes 4 false 12 rfl (by kernel_rfl) sg)]
        clear hfr hdep
        go_simp
        exact hK _ _ True.intro hinv (fun d hd => by cases hd; trivial)
      refine Flow.Steps.cons (fun a W hfr hinv hdep K hK => ?_) ?_
      · have sg : a.tmps.getD 12 undef = .bool false := hdep 12 (by kernel_rfl)
        have s1 : a.tmps.getD 1 undef = .pointer (some ⟨d, 0, none⟩) := hfr.at 1 (by kernel_rfl)
        have t1 : a.tmps[1]?.getD undef = .pointer (some ⟨d, 0, none⟩) := by simpa using s1
        rw [if_pos (Flow.wanted_yes 4 false 12 rfl (by kernel_rfl) sg)]
        clear hfr hdep
        go_simp
        exact hK _ _ True.intro hinv (fun d hd => by cases hd; trivial)
      refine Flow.Steps.cons (fun a W hfr hinv hdep K hK => ?_) ?_
      · have sg : a.tmps.getD 12 undef = .bool false := hdep 12 (by kernel_rfl)
        have s15 : a.tmps.getD 15 undef = .pointer (some ⟨d, 2, none⟩) := hdep 15 (by kernel_rfl)
        have t15 : a.tmps[15]?.getD undef = .pointer (some ⟨d, 2, none⟩) := by simpa using s15
        obtain ⟨⟨c0, c1, c2⟩, _⟩ := (HB.out.below hinv HB.out.lt).c3
        rw [if_pos (Flow.wanted_yes 4 false 12 rfl (by kernel_rfl) sg)]
        clear hfr hdep
        go_simp
        exact hK _ _ True.intro hinv (fun d hd => by cases hd; trivial)
      refine Flow.Steps.cons (fun a W hfr hinv hdep K hK => ?_) ?_
      · have sg : a.tmps.getD 12 undef = .bool false := hdep 12 (by kernel_rfl)
        have s14 : a.tmps.getD 14 undef = .agg #[.int .i64 n, .int .i64 l, .int .i64 g] := hdep 14 (by kernel_rfl)
        have t14 : a.tmps[14]?.getD undef = .agg #[.int .i64 n, .int .i64 l, .int .i64 g] := by simpa using s14
        have s16 : a.tmps.getD 16 undef = .int .i64 g := hdep 16 (by kernel_rfl)
        have t16 : a.tmps[16]?.getD undef = .int .i64 g := by simpa using s16
        rw [if_pos (Flow.wanted_yes 4 false 12 rfl (by kernel_rfl) sg)]
        clear hfr hdep
        go_simp
        refine (HS1.out W).mono ?_
        rintro e W' ⟨rfl, g1⟩
        exact hK _ _ True.intro (Gr.trans hinv g1) (fun d hd => by cases hd; trivial)
      refine Flow.Steps.cons (fun a W hfr hinv hdep K hK => ?_) ?_
      · have sg : a.tmps.getD 12 undef = .bool false := hdep 12 (by kernel_rfl)
        have s1 : a.tmps.getD 1 undef = .pointer (some ⟨d, 0, none⟩) := hfr.at 1 (by kernel_rfl)
        have t1 : a.tmps[1]?.getD undef = .pointer (some ⟨d, 0, none⟩) := by simpa using s1
        rw [if_pos (Flow.wanted_yes 4 false 12 rfl (by kernel_rfl) sg)]
        clear hfr hdep
        go_simp
        exact hK _ _ True.intro hinv (fun d hd => by cases hd; trivial)
      refine Flow.Steps.cons (fun a W hfr hinv hdep K hK => ?_) ?_
      · have sg : a.tmps.getD 12 undef = .bool false := hdep 12 (by kernel_rfl)
        have s18 : a.tmps.getD 18 undef = .pointer (some ⟨d, 0, none⟩) := hdep 18 (by kernel_rfl)
        have t18 : a.tmps[18]?.getD undef = .pointer (some ⟨d, 0, none⟩) := by simpa using s18
        obtain ⟨⟨c0, c1, c2⟩, _⟩ := (HB.out.below hinv HB.out.lt).c3
        rw [if_pos (Flow.wanted_yes 4 false 12 rfl (by kernel_rfl) sg)]
        clear hfr hdep
        go_simp
        exact hK _ _ True.intro hinv (fun d hd => by cases hd; trivial)
      refine Flow.Steps.cons (fun a W hfr hinv hdep K hK => ?_) ?_
      · have sg : a.tmps.getD 12 undef = .bool false := hdep 12 (by kernel_rfl)
        have s17 : a.tmps.getD 17 undef = .int .i64 (3 + l + g * 64) := hdep 17 (by kernel_rfl)
        have t17 : a.tmps[17]?.getD undef = .int .i64 (3 + l + g * 64) := by simpa using s17
        have s19 : a.tmps.getD 19 undef = .int .i64 n := hdep 19 (by kernel_rfl)
        have t19 : a.tmps[19]?.getD undef = .int .i64 n := by simpa using s19
        rw [if_pos (Flow.wanted_yes 4 false 12 rfl (by kernel_rfl) sg)]
        clear hfr hdep
        go_simp
        exact hK _ _ True.intro hinv (fun d hd => by cases hd; trivial)
      refine Flow.Steps.cons (fun a W hfr hinv hdep K hK => ?_) ?_
      · have sg : a.tmps.getD 12 undef = .bool false := hdep 12 (by kernel_rfl)
        have s13 : a.tmps.getD 13 undef = .int .i64 i := hdep 13 (by kernel_rfl)
        have t13 : a.tmps[13]?.getD undef = .int .i64 i := by simpa using s13
        have s20 : a.tmps.getD 20 undef = .int .i64 (min (3 + l + g * 64) n) := hdep 20 (by kernel_rfl)
        have t20 : a.tmps[20]?.getD undef = .int .i64 (min (3 + l + g * 64) n) := by simpa using s20
        rw [if_pos (Flow.wanted_yes 4 false 12 rfl (by kernel_rfl) sg)]
        clear hfr hdep
        go_simp
        exact hK _ _ True.intro hinv (fun d hd => by cases hd; trivial)
      refine Flow.Steps.cons (fun a W hfr hinv hdep K hK => ?_) ?_
      · have s12 : a.tmps.getD 12 undef = .bool false := hdep 12 (by kernel_rfl)
        have t12 : a.tmps[12]?.getD undef = .bool false := by simpa using s12
        have s21 : a.tmps.getD 21 undef = .bool (decide (min (3 + l + g * 64) n ≤ i)) := hdep 21 (by kernel_rfl)
        have t21 : a.tmps[21]?.getD undef = .bool (decide (min (3 + l + g * 64) n ≤ i)) := by simpa using s21
        rw [if_pos (Flow.wanted_none rfl)]
        clear hfr hdep
        go_simp
        exact hK _ _ True.intro hinv (fun d hd => by cases hd; trivial)
      exact True.intro
    case fin =>
      intro a W hfr hfin hsl
      have s22 : a.tmps.getD 22 undef = .bool (decide (min (3 + l + g * 64) n ≤ i)) := hsl 14 _ 22 rfl rfl
      have t22 : a.tmps[22]?.getD undef = .bool (decide (min (3 + l + g * 64) n ≤ i)) := by simpa using s22
      have e := Flow.frame hfr [8, 9, 10, 11, 12, 13, 14, 15, 16, 17, 18, 19, 20, 21, 22] (List.range 34) (by kernel_rfl) (by kernel_rfl)
      simp [List.range, List.range.loop] at e
      rw [t22] at e
      rw [e]
      clear e hfr hsl s22 t22
      rename_i K2 hK2
      refine hK2 _ _ ?_
      have HF := Lib.hid hfin
      obtain ⟨⟨c0, c1, c2⟩, _⟩ := (HB.out.below hfin HB.out.lt).c3
      clear hfin
      by_cases hhi : min (3 + l + g * 64) n ≤ i
      · have HR : Hid (blkB n l g i = false) := Lib.hid (decide_eq_false (by omega))
        rw [HR.out]
        go_wp2_with fail
        go_returns
        exact ⟨_, _, rfl, fun h => (by cases h), HF.out⟩
      · have hR : blkB n l g i = decide (5 ≤ (i - (3 + l)) % 64) := by unfold blkB; have := HI.out; rw [decide_eq_decide]; omega
        have HR := Lib.hid hR
        go_wp2_with fail
        refine (HS0.out _).mono ?_
        rintro e w1 ⟨rfl, g1⟩
        have HG := Lib.hid (Gr.trans HF.out g1)
        have HI2 := HI.out
        clear g1 hR
        have q0 : 0 ≤ i - (3 + l) := by omega
        have q1 : i - (3 + l) ≤ 5000 := by omega
        go_wp2_with fail
        go_returns
        exact ⟨(i - (3 + l)) / 64, (i - (3 + l)) % 64, by rw [HR.out]; rfl, fun _ => ⟨rfl, rfl⟩, HG.out⟩

set_option maxRecDepth 100000 in
theorem inode1_any (n l g i : Int) (d : Nat) (w : World) (hb : Blk w d TY #[.int .i64 n, .int .i64 l, .int .i64 g]) (hm : mayL n l g = true) (hbig : i ≤ 9223372036854775807) :
    Calls Try.prog 39 #[.int .i64 i, .pointer (some ⟨d, 0, none⟩)] w (RetT (3 + l + (i - 1) / 16 * 64 + 1 + (i - 1) % 16 / 4) ((i - 1) % 4 * 62) (decide (1 ≤ i) && decide (i ≤ g * 16)) w) := by
  have HB := Lib.hid hb
  obtain ⟨⟨c0, c1, c2⟩, f0, f1, f2⟩ := hb.c3
  have HI := Lib.hid (may_in hm)
  have hi := may_in hm
  have HN := Lib.hid (inodes_any n l g)
  rw [show only (mayL n l g) (g * 16) = g * 16 by rw [hm]; rfl] at HN
  have HS := Lib.hid (fun k h0 h1 => startW_in (l := l) (g := k) (by omega) (by omega) h0 h1)
  clear hb hm hi
  by_cases h0 : 1 ≤ i
  · have HJ : Hid ((decide (1 ≤ i) && decide (i ≤ g * 16)) = decide (i ≤ g * 16)) := Lib.hid (by rw [decide_eq_true h0]; rfl)
    go_enter Try.func39, Try.ntmps39
    go_wp2_with fail
    refine (start_any _ _ _ _ _).mono ?_
    rintro e w1 ⟨rfl, g1⟩
    obtain ⟨⟨c0, c1, c2⟩, _⟩ := (HB.out.below g1 HB.out.lt).c3
    have G1 := Lib.hid g1
    clear g1
    obtain ⟨s, hs⟩ : ∃ s, s = startW l ((i - 1) / 16) := ⟨_, rfl⟩
    have HS2 : Hid (i ≤ g * 16 → s = 3 + l + (i - 1) / 16 * 64) := Lib.hid fun h => by have := HI.out; rw [hs]; exact HS.out _ (by omega) (by omega)
    rw [← hs]
    clear hs
    go_wp2_with fail
    refine (HN.out _).mono ?_
    rintro e w2 ⟨rfl, g2⟩
    have G2 := Lib.hid (Gr.trans G1.out g2)
    clear g2 G1
    go_wp2_with fail
    go_returns
    rw [HJ.out]
    refine ⟨_, _, rfl, fun h => ?_, G2.out⟩
    have h1 : i ≤ g * 16 := by simpa using h
    have h2 := HI.out
    have h3 := HS2.out h1
    subst h3
    exact ⟨by unfold wrap64; omega, by omega⟩
  · have HJ : Hid ((decide (1 ≤ i) && decide (i ≤ g * 16)) = false) := Lib.hid (by rw [decide_eq_false h0]; rfl)
    rw [HJ.out]
    go_enter Try.func39, Try.ntmps39
    go_wp2_with fail
    refine (start_any _ _ _ _ _).mono ?_
    rintro e w1 ⟨rfl, g1⟩
    obtain ⟨⟨c0, c1, c2⟩, _⟩ := (HB.out.below g1 HB.out.lt).c3
    have G1 := Lib.hid g1
    clear g1
    go_wp2_with fail
    go_returns
    exact ⟨_, _, rfl, fun h => (by cases h), G1.out⟩

theorem asking_mk (n l g : Int) (F d : Nat) (w : World) :
    Calls Try.prog 37 #[.agg #[.int .i64 n, .int .i64 l, .int .i64 g], .func (.func F) #[] #[.pointer (some ⟨d, 0, none⟩)]] w fun e w' => e = .returned (.func (.func 47) #[] #[.pointer (some ⟨w.heap.size, 0, none⟩), .pointer (some ⟨w.heap.size + 1, 0, none⟩)]) ∧ Blk w' w.heap.size TY #[.int .i64 n, .int .i64 l, .int .i64 g] ∧ Blk w' (w.heap.size + 1) TF #[.func (.func F) #[] #[.pointer (some ⟨d, 0, none⟩)]] ∧ Gr w w' := by
  have HG := Lib.hid (((Gr.refl w).alloc (Nat.le_refl _) (.cells #[.int .i64 n, .int .i64 l, .int .i64 g] TY)).alloc (by simp) (.cells #[.func (.func F) #[] #[.pointer (some ⟨d, 0, none⟩)]] TF))
  have HB := Lib.hid ((Blk.new w TY #[.int .i64 n, .int .i64 l, .int .i64 g]).alloc (.cells #[.func (.func F) #[] #[.pointer (some ⟨d, 0, none⟩)]] TF))
  have HC := Lib.hid (Blk.new (w.alloc (.cells #[.int .i64 n, .int .i64 l, .int .i64 g] TY)) TF #[.func (.func F) #[] #[.pointer (some ⟨d, 0, none⟩)]])
  go_enter Try.func37, Try.ntmps37
  go_wp2_with fail
  go_ret
  exact ⟨rfl, HB.out, by simpa using HC.out, HG.out⟩

end Go.Proofs.Ytanajjfcnedaiaa
