
import Derived.Test.YtanajjfcnedaiaaKnown4
import Derived.Test.YtanajjfcnedaiaaFlowBy
namespace Go.Proofs.Ytanajjfcnedaiaa
open Go.RowKit

def SlM1 (n : Int) (l : Int) (g : Int) (m0 : Int) (m1 : Int) (m2 : Int) (M : Bool) (slot : Nat) (v : Value) (_ : World) : Prop :=
  match slot with
  | 19 | 20 | 45 => v = .agg #[.int .i64 m0, .int .i64 m1, .int .i64 m2]
  | 38 | 40 => v = .agg #[.int .i64 n, .int .i64 l, .int .i64 g]
  | 39 | 41 => v = .bool M
  | 46 | 47 | 26 | 30 | 31 | 25 => v = .bool false
  | 23 | 24 | 32 | 33 => v = .int .i64 2
  | 21 | 22 | 27 | 28 | 29 | 34 | 35 | 36 | 37 | 42 | 43 | 44 | 48 | 49 | 50 | 51 | 52 | 4 => v = .bool true
  | _ => True

def SlM2 (n : Int) (l : Int) (g : Int) (m0 : Int) (m1 : Int) (m2 : Int) (M : Bool) (slot : Nat) (v : Value) (_ : World) : Prop :=
  match slot with
  | 19 | 20 | 45 => v = .agg #[.int .i64 m0, .int .i64 m1, .int .i64 m2]
  | 38 | 40 => v = .agg #[.int .i64 n, .int .i64 l, .int .i64 g]
  | 39 | 41 => v = .bool M
  | 46 | 47 | 26 | 30 | 31 | 25 | 21 | 22 | 27 | 28 | 29 | 35 | 36 | 37 | 42 | 43 | 44 | 48 | 49 | 50 | 51 | 52 | 4 => v = .bool true
  | 23 | 24 => v = .int .i64 0
  | _ => True

theorem Blk.many {w W : World} {g : Nat} {a b c : Value} (h : Blk w g TY #[a, b, c]) (k : Gr w W) : W.cell? ⟨g, 0, none⟩ = some a ∧ W.cell? ⟨g, 1, none⟩ = some b ∧ W.cell? ⟨g, 2, none⟩ = some c := (h.below k h.lt).c3.1

set_option maxRecDepth 100000 in
set_option maxHeartbeats 4000000 in
theorem superMakes_walk (N n l g : Int) (w : World) : Calls Try.prog 3 #[.int .i64 N, .agg #[.int .i64 n, .int .i64 l, .int .i64 g]] w (RetB true w) := by
  have HM := Lib.hid (make_any N)
  have HR := Lib.hid (refMake_any N)
  have HL : Hid (mayL (mkN N) (mkL N) (mkG N) = okN N) := Lib.hid (by
    cases h : okN N
    · simp only [mkN, mkL, mkG, h, Bool.false_eq_true, if_false]
      decide
    · simp only [mkN, mkL, mkG, h, if_true, mayL]
      simp)
  have HA := Lib.hid (may_any n l g)
  have HB := Lib.hid (refMay_any n l g)
  have HC : Hid (∀ W, Calls Try.prog 12 #[.agg #[.int .i64 (mkN N), .int .i64 (mkL N), .int .i64 (mkG N)]] W (RetB (okN N) W)) := Lib.hid fun W => by
    have h := may_any (mkN N) (mkL N) (mkG N) W
    rwa [HL.out] at h
  have HE : Hid (mkE N = if okN N then 0 else 2) := Lib.hid rfl
  have HK := Lib.hid known_any
  obtain ⟨m0, e0⟩ : ∃ x, x = mkN N := ⟨_, rfl⟩
  obtain ⟨m1, e1⟩ : ∃ x, x = mkL N := ⟨_, rfl⟩
  obtain ⟨m2, e2⟩ : ∃ x, x = mkG N := ⟨_, rfl⟩
  obtain ⟨ok, e3⟩ : ∃ x, x = okN N := ⟨_, rfl⟩
  obtain ⟨M, e4⟩ : ∃ x, x = mayL n l g := ⟨_, rfl⟩
  rw [← e0, ← e1, ← e2, HE.out, ← e3] at HM
  rw [← e0, ← e1, ← e2, ← e3] at HR HC
  rw [← e4] at HA HB
  clear HE HL e0 e1 e2 e3 e4
  cases ok
  · simp only [Bool.false_eq_true, if_false] at HM
    go_enter Try.func3, Try.ntmps3
    go_wp2_with fail
    refine (HM.out _).mono ?_
    rintro e w1 ⟨rfl, g1⟩
    have B1 := Lib.hid ((Blk.new w TY #[.int .i64 n, .int .i64 l, .int .i64 g]).below g1 (by go_size))
    have G1 := Lib.hid (grow1 g1)
    clear g1
    go_wp2_with fail
    refine (HR.out _).mono ?_
    rintro e w2 ⟨rfl, g2⟩
    have B2 := Lib.hid (((Blk.new w1 TY #[.int .i64 m0, .int .i64 m1, .int .i64 m2]).below g2 (by go_size)).alloc (.cells #[.int .i64 m0, .int .i64 m1, .int .i64 m2] TY))
    have B1 := Lib.hid (((B1.out.alloc _).below g2 (by have := B1.out.lt; go_size)).alloc (.cells #[.int .i64 m0, .int .i64 m1, .int .i64 m2] TY))
    have B3 := Lib.hid (Blk.new w2 TY #[.int .i64 m0, .int .i64 m1, .int .i64 m2])
    have G2 := Lib.hid ((Gr.trans G1.out (grow1 g2)).alloc (by have := (Gr.trans G1.out (grow1 g2)).size; exact this) (.cells #[.int .i64 m0, .int .i64 m1, .int .i64 m2] TY))
    clear g2
    go_wp2_with fail
    refine Flow.region (SlM1 n l g m0 m1 m2 M) (Gr (w2.alloc (.cells #[.int .i64 m0, .int .i64 m1, .int .i64 m2] TY))) (fun _ _ => True) (by kernel_rfl) (by kernel_rfl) (fun _ _ _ _ h _ => h) ⟨rfl, rfl, rfl, Nat.le_refl _, fun _ _ => rfl⟩ ?steps ?fin
    case steps =>
      refine Flow.Steps.cons (fun a W hfr hinv hdep K hK => ?_) ?_
      · have s5 : a.tmps.getD 5 undef = .pointer (some ⟨w1.heap.size, 0, none⟩) := hfr.at 5 (by kernel_rfl)
        have t5 : a.tmps[5]?.getD undef = .pointer (some ⟨w1.heap.size, 0, none⟩) := by simpa using s5
        obtain ⟨b0, b1, b2⟩ := B1.out.many hinv
        obtain ⟨c0, c1, c2⟩ := B2.out.many hinv
        obtain ⟨d0, d1, d2⟩ := B3.out.many hinv
        rw [if_pos (Flow.wanted_none rfl)]
        clear hfr hdep
        go_simp
        exact hK _ _ True.intro hinv (fun d hd => by cases hd; trivial)
      refine Flow.Steps.cons (fun a W hfr hinv hdep K hK => ?_) ?_
      · have s7 : a.tmps.getD 7 undef = .pointer (some ⟨w2.heap.size, 0, none⟩) := hfr.at 7 (by kernel_rfl)
        have t7 : a.tmps[7]?.getD undef = .pointer (some ⟨w2.heap.size, 0, none⟩) := by simpa using s7
        obtain ⟨b0, b1, b2⟩ := B1.out.many hinv
        obtain ⟨c0, c1, c2⟩ := B2.out.many hinv
        obtain ⟨d0, d1, d2⟩ := B3.out.many hinv
        rw [if_pos (Flow.wanted_none rfl)]
        clear hfr hdep
        go_simp
        exact hK _ _ True.intro hinv (fun d hd => by cases hd; trivial)
      refine Flow.Steps.cons (fun a W hfr hinv hdep K hK => ?_) ?_
      · have s19 : a.tmps.getD 19 undef = .agg #[.int .i64 m0, .int .i64 m1, .int .i64 m2] := hdep 19 (by kernel_rfl)
        have t19 : a.tmps[19]?.getD undef = .agg #[.int .i64 m0, .int .i64 m1, .int .i64 m2] := by simpa using s19
        have s20 : a.tmps.getD 20 undef = .agg #[.int .i64 m0, .int .i64 m1, .int .i64 m2] := hdep 20 (by kernel_rfl)
        have t20 : a.tmps[20]?.getD undef = .agg #[.int .i64 m0, .int .i64 m1, .int .i64 m2] := by simpa using s20
        rw [if_pos (Flow.wanted_none rfl)]
        clear hfr hdep
        go_simp
        exact hK _ _ True.intro hinv (fun d hd => by cases hd; trivial)
      refine Flow.Steps.cons (fun a W hfr hinv hdep K hK => ?_) ?_
      · have s21 : a.tmps.getD 21 undef = .bool true := hdep 21 (by kernel_rfl)
        have t21 : a.tmps[21]?.getD undef = .bool true := by simpa using s21
        rw [if_pos (Flow.wanted_none rfl)]
        clear hfr hdep
        go_simp
        exact hK _ _ True.intro hinv (fun d hd => by cases hd; trivial)
      refine Flow.Steps.cons (fun a W hfr hinv hdep K hK => ?_) ?_
      · have sg : a.tmps.getD 22 undef = .bool true := hdep 22 (by kernel_rfl)
        have s6 : a.tmps.getD 6 undef = .int .i64 2 := hfr.at 6 (by kernel_rfl)
        have t6 : a.tmps[6]?.getD undef = .int .i64 2 := by simpa using s6
        rw [if_pos (Flow.wanted_yes 3 true 22 rfl (by kernel_rfl) sg)]
        clear hfr hdep
        go_simp
        exact hK _ _ True.intro hinv (fun d hd => by cases hd; trivial)
      refine Flow.Steps.cons (fun a W hfr hinv hdep K hK => ?_) ?_
      · have sg : a.tmps.getD 22 undef = .bool true := hdep 22 (by kernel_rfl)
        have s23 : a.tmps.getD 23 undef = .int .i64 2 := hdep 23 (by kernel_rfl)
        have t23 : a.tmps[23]?.getD undef = .int .i64 2 := by simpa using s23
        rw [if_pos (Flow.wanted_yes 3 true 22 rfl (by kernel_rfl) sg)]
        clear hfr hdep
        go_simp
        refine (num_any _ _).mono ?_
        rintro e W' ⟨rfl, rfl⟩
        exact hK _ _ True.intro hinv (fun d hd => by cases hd; trivial)
      refine Flow.Steps.cons (fun a W hfr hinv hdep K hK => ?_) ?_
      · have sg : a.tmps.getD 22 undef = .bool true := hdep 22 (by kernel_rfl)
        have s24 : a.tmps.getD 24 undef = .int .i64 2 := hdep 24 (by kernel_rfl)
        have t24 : a.tmps[24]?.getD undef = .int .i64 2 := by simpa using s24
        rw [if_pos (Flow.wanted_yes 3 true 22 rfl (by kernel_rfl) sg)]
        clear hfr hdep
        go_simp
        exact hK _ _ True.intro hinv (fun d hd => by cases hd; trivial)
      refine Flow.Steps.cons (fun a W hfr hinv hdep K hK => ?_) ?_
      · have sg : a.tmps.getD 22 undef = .bool true := hdep 22 (by kernel_rfl)
        have s8 : a.tmps.getD 8 undef = .bool false := hfr.at 8 (by kernel_rfl)
        have t8 : a.tmps[8]?.getD undef = .bool false := by simpa using s8
        rw [if_pos (Flow.wanted_yes 3 true 22 rfl (by kernel_rfl) sg)]
        clear hfr hdep
        go_simp
        exact hK _ _ True.intro hinv (fun d hd => by cases hd; trivial)
      refine Flow.Steps.cons (fun a W hfr hinv hdep K hK => ?_) ?_
      · have sg : a.tmps.getD 22 undef = .bool true := hdep 22 (by kernel_rfl)
        have s25 : a.tmps.getD 25 undef = .bool false := hdep 25 (by kernel_rfl)
        have t25 : a.tmps[25]?.getD undef = .bool false := by simpa using s25
        have s26 : a.tmps.getD 26 undef = .bool false := hdep 26 (by kernel_rfl)
        have t26 : a.tmps[26]?.getD undef = .bool false := by simpa using s26
        rw [if_pos (Flow.wanted_yes 3 true 22 rfl (by kernel_rfl) sg)]
        clear hfr hdep
        go_simp
        exact hK _ _ True.intro hinv (fun d hd => by cases hd; trivial)
      refine Flow.Steps.cons (fun a W hfr hinv hdep K hK => ?_) ?_
      · have s22 : a.tmps.getD 22 undef = .bool true := hdep 22 (by kernel_rfl)
        have t22 : a.tmps[22]?.getD undef = .bool true := by simpa using s22
        have s27 : a.tmps.getD 27 undef = .bool true := hdep 27 (by kernel_rfl)
        have t27 : a.tmps[27]?.getD undef = .bool true := by simpa using s27
        rw [if_pos (Flow.wanted_none rfl)]
        clear hfr hdep
        go_simp
        exact hK _ _ True.intro hinv (fun d hd => by cases hd; trivial)
      refine Flow.Steps.cons (fun a W hfr hinv hdep K hK => ?_) ?_
      · have s28 : a.tmps.getD 28 undef = .bool true := hdep 28 (by kernel_rfl)
        have t28 : a.tmps[28]?.getD undef = .bool true := by simpa using s28
        rw [if_pos (Flow.wanted_none rfl)]
        clear hfr hdep
        go_simp
        exact hK _ _ True.intro hinv (fun d hd => by cases hd; trivial)
      refine Flow.Steps.cons (fun a W hfr hinv hdep K hK => ?_) ?_
      · have sg : a.tmps.getD 29 undef = .bool true := hdep 29 (by kernel_rfl)
        have s8 : a.tmps.getD 8 undef = .bool false := hfr.at 8 (by kernel_rfl)
        have t8 : a.tmps[8]?.getD undef = .bool false := by simpa using s8
        rw [if_pos (Flow.wanted_yes 10 true 29 rfl (by kernel_rfl) sg)]
        clear hfr hdep
        go_simp
        exact hK _ _ True.intro hinv (fun d hd => by cases hd; trivial)
      refine Flow.Steps.cons (fun a W hfr hinv hdep K hK => ?_) ?_
      · have sg : a.tmps.getD 29 undef = .bool true := hdep 29 (by kernel_rfl)
        have s30 : a.tmps.getD 30 undef = .bool false := hdep 30 (by kernel_rfl)
        have t30 : a.tmps[30]?.getD undef = .bool false := by simpa using s30
        rw [if_pos (Flow.wanted_yes 10 true 29 rfl (by kernel_rfl) sg)]
        clear hfr hdep
        go_simp
        exact hK _ _ True.intro hinv (fun d hd => by cases hd; trivial)
      refine Flow.Steps.cons (fun a W hfr hinv hdep K hK => ?_) ?_
      · have sg : a.tmps.getD 31 undef = .bool false := hdep 31 (by kernel_rfl)
        have s6 : a.tmps.getD 6 undef = .int .i64 2 := hfr.at 6 (by kernel_rfl)
        have t6 : a.tmps[6]?.getD undef = .int .i64 2 := by simpa using s6
        rw [if_pos (Flow.wanted_yes 12 false 31 rfl (by kernel_rfl) sg)]
        clear hfr hdep
        go_simp
        exact hK _ _ True.intro hinv (fun d hd => by cases hd; trivial)
      refine Flow.Steps.cons (fun a W hfr hinv hdep K hK => ?_) ?_
      · have sg : a.tmps.getD 31 undef = .bool false := hdep 31 (by kernel_rfl)
        have s32 : a.tmps.getD 32 undef = .int .i64 2 := hdep 32 (by kernel_rfl)
        have t32 : a.tmps[32]?.getD undef = .int .i64 2 := by simpa using s32
        rw [if_pos (Flow.wanted_yes 12 false 31 rfl (by kernel_rfl) sg)]
        clear hfr hdep
        go_simp
        refine (num_any _ _).mono ?_
        rintro e W' ⟨rfl, rfl⟩
        exact hK _ _ True.intro hinv (fun d hd => by cases hd; trivial)
      refine Flow.Steps.cons (fun a W hfr hinv hdep K hK => ?_) ?_
      · have sg : a.tmps.getD 31 undef = .bool false := hdep 31 (by kernel_rfl)
        have s33 : a.tmps.getD 33 undef = .int .i64 2 := hdep 33 (by kernel_rfl)
        have t33 : a.tmps[33]?.getD undef = .int .i64 2 := by simpa using s33
        rw [if_pos (Flow.wanted_yes 12 false 31 rfl (by kernel_rfl) sg)]
        clear hfr hdep
        go_simp
        exact hK _ _ True.intro hinv (fun d hd => by cases hd; trivial)
      refine Flow.Steps.cons (fun a W hfr hinv hdep K hK => ?_) ?_
      · have sg : a.tmps.getD 29 undef = .bool true := hdep 29 (by kernel_rfl)
        have s31 : a.tmps.getD 31 undef = .bool false := hdep 31 (by kernel_rfl)
        have t31 : a.tmps[31]?.getD undef = .bool false := by simpa using s31
        have s34 : a.tmps.getD 34 undef = .bool true := hdep 34 (by kernel_rfl)
        have t34 : a.tmps[34]?.getD undef = .bool true := by simpa using s34
        rw [if_pos (Flow.wanted_yes 10 true 29 rfl (by kernel_rfl) sg)]
        clear hfr hdep
        go_simp
        exact hK _ _ True.intro hinv (fun d hd => by cases hd; trivial)
      refine Flow.Steps.cons (fun a W hfr hinv hdep K hK => ?_) ?_
      · have s29 : a.tmps.getD 29 undef = .bool true := hdep 29 (by kernel_rfl)
        have t29 : a.tmps[29]?.getD undef = .bool true := by simpa using s29
        have s35 : a.tmps.getD 35 undef = .bool true := hdep 35 (by kernel_rfl)
        have t35 : a.tmps[35]?.getD undef = .bool true := by simpa using s35
        rw [if_pos (Flow.wanted_none rfl)]
        clear hfr hdep
        go_simp
        exact hK _ _ True.intro hinv (fun d hd => by cases hd; trivial)
      refine Flow.Steps.cons (fun a W hfr hinv hdep K hK => ?_) ?_
      · have s36 : a.tmps.getD 36 undef = .bool true := hdep 36 (by kernel_rfl)
        have t36 : a.tmps[36]?.getD undef = .bool true := by simpa using s36
        rw [if_pos (Flow.wanted_none rfl)]
        clear hfr hdep
        go_simp
        exact hK _ _ True.intro hinv (fun d hd => by cases hd; trivial)
      refine Flow.Steps.cons (fun a W hfr hinv hdep K hK => ?_) ?_
      · have sg : a.tmps.getD 37 undef = .bool true := hdep 37 (by kernel_rfl)
        have s3 : a.tmps.getD 3 undef = .pointer (some ⟨w.heap.size, 0, none⟩) := hfr.at 3 (by kernel_rfl)
        have t3 : a.tmps[3]?.getD undef = .pointer (some ⟨w.heap.size, 0, none⟩) := by simpa using s3
        obtain ⟨b0, b1, b2⟩ := B1.out.many hinv
        obtain ⟨c0, c1, c2⟩ := B2.out.many hinv
        obtain ⟨d0, d1, d2⟩ := B3.out.many hinv
        rw [if_pos (Flow.wanted_yes 18 true 37 rfl (by kernel_rfl) sg)]
        clear hfr hdep
        go_simp
        exact hK _ _ True.intro hinv (fun d hd => by cases hd; trivial)
      refine Flow.Steps.cons (fun a W hfr hinv hdep K hK => ?_) ?_
      · have sg : a.tmps.getD 37 undef = .bool true := hdep 37 (by kernel_rfl)
        have s38 : a.tmps.getD 38 undef = .agg #[.int .i64 n, .int .i64 l, .int .i64 g] := hdep 38 (by kernel_rfl)
        have t38 : a.tmps[38]?.getD undef = .agg #[.int .i64 n, .int .i64 l, .int .i64 g] := by simpa using s38
        rw [if_pos (Flow.wanted_yes 18 true 37 rfl (by kernel_rfl) sg)]
        clear hfr hdep
        go_simp
        refine (HA.out W).mono ?_
        rintro e W' ⟨rfl, g1⟩
        exact hK _ _ True.intro (Gr.trans hinv g1) (fun d hd => by cases hd; trivial)
      refine Flow.Steps.cons (fun a W hfr hinv hdep K hK => ?_) ?_
      · have sg : a.tmps.getD 37 undef = .bool true := hdep 37 (by kernel_rfl)
        have s3 : a.tmps.getD 3 undef = .pointer (some ⟨w.heap.size, 0, none⟩) := hfr.at 3 (by kernel_rfl)
        have t3 : a.tmps[3]?.getD undef = .pointer (some ⟨w.heap.size, 0, none⟩) := by simpa using s3
        obtain ⟨b0, b1, b2⟩ := B1.out.many hinv
        obtain ⟨c0, c1, c2⟩ := B2.out.many hinv
        obtain ⟨d0, d1, d2⟩ := B3.out.many hinv
        rw [if_pos (Flow.wanted_yes 18 true 37 rfl (by kernel_rfl) sg)]
        clear hfr hdep
        go_simp
        exact hK _ _ True.intro hinv (fun d hd => by cases hd; trivial)
      refine Flow.Steps.cons (fun a W hfr hinv hdep K hK => ?_) ?_
      · have sg : a.tmps.getD 37 undef = .bool true := hdep 37 (by kernel_rfl)
        have s40 : a.tmps.getD 40 undef = .agg #[.int .i64 n, .int .i64 l, .int .i64 g] := hdep 40 (by kernel_rfl)
        have t40 : a.tmps[40]?.getD undef = .agg #[.int .i64 n, .int .i64 l, .int .i64 g] := by simpa using s40
        rw [if_pos (Flow.wanted_yes 18 true 37 rfl (by kernel_rfl) sg)]
        clear hfr hdep
        go_simp
        refine (HB.out W).mono ?_
        rintro e W' ⟨rfl, g1⟩
        exact hK _ _ True.intro (Gr.trans hinv g1) (fun d hd => by cases hd; trivial)
      refine Flow.Steps.cons (fun a W hfr hinv hdep K hK => ?_) ?_
      · have sg : a.tmps.getD 37 undef = .bool true := hdep 37 (by kernel_rfl)
        have s39 : a.tmps.getD 39 undef = .bool M := hdep 39 (by kernel_rfl)
        have t39 : a.tmps[39]?.getD undef = .bool M := by simpa using s39
        have s41 : a.tmps.getD 41 undef = .bool M := hdep 41 (by kernel_rfl)
        have t41 : a.tmps[41]?.getD undef = .bool M := by simpa using s41
        rw [if_pos (Flow.wanted_yes 18 true 37 rfl (by kernel_rfl) sg)]
        clear hfr hdep
        have hMM : (M == M) = true := by cases M <;> rfl
        go_simp
        exact hK _ _ True.intro hinv (fun d hd => by cases hd; trivial)
      refine Flow.Steps.cons (fun a W hfr hinv hdep K hK => ?_) ?_
      · have s37 : a.tmps.getD 37 undef = .bool true := hdep 37 (by kernel_rfl)
        have t37 : a.tmps[37]?.getD undef = .bool true := by simpa using s37
        have s42 : a.tmps.getD 42 undef = .bool true := hdep 42 (by kernel_rfl)
        have t42 : a.tmps[42]?.getD undef = .bool true := by simpa using s42
        rw [if_pos (Flow.wanted_none rfl)]
        clear hfr hdep
        go_simp
        exact hK _ _ True.intro hinv (fun d hd => by cases hd; trivial)
      refine Flow.Steps.cons (fun a W hfr hinv hdep K hK => ?_) ?_
      · have s43 : a.tmps.getD 43 undef = .bool true := hdep 43 (by kernel_rfl)
        have t43 : a.tmps[43]?.getD undef = .bool true := by simpa using s43
        rw [if_pos (Flow.wanted_none rfl)]
        clear hfr hdep
        go_simp
        exact hK _ _ True.intro hinv (fun d hd => by cases hd; trivial)
      refine Flow.Steps.cons (fun a W hfr hinv hdep K hK => ?_) ?_
      · have sg : a.tmps.getD 44 undef = .bool true := hdep 44 (by kernel_rfl)
        have s5 : a.tmps.getD 5 undef = .pointer (some ⟨w1.heap.size, 0, none⟩) := hfr.at 5 (by kernel_rfl)
        have t5 : a.tmps[5]?.getD undef = .pointer (some ⟨w1.heap.size, 0, none⟩) := by simpa using s5
        obtain ⟨b0, b1, b2⟩ := B1.out.many hinv
        obtain ⟨c0, c1, c2⟩ := B2.out.many hinv
        obtain ⟨d0, d1, d2⟩ := B3.out.many hinv
        rw [if_pos (Flow.wanted_yes 25 true 44 rfl (by kernel_rfl) sg)]
        clear hfr hdep
        go_simp
        exact hK _ _ True.intro hinv (fun d hd => by cases hd; trivial)
      refine Flow.Steps.cons (fun a W hfr hinv hdep K hK => ?_) ?_
      · have sg : a.tmps.getD 44 undef = .bool true := hdep 44 (by kernel_rfl)
        have s45 : a.tmps.getD 45 undef = .agg #[.int .i64 m0, .int .i64 m1, .int .i64 m2] := hdep 45 (by kernel_rfl)
        have t45 : a.tmps[45]?.getD undef = .agg #[.int .i64 m0, .int .i64 m1, .int .i64 m2] := by simpa using s45
        rw [if_pos (Flow.wanted_yes 25 true 44 rfl (by kernel_rfl) sg)]
        clear hfr hdep
        go_simp
        refine (HC.out W).mono ?_
        rintro e W' ⟨rfl, g1⟩
        exact hK _ _ True.intro (Gr.trans hinv g1) (fun d hd => by cases hd; trivial)
      refine Flow.Steps.cons (fun a W hfr hinv hdep K hK => ?_) ?_
      · have sg : a.tmps.getD 44 undef = .bool true := hdep 44 (by kernel_rfl)
        have s8 : a.tmps.getD 8 undef = .bool false := hfr.at 8 (by kernel_rfl)
        have t8 : a.tmps[8]?.getD undef = .bool false := by simpa using s8
        rw [if_pos (Flow.wanted_yes 25 true 44 rfl (by kernel_rfl) sg)]
        clear hfr hdep
        go_simp
        exact hK _ _ True.intro hinv (fun d hd => by cases hd; trivial)
      refine Flow.Steps.cons (fun a W hfr hinv hdep K hK => ?_) ?_
      · have sg : a.tmps.getD 44 undef = .bool true := hdep 44 (by kernel_rfl)
        have s46 : a.tmps.getD 46 undef = .bool false := hdep 46 (by kernel_rfl)
        have t46 : a.tmps[46]?.getD undef = .bool false := by simpa using s46
        have s47 : a.tmps.getD 47 undef = .bool false := hdep 47 (by kernel_rfl)
        have t47 : a.tmps[47]?.getD undef = .bool false := by simpa using s47
        rw [if_pos (Flow.wanted_yes 25 true 44 rfl (by kernel_rfl) sg)]
        clear hfr hdep
        go_simp
        exact hK _ _ True.intro hinv (fun d hd => by cases hd; trivial)
      refine Flow.Steps.cons (fun a W hfr hinv hdep K hK => ?_) ?_
      · have s44 : a.tmps.getD 44 undef = .bool true := hdep 44 (by kernel_rfl)
        have t44 : a.tmps[44]?.getD undef = .bool true := by simpa using s44
        have s48 : a.tmps.getD 48 undef = .bool true := hdep 48 (by kernel_rfl)
        have t48 : a.tmps[48]?.getD undef = .bool true := by simpa using s48
        rw [if_pos (Flow.wanted_none rfl)]
        clear hfr hdep
        go_simp
        exact hK _ _ True.intro hinv (fun d hd => by cases hd; trivial)
      refine Flow.Steps.cons (fun a W hfr hinv hdep K hK => ?_) ?_
      · have s49 : a.tmps.getD 49 undef = .bool true := hdep 49 (by kernel_rfl)
        have t49 : a.tmps[49]?.getD undef = .bool true := by simpa using s49
        rw [if_pos (Flow.wanted_none rfl)]
        clear hfr hdep
        go_simp
        exact hK _ _ True.intro hinv (fun d hd => by cases hd; trivial)
      refine Flow.Steps.cons (fun a W hfr hinv hdep K hK => ?_) ?_
      · have sg : a.tmps.getD 50 undef = .bool true := hdep 50 (by kernel_rfl)
        rw [if_pos (Flow.wanted_yes 31 true 50 rfl (by kernel_rfl) sg)]
        clear hfr hdep
        go_simp
        refine (HK.out W).mono ?_
        rintro e W' ⟨rfl, g1⟩
        exact hK _ _ True.intro (Gr.trans hinv g1) (fun d hd => by cases hd; trivial)
      refine Flow.Steps.cons (fun a W hfr hinv hdep K hK => ?_) ?_
      · have s50 : a.tmps.getD 50 undef = .bool true := hdep 50 (by kernel_rfl)
        have t50 : a.tmps[50]?.getD undef = .bool true := by simpa using s50
        have s51 : a.tmps.getD 51 undef = .bool true := hdep 51 (by kernel_rfl)
        have t51 : a.tmps[51]?.getD undef = .bool true := by simpa using s51
        rw [if_pos (Flow.wanted_none rfl)]
        clear hfr hdep
        go_simp
        exact hK _ _ True.intro hinv (fun d hd => by cases hd; trivial)
      refine Flow.Steps.cons (fun a W hfr hinv hdep K hK => ?_) ?_
      · have s52 : a.tmps.getD 52 undef = .bool true := hdep 52 (by kernel_rfl)
        have t52 : a.tmps[52]?.getD undef = .bool true := by simpa using s52
        rw [if_pos (Flow.wanted_none rfl)]
        clear hfr hdep
        go_simp
        exact hK _ _ True.intro hinv (fun d hd => by cases hd; trivial)
      exact True.intro
    case fin =>
      intro a W hfr hfin hsl
      have s4 : a.tmps.getD 4 undef = .bool true := hsl 34 _ 4 rfl rfl
      have t4 : a.tmps[4]?.getD undef = .bool true := by simpa using s4
      have e := Flow.frame hfr [19, 20, 21, 22, 23, 24, 25, 26, 27, 28, 29, 30, 31, 32, 33, 34, 35, 36, 37, 38, 39, 40, 41, 42, 43, 44, 45, 46, 47, 48, 49, 50, 51, 52, 4] (List.range 53) (by kernel_rfl) (by kernel_rfl)
      simp [List.range, List.range.loop] at e
      rw [t4] at e
      rw [e]
      clear e hfr hsl s4 t4
      rename_i K2 hK2
      refine hK2 _ _ ?_
      go_wp2_with fail
      go_ret
      exact ⟨rfl, Gr.trans G2.out hfin⟩
  · simp only [if_true] at HM
    go_enter Try.func3, Try.ntmps3
    go_wp2_with fail
    refine (HM.out _).mono ?_
    rintro e w1 ⟨rfl, g1⟩
    have B1 := Lib.hid ((Blk.new w TY #[.int .i64 n, .int .i64 l, .int .i64 g]).below g1 (by go_size))
    have G1 := Lib.hid (grow1 g1)
    clear g1
    go_wp2_with fail
    refine (HR.out _).mono ?_
    rintro e w2 ⟨rfl, g2⟩
    have B2 := Lib.hid (((Blk.new w1 TY #[.int .i64 m0, .int .i64 m1, .int .i64 m2]).below g2 (by go_size)).alloc (.cells #[.int .i64 m0, .int .i64 m1, .int .i64 m2] TY))
    have B1 := Lib.hid (((B1.out.alloc _).below g2 (by have := B1.out.lt; go_size)).alloc (.cells #[.int .i64 m0, .int .i64 m1, .int .i64 m2] TY))
    have B3 := Lib.hid (Blk.new w2 TY #[.int .i64 m0, .int .i64 m1, .int .i64 m2])
    have G2 := Lib.hid ((Gr.trans G1.out (grow1 g2)).alloc (by have := (Gr.trans G1.out (grow1 g2)).size; exact this) (.cells #[.int .i64 m0, .int .i64 m1, .int .i64 m2] TY))
    clear g2
    go_wp2_with fail
    refine Flow.region (SlM2 n l g m0 m1 m2 M) (Gr (w2.alloc (.cells #[.int .i64 m0, .int .i64 m1, .int .i64 m2] TY))) (fun _ _ => True) (by kernel_rfl) (by kernel_rfl) (fun _ _ _ _ h _ => h) ⟨rfl, rfl, rfl, Nat.le_refl _, fun _ _ => rfl⟩ ?steps ?fin
    case steps =>
      refine Flow.Steps.cons (fun a W hfr hinv hdep K hK => ?_) ?_
      · have s5 : a.tmps.getD 5 undef = .pointer (some ⟨w1.heap.size, 0, none⟩) := hfr.at 5 (by kernel_rfl)
        have t5 : a.tmps[5]?.getD undef = .pointer (some ⟨w1.heap.size, 0, none⟩) := by simpa using s5
        obtain ⟨b0, b1, b2⟩ := B1.out.many hinv
        obtain ⟨c0, c1, c2⟩ := B2.out.many hinv
        obtain ⟨d0, d1, d2⟩ := B3.out.many hinv
        rw [if_pos (Flow.wanted_none rfl)]
        clear hfr hdep
        go_simp
        exact hK _ _ True.intro hinv (fun d hd => by cases hd; trivial)
      refine Flow.Steps.cons (fun a W hfr hinv hdep K hK => ?_) ?_
      · have s7 : a.tmps.getD 7 undef = .pointer (some ⟨w2.heap.size, 0, none⟩) := hfr.at 7 (by kernel_rfl)
        have t7 : a.tmps[7]?.getD undef = .pointer (some ⟨w2.heap.size, 0, none⟩) := by simpa using s7
        obtain ⟨b0, b1, b2⟩ := B1.out.many hinv
        obtain ⟨c0, c1, c2⟩ := B2.out.many hinv
        obtain ⟨d0, d1, d2⟩ := B3.out.many hinv
        rw [if_pos (Flow.wanted_none rfl)]
        clear hfr hdep
        go_simp
        exact hK _ _ True.intro hinv (fun d hd => by cases hd; trivial)
      refine Flow.Steps.cons (fun a W hfr hinv hdep K hK => ?_) ?_
      · have s19 : a.tmps.getD 19 undef = .agg #[.int .i64 m0, .int .i64 m1, .int .i64 m2] := hdep 19 (by kernel_rfl)
        have t19 : a.tmps[19]?.getD undef = .agg #[.int .i64 m0, .int .i64 m1, .int .i64 m2] := by simpa using s19
        have s20 : a.tmps.getD 20 undef = .agg #[.int .i64 m0, .int .i64 m1, .int .i64 m2] := hdep 20 (by kernel_rfl)
        have t20 : a.tmps[20]?.getD undef = .agg #[.int .i64 m0, .int .i64 m1, .int .i64 m2] := by simpa using s20
        rw [if_pos (Flow.wanted_none rfl)]
        clear hfr hdep
        go_simp
        exact hK _ _ True.intro hinv (fun d hd => by cases hd; trivial)
      refine Flow.Steps.cons (fun a W hfr hinv hdep K hK => ?_) ?_
      · have s21 : a.tmps.getD 21 undef = .bool true := hdep 21 (by kernel_rfl)
        have t21 : a.tmps[21]?.getD undef = .bool true := by simpa using s21
        rw [if_pos (Flow.wanted_none rfl)]
        clear hfr hdep
        go_simp
        exact hK _ _ True.intro hinv (fun d hd => by cases hd; trivial)
      refine Flow.Steps.cons (fun a W hfr hinv hdep K hK => ?_) ?_
      · have sg : a.tmps.getD 22 undef = .bool true := hdep 22 (by kernel_rfl)
        have s6 : a.tmps.getD 6 undef = .int .i64 0 := hfr.at 6 (by kernel_rfl)
        have t6 : a.tmps[6]?.getD undef = .int .i64 0 := by simpa using s6
        rw [if_pos (Flow.wanted_yes 3 true 22 rfl (by kernel_rfl) sg)]
        clear hfr hdep
        go_simp
        exact hK _ _ True.intro hinv (fun d hd => by cases hd; trivial)
      refine Flow.Steps.cons (fun a W hfr hinv hdep K hK => ?_) ?_
      · have sg : a.tmps.getD 22 undef = .bool true := hdep 22 (by kernel_rfl)
        have s23 : a.tmps.getD 23 undef = .int .i64 0 := hdep 23 (by kernel_rfl)
        have t23 : a.tmps[23]?.getD undef = .int .i64 0 := by simpa using s23
        rw [if_pos (Flow.wanted_yes 3 true 22 rfl (by kernel_rfl) sg)]
        clear hfr hdep
        go_simp
        refine (num_any _ _).mono ?_
        rintro e W' ⟨rfl, rfl⟩
        exact hK _ _ True.intro hinv (fun d hd => by cases hd; trivial)
      refine Flow.Steps.cons (fun a W hfr hinv hdep K hK => ?_) ?_
      · have sg : a.tmps.getD 22 undef = .bool true := hdep 22 (by kernel_rfl)
        have s24 : a.tmps.getD 24 undef = .int .i64 0 := hdep 24 (by kernel_rfl)
        have t24 : a.tmps[24]?.getD undef = .int .i64 0 := by simpa using s24
        rw [if_pos (Flow.wanted_yes 3 true 22 rfl (by kernel_rfl) sg)]
        clear hfr hdep
        go_simp
        exact hK _ _ True.intro hinv (fun d hd => by cases hd; trivial)
      refine Flow.Steps.cons (fun a W hfr hinv hdep K hK => ?_) ?_
      · have sg : a.tmps.getD 22 undef = .bool true := hdep 22 (by kernel_rfl)
        have s8 : a.tmps.getD 8 undef = .bool true := hfr.at 8 (by kernel_rfl)
        have t8 : a.tmps[8]?.getD undef = .bool true := by simpa using s8
        rw [if_pos (Flow.wanted_yes 3 true 22 rfl (by kernel_rfl) sg)]
        clear hfr hdep
        go_simp
        exact hK _ _ True.intro hinv (fun d hd => by cases hd; trivial)
      refine Flow.Steps.cons (fun a W hfr hinv hdep K hK => ?_) ?_
      · have sg : a.tmps.getD 22 undef = .bool true := hdep 22 (by kernel_rfl)
        have s25 : a.tmps.getD 25 undef = .bool true := hdep 25 (by kernel_rfl)
        have t25 : a.tmps[25]?.getD undef = .bool true := by simpa using s25
        have s26 : a.tmps.getD 26 undef = .bool true := hdep 26 (by kernel_rfl)
        have t26 : a.tmps[26]?.getD undef = .bool true := by simpa using s26
        rw [if_pos (Flow.wanted_yes 3 true 22 rfl (by kernel_rfl) sg)]
        clear hfr hdep
        go_simp
        exact hK _ _ True.intro hinv (fun d hd => by cases hd; trivial)
      refine Flow.Steps.cons (fun a W hfr hinv hdep K hK => ?_) ?_
      · have s22 : a.tmps.getD 22 undef = .bool true := hdep 22 (by kernel_rfl)
        have t22 : a.tmps[22]?.getD undef = .bool true := by simpa using s22
        have s27 : a.tmps.getD 27 undef = .bool true := hdep 27 (by kernel_rfl)
        have t27 : a.tmps[27]?.getD undef = .bool true := by simpa using s27
        rw [if_pos (Flow.wanted_none rfl)]
        clear hfr hdep
        go_simp
        exact hK _ _ True.intro hinv (fun d hd => by cases hd; trivial)
      refine Flow.Steps.cons (fun a W hfr hinv hdep K hK => ?_) ?_
      · have s28 : a.tmps.getD 28 undef = .bool true := hdep 28 (by kernel_rfl)
        have t28 : a.tmps[28]?.getD undef = .bool true := by simpa using s28
        rw [if_pos (Flow.wanted_none rfl)]
        clear hfr hdep
        go_simp
        exact hK _ _ True.intro hinv (fun d hd => by cases hd; trivial)
      refine Flow.Steps.cons (fun a W hfr hinv hdep K hK => ?_) ?_
      · have sg : a.tmps.getD 29 undef = .bool true := hdep 29 (by kernel_rfl)
        have s8 : a.tmps.getD 8 undef = .bool true := hfr.at 8 (by kernel_rfl)
        have t8 : a.tmps[8]?.getD undef = .bool true := by simpa using s8
        rw [if_pos (Flow.wanted_yes 10 true 29 rfl (by kernel_rfl) sg)]
        clear hfr hdep
        go_simp
        exact hK _ _ True.intro hinv (fun d hd => by cases hd; trivial)
      refine Flow.Steps.cons (fun a W hfr hinv hdep K hK => ?_) ?_
      · have sg : a.tmps.getD 29 undef = .bool true := hdep 29 (by kernel_rfl)
        have s30 : a.tmps.getD 30 undef = .bool true := hdep 30 (by kernel_rfl)
        have t30 : a.tmps[30]?.getD undef = .bool true := by simpa using s30
        rw [if_pos (Flow.wanted_yes 10 true 29 rfl (by kernel_rfl) sg)]
        clear hfr hdep
        go_simp
        exact hK _ _ True.intro hinv (fun d hd => by cases hd; trivial)
      refine Flow.Steps.cons (fun a W hfr hinv hdep K hK => ?_) ?_
      · have sg : a.tmps.getD 31 undef = .bool !false := hdep 31 (by kernel_rfl)
        have s6 : a.tmps.getD 6 undef = .int .i64 0 := hfr.at 6 (by kernel_rfl)
        have t6 : a.tmps[6]?.getD undef = .int .i64 0 := by simpa using s6
        rw [if_neg (Flow.wanted_no 12 false 31 rfl (by kernel_rfl) sg)]
        clear hfr hdep
        exact hK _ _ True.intro hinv (fun d hd => by cases hd; trivial)
      refine Flow.Steps.cons (fun a W hfr hinv hdep K hK => ?_) ?_
      · have sg : a.tmps.getD 31 undef = .bool !false := hdep 31 (by kernel_rfl)
        rw [if_neg (Flow.wanted_no 12 false 31 rfl (by kernel_rfl) sg)]
        clear hfr hdep
        exact hK _ _ True.intro hinv (fun d hd => by cases hd; trivial)
      refine Flow.Steps.cons (fun a W hfr hinv hdep K hK => ?_) ?_
      · have sg : a.tmps.getD 31 undef = .bool !false := hdep 31 (by kernel_rfl)
        rw [if_neg (Flow.wanted_no 12 false 31 rfl (by kernel_rfl) sg)]
        clear hfr hdep
        exact hK _ _ True.intro hinv (fun d hd => by cases hd; trivial)
      refine Flow.Steps.cons (fun a W hfr hinv hdep K hK => ?_) ?_
      · have sg : a.tmps.getD 29 undef = .bool true := hdep 29 (by kernel_rfl)
        have s31 : a.tmps.getD 31 undef = .bool true := hdep 31 (by kernel_rfl)
        have t31 : a.tmps[31]?.getD undef = .bool true := by simpa using s31
        rw [if_pos (Flow.wanted_yes 10 true 29 rfl (by kernel_rfl) sg)]
        clear hfr hdep
        go_simp
        exact hK _ _ True.intro hinv (fun d hd => by cases hd; trivial)
      refine Flow.Steps.cons (fun a W hfr hinv hdep K hK => ?_) ?_
      · have s29 : a.tmps.getD 29 undef = .bool true := hdep 29 (by kernel_rfl)
        have t29 : a.tmps[29]?.getD undef = .bool true := by simpa using s29
        have s35 : a.tmps.getD 35 undef = .bool true := hdep 35 (by kernel_rfl)
        have t35 : a.tmps[35]?.getD undef = .bool true := by simpa using s35
        rw [if_pos (Flow.wanted_none rfl)]
        clear hfr hdep
        go_simp
        exact hK _ _ True.intro hinv (fun d hd => by cases hd; trivial)
      refine Flow.Steps.cons (fun a W hfr hinv hdep K hK => ?_) ?_
      · have s36 : a.tmps.getD 36 undef = .bool true := hdep 36 (by kernel_rfl)
        have t36 : a.tmps[36]?.getD undef = .bool true := by simpa using s36
        rw [if_pos (Flow.wanted_none rfl)]
        clear hfr hdep
        go_simp
        exact hK _ _ True.intro hinv (fun d hd => by cases hd; trivial)
      refine Flow.Steps.cons (fun a W hfr hinv hdep K hK => ?_) ?_
      · have sg : a.tmps.getD 37 undef = .bool true := hdep 37 (by kernel_rfl)
        have s3 : a.tmps.getD 3 undef = .pointer (some ⟨w.heap.size, 0, none⟩) := hfr.at 3 (by kernel_rfl)
        have t3 : a.tmps[3]?.getD undef = .pointer (some ⟨w.heap.size, 0, none⟩) := by simpa using s3
        obtain ⟨b0, b1, b2⟩ := B1.out.many hinv
        obtain ⟨c0, c1, c2⟩ := B2.out.many hinv
        obtain ⟨d0, d1, d2⟩ := B3.out.many hinv
        rw [if_pos (Flow.wanted_yes 18 true 37 rfl (by kernel_rfl) sg)]
        clear hfr hdep
        go_simp
        exact hK _ _ True.intro hinv (fun d hd => by cases hd; trivial)
      refine Flow.Steps.cons (fun a W hfr hinv hdep K hK => ?_) ?_
      · have sg : a.tmps.getD 37 undef = .bool true := hdep 37 (by kernel_rfl)
        have s38 : a.tmps.getD 38 undef = .agg #[.int .i64 n, .int .i64 l, .int .i64 g] := hdep 38 (by kernel_rfl)
        have t38 : a.tmps[38]?.getD undef = .agg #[.int .i64 n, .int .i64 l, .int .i64 g] := by simpa using s38
        rw [if_pos (Flow.wanted_yes 18 true 37 rfl (by kernel_rfl) sg)]
        clear hfr hdep
        go_simp
        refine (HA.out W).mono ?_
        rintro e W' ⟨rfl, g1⟩
        exact hK _ _ True.intro (Gr.trans hinv g1) (fun d hd => by cases hd; trivial)
      refine Flow.Steps.cons (fun a W hfr hinv hdep K hK => ?_) ?_
      · have sg : a.tmps.getD 37 undef = .bool true := hdep 37 (by kernel_rfl)
        have s3 : a.tmps.getD 3 undef = .pointer (some ⟨w.heap.size, 0, none⟩) := hfr.at 3 (by kernel_rfl)
        have t3 : a.tmps[3]?.getD undef = .pointer (some ⟨w.heap.size, 0, none⟩) := by simpa using s3
        obtain ⟨b0, b1, b2⟩ := B1.out.many hinv
        obtain ⟨c0, c1, c2⟩ := B2.out.many hinv
        obtain ⟨d0, d1, d2⟩ := B3.out.many hinv
        rw [if_pos (Flow.wanted_yes 18 true 37 rfl (by kernel_rfl) sg)]
        clear hfr hdep
        go_simp
        exact hK _ _ True.intro hinv (fun d hd => by cases hd; trivial)
      refine Flow.Steps.cons (fun a W hfr hinv hdep K hK => ?_) ?_
      · have sg : a.tmps.getD 37 undef = .bool true := hdep 37 (by kernel_rfl)
        have s40 : a.tmps.getD 40 undef = .agg #[.int .i64 n, .int .i64 l, .int .i64 g] := hdep 40 (by kernel_rfl)
        have t40 : a.tmps[40]?.getD undef = .agg #[.int .i64 n, .int .i64 l, .int .i64 g] := by simpa using s40
        rw [if_pos (Flow.wanted_yes 18 true 37 rfl (by kernel_rfl) sg)]
        clear hfr hdep
        go_simp
        refine (HB.out W).mono ?_
        rintro e W' ⟨rfl, g1⟩
        exact hK _ _ True.intro (Gr.trans hinv g1) (fun d hd => by cases hd; trivial)
      refine Flow.Steps.cons (fun a W hfr hinv hdep K hK => ?_) ?_
      · have sg : a.tmps.getD 37 undef = .bool true := hdep 37 (by kernel_rfl)
        have s39 : a.tmps.getD 39 undef = .bool M := hdep 39 (by kernel_rfl)
        have t39 : a.tmps[39]?.getD undef = .bool M := by simpa using s39
        have s41 : a.tmps.getD 41 undef = .bool M := hdep 41 (by kernel_rfl)
        have t41 : a.tmps[41]?.getD undef = .bool M := by simpa using s41
        rw [if_pos (Flow.wanted_yes 18 true 37 rfl (by kernel_rfl) sg)]
        clear hfr hdep
        have hMM : (M == M) = true := by cases M <;> rfl
        go_simp
        exact hK _ _ True.intro hinv (fun d hd => by cases hd; trivial)
      refine Flow.Steps.cons (fun a W hfr hinv hdep K hK => ?_) ?_
      · have s37 : a.tmps.getD 37 undef = .bool true := hdep 37 (by kernel_rfl)
        have t37 : a.tmps[37]?.getD undef = .bool true := by simpa using s37
        have s42 : a.tmps.getD 42 undef = .bool true := hdep 42 (by kernel_rfl)
        have t42 : a.tmps[42]?.getD undef = .bool true := by simpa using s42
        rw [if_pos (Flow.wanted_none rfl)]
        clear hfr hdep
        go_simp
        exact hK _ _ True.intro hinv (fun d hd => by cases hd; trivial)
      refine Flow.Steps.cons (fun a W hfr hinv hdep K hK => ?_) ?_
      · have s43 : a.tmps.getD 43 undef = .bool true := hdep 43 (by kernel_rfl)
        have t43 : a.tmps[43]?.getD undef = .bool true := by simpa using s43
        rw [if_pos (Flow.wanted_none rfl)]
        clear hfr hdep
        go_simp
        exact hK _ _ True.intro hinv (fun d hd => by cases hd; trivial)
      refine Flow.Steps.cons (fun a W hfr hinv hdep K hK => ?_) ?_
      · have sg : a.tmps.getD 44 undef = .bool true := hdep 44 (by kernel_rfl)
        have s5 : a.tmps.getD 5 undef = .pointer (some ⟨w1.heap.size, 0, none⟩) := hfr.at 5 (by kernel_rfl)
        have t5 : a.tmps[5]?.getD undef = .pointer (some ⟨w1.heap.size, 0, none⟩) := by simpa using s5
        obtain ⟨b0, b1, b2⟩ := B1.out.many hinv
        obtain ⟨c0, c1, c2⟩ := B2.out.many hinv
        obtain ⟨d0, d1, d2⟩ := B3.out.many hinv
        rw [if_pos (Flow.wanted_yes 25 true 44 rfl (by kernel_rfl) sg)]
        clear hfr hdep
        go_simp
        exact hK _ _ True.intro hinv (fun d hd => by cases hd; trivial)
      refine Flow.Steps.cons (fun a W hfr hinv hdep K hK => ?_) ?_
      · have sg : a.tmps.getD 44 undef = .bool true := hdep 44 (by kernel_rfl)
        have s45 : a.tmps.getD 45 undef = .agg #[.int .i64 m0, .int .i64 m1, .int .i64 m2] := hdep 45 (by kernel_rfl)
        have t45 : a.tmps[45]?.getD undef = .agg #[.int .i64 m0, .int .i64 m1, .int .i64 m2] := by simpa using s45
        rw [if_pos (Flow.wanted_yes 25 true 44 rfl (by kernel_rfl) sg)]
        clear hfr hdep
        go_simp
        refine (HC.out W).mono ?_
        rintro e W' ⟨rfl, g1⟩
        exact hK _ _ True.intro (Gr.trans hinv g1) (fun d hd => by cases hd; trivial)
      refine Flow.Steps.cons (fun a W hfr hinv hdep K hK => ?_) ?_
      · have sg : a.tmps.getD 44 undef = .bool true := hdep 44 (by kernel_rfl)
        have s8 : a.tmps.getD 8 undef = .bool true := hfr.at 8 (by kernel_rfl)
        have t8 : a.tmps[8]?.getD undef = .bool true := by simpa using s8
        rw [if_pos (Flow.wanted_yes 25 true 44 rfl (by kernel_rfl) sg)]
        clear hfr hdep
        go_simp
        exact hK _ _ True.intro hinv (fun d hd => by cases hd; trivial)
      refine Flow.Steps.cons (fun a W hfr hinv hdep K hK => ?_) ?_
      · have sg : a.tmps.getD 44 undef = .bool true := hdep 44 (by kernel_rfl)
        have s46 : a.tmps.getD 46 undef = .bool true := hdep 46 (by kernel_rfl)
        have t46 : a.tmps[46]?.getD undef = .bool true := by simpa using s46
        have s47 : a.tmps.getD 47 undef = .bool true := hdep 47 (by kernel_rfl)
        have t47 : a.tmps[47]?.getD undef = .bool true := by simpa using s47
        rw [if_pos (Flow.wanted_yes 25 true 44 rfl (by kernel_rfl) sg)]
        clear hfr hdep
        go_simp
        exact hK _ _ True.intro hinv (fun d hd => by cases hd; trivial)
      refine Flow.Steps.cons (fun a W hfr hinv hdep K hK => ?_) ?_
      · have s44 : a.tmps.getD 44 undef = .bool true := hdep 44 (by kernel_rfl)
        have t44 : a.tmps[44]?.getD undef = .bool true := by simpa using s44
        have s48 : a.tmps.getD 48 undef = .bool true := hdep 48 (by kernel_rfl)
        have t48 : a.tmps[48]?.getD undef = .bool true := by simpa using s48
        rw [if_pos (Flow.wanted_none rfl)]
        clear hfr hdep
        go_simp
        exact hK _ _ True.intro hinv (fun d hd => by cases hd; trivial)
      refine Flow.Steps.cons (fun a W hfr hinv hdep K hK => ?_) ?_
      · have s49 : a.tmps.getD 49 undef = .bool true := hdep 49 (by kernel_rfl)
        have t49 : a.tmps[49]?.getD undef = .bool true := by simpa using s49
        rw [if_pos (Flow.wanted_none rfl)]
        clear hfr hdep
        go_simp
        exact hK _ _ True.intro hinv (fun d hd => by cases hd; trivial)
      refine Flow.Steps.cons (fun a W hfr hinv hdep K hK => ?_) ?_
      · have sg : a.tmps.getD 50 undef = .bool true := hdep 50 (by kernel_rfl)
        rw [if_pos (Flow.wanted_yes 31 true 50 rfl (by kernel_rfl) sg)]
        clear hfr hdep
        go_simp
        refine (HK.out W).mono ?_
        rintro e W' ⟨rfl, g1⟩
        exact hK _ _ True.intro (Gr.trans hinv g1) (fun d hd => by cases hd; trivial)
      refine Flow.Steps.cons (fun a W hfr hinv hdep K hK => ?_) ?_
      · have s50 : a.tmps.getD 50 undef = .bool true := hdep 50 (by kernel_rfl)
        have t50 : a.tmps[50]?.getD undef = .bool true := by simpa using s50
        have s51 : a.tmps.getD 51 undef = .bool true := hdep 51 (by kernel_rfl)
        have t51 : a.tmps[51]?.getD undef = .bool true := by simpa using s51
        rw [if_pos (Flow.wanted_none rfl)]
        clear hfr hdep
        go_simp
        exact hK _ _ True.intro hinv (fun d hd => by cases hd; trivial)
      refine Flow.Steps.cons (fun a W hfr hinv hdep K hK => ?_) ?_
      · have s52 : a.tmps.getD 52 undef = .bool true := hdep 52 (by kernel_rfl)
        have t52 : a.tmps[52]?.getD undef = .bool true := by simpa using s52
        rw [if_pos (Flow.wanted_none rfl)]
        clear hfr hdep
        go_simp
        exact hK _ _ True.intro hinv (fun d hd => by cases hd; trivial)
      exact True.intro
    case fin =>
      intro a W hfr hfin hsl
      have s4 : a.tmps.getD 4 undef = .bool true := hsl 34 _ 4 rfl rfl
      have t4 : a.tmps[4]?.getD undef = .bool true := by simpa using s4
      have e := Flow.frame hfr [19, 20, 21, 22, 23, 24, 25, 26, 27, 28, 29, 30, 31, 32, 33, 34, 35, 36, 37, 38, 39, 40, 41, 42, 43, 44, 45, 46, 47, 48, 49, 50, 51, 52, 4] (List.range 53) (by kernel_rfl) (by kernel_rfl)
      simp [List.range, List.range.loop] at e
      rw [t4] at e
      rw [e]
      clear e hfr hsl s4 t4
      rename_i K2 hK2
      refine hK2 _ _ ?_
      go_wp2_with fail
      go_ret
      exact ⟨rfl, Gr.trans G2.out hfin⟩

end Go.Proofs.Ytanajjfcnedaiaa
