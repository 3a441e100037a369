
/-
  Both have the same.
-/
import Derived.Test.YtkoalabacfjgbaaDo2
import Derived.Test.YtkoalabacfjgbaaKnown3
namespace Go.Proofs.Ytkoalabacfjgbaa
open Go.RowKit Go.Maps

/-- What the first region's slots hold. -/
def Sm1 (p : Value) (rb gs N cs W0 KL : Nat) (D : Bool) (l m : Value) (d : Nat) (v : Value) (_ : World) : Prop :=
  match d with
  | 15 | 24 | 33 => v = p
  | 16 | 21 => v = .int .i64 (N : Int)
  | 17 | 18 | 19 | 26 | 27 | 35 | 36 => v = .pointer (some ⟨rb, 0, none⟩)
  | 20 => v = .slice (some ⟨gs, 0, none⟩) N cs
  | 22 | 23 | 30 | 31 | 32 | 39 | 40 | 41 | 46 | 47 => v = .bool false
  | 25 | 29 => v = .bool D
  | 28 => v = .pointer (some ⟨rb, 2, none⟩)
  | 34 | 38 => v = .int .i64 (W0 : Int)
  | 37 => v = .pointer (some ⟨rb, 3, none⟩)
  | 42 => v = l
  | 44 => v = m
  | 43 | 45 => v = .int .i64 (KL : Int)
  | _ => True
/-- What the third region's slots hold. -/
def Sm3 (rb n8 i : Nat) (S : Sec) (d : Nat) (v : Value) (_ : World) : Prop :=
  match d with
  | 78 => v = .int .i64 0
  | 79 | 80 | 85 | 86 => v = .bool false
  | 81 | 84 => v = .agg (sec S)
  | 82 => v = .pointer (some ⟨rb, 0, none⟩)
  | 83 => v = .int .i64 (i : Int)
  | _ => True

set_option maxRecDepth 100000 in
set_option maxHeartbeats 4000000 in
theorem same_any {F G : Nat → Prop} {p r : Value} {s : St} (w : World) (h : Pair w F G p r s) (hw : s.writes ≤ 1000000000) : Calls Try.prog 8 #[p, r] w fun e w' => RetTrue w e w' := by
  obtain ⟨rb, gs, cs, V, hr, hrf⟩ := h.rf
  subst hr
  obtain ⟨N, hN⟩ : ∃ N, N = s.ls.length := ⟨_, rfl⟩
  have hN2 : N ≤ 65536 := by rw [hN]; exact hrf.most
  have hsml := St.loose_small h.dk.ok
  have hll := s.loose_len
  have HN := Lib.hid hN
  have HP := Lib.hid h
  have HL1 := Lib.hid (Loose_any w h.dk hw)
  have HL2 : Hid (∀ W, Gr w W → Calls Try.prog 25 #[.pointer (some ⟨rb, 0, none⟩)] W fun e w' => RetLoose s.loose W e w') := Lib.hid fun W g => refLoose_any W (h.rf.gr g)
  have HRf := Lib.hid hrf
  have HW := Lib.hid hw
  have HSm := Lib.hid hsml
  have HLl := Lib.hid hll
  clear h hrf hw hN hsml hll
  go_enter Try.func8, Try.ntmps8
  go_wp2_with fail
  refine HL1.out.mono ?_
  rintro e w1 ⟨l, rfl, hi1, hg1⟩
  have HC2 := Lib.hid (HL2.out w1 hg1)
  have HI1 := Lib.hid hi1
  have HG1 := Lib.hid hg1
  clear hi1 hg1 HL1 HL2
  go_wp2_with fail
  refine HC2.out.mono ?_
  rintro e w2 ⟨m, rfl, hi2, hg2⟩
  obtain ⟨p1, c1, rfl, _, hn1⟩ := Ints.nums HI1.out HSm.out
  obtain ⟨p2, c2, rfl, _, hn2⟩ := Ints.nums hi2 HSm.out
  obtain ⟨KL, hK⟩ : ∃ KL, KL = s.loose.length := ⟨_, rfl⟩
  rw [← hK] at hn1 hn2 ⊢
  have hKs : KL ≤ 65536 := by rw [hK]; have := HLl.out; have := HN.out; omega
  have HN1 := Lib.hid (hn1.gr hg2)
  have HN2 := Lib.hid hn2
  have HG2 := Lib.hid (Gr.trans HG1.out hg2)
  clear hi2 hg2 hn1 hn2 hK HC2 HI1 HG1
  go_wp2_with fail
  obtain ⟨D, hD⟩ : ∃ D, D = s.dead := ⟨_, rfl⟩
  obtain ⟨W0, hW0⟩ : ∃ W0, W0 = s.writes := ⟨_, rfl⟩
  have HA : Hid (∀ W, Gr w2 W → W.cell? ⟨rb, 0, none⟩ = some (.slice (some ⟨gs, 0, none⟩) N cs) ∧ W.cell? ⟨rb, 2, none⟩ = some (.bool D) ∧ W.cell? ⟨rb, 3, none⟩ = some (.int .i64 (W0 : Int))) := Lib.hid fun W g => by
    have := (HRf.out.gr (Gr.trans HG2.out g)).cells
    rw [HN.out, hD, hW0]
    exact ⟨this.1, this.2.2.1, this.2.2.2⟩
  have HS1 : Hid (∀ W, Gr w2 W → Calls Try.prog 26 #[p] W fun e w' => e = .returned (.int .i64 (N : Int)) ∧ W = w') := Lib.hid fun W g => by rw [HN.out]; exact Sectors_any W (HP.out.dk.gr (Gr.trans HG2.out g))
  have HS2 : Hid (∀ W, Gr w2 W → Calls Try.prog 20 #[p] W fun e w' => e = .returned (.bool D) ∧ W = w') := Lib.hid fun W g => by rw [hD]; exact Dead_any W (HP.out.dk.gr (Gr.trans HG2.out g))
  have HS3 : Hid (∀ W, Gr w2 W → Calls Try.prog 27 #[p] W fun e w' => e = .returned (.int .i64 (W0 : Int)) ∧ W = w') := Lib.hid fun W g => by rw [hW0]; exact Writes_any W (HP.out.dk.gr (Gr.trans HG2.out g))
  have hbb : (D != D) = false := by cases D <;> rfl
  clear hD hW0
  refine Flow.region (Sm1 p rb gs N cs W0 KL D (.slice p1 KL c1) (.slice p2 KL c2)) (Gr w2) (fun _ _ => True) (by kernel_rfl) (by kernel_rfl) (fun _ _ _ _ h _ => h) ⟨rfl, rfl, rfl, Nat.le_refl _, fun _ _ => rfl⟩ ?steps ?fin
  case steps =>
    refine Flow.Steps.cons (fun a W hfr hinv hdep K hK => ?_) ?_
    · have s0 : a.tmps.getD 0 undef = p := hfr.at 0 (by kernel_rfl)
      have t0 : a.tmps[0]?.getD undef = p := by simpa using s0
      rw [if_pos (Flow.wanted_none rfl)]
      clear hfr hdep
      go_simp
      exact hK _ _ True.intro hinv (fun d hd => by cases hd; rfl)
    refine Flow.Steps.cons (fun a W hfr hinv hdep K hK => ?_) ?_
    · have s15 : a.tmps.getD 15 undef = p := hdep 15 (by kernel_rfl)
      have t15 : a.tmps[15]?.getD undef = p := by simpa using s15
      rw [if_pos (Flow.wanted_none rfl)]
      clear hfr hdep
      go_simp
      refine (HS1.out W hinv).mono ?_
      rintro e W' ⟨rfl, rfl⟩
      exact hK _ _ True.intro hinv (fun d hd => by cases hd; rfl)
    refine Flow.Steps.cons (fun a W hfr hinv hdep K hK => ?_) ?_
    · have s1 : a.tmps.getD 1 undef = .pointer (some ⟨rb, 0, none⟩) := hfr.at 1 (by kernel_rfl)
      have t1 : a.tmps[1]?.getD undef = .pointer (some ⟨rb, 0, none⟩) := by simpa using s1
      rw [if_pos (Flow.wanted_none rfl)]
      clear hfr hdep
      go_simp
      exact hK _ _ True.intro hinv (fun d hd => by cases hd; rfl)
    refine Flow.Steps.cons (fun a W hfr hinv hdep K hK => ?_) ?_
    · have s17 : a.tmps.getD 17 undef = .pointer (some ⟨rb, 0, none⟩) := hdep 17 (by kernel_rfl)
      have t17 : a.tmps[17]?.getD undef = .pointer (some ⟨rb, 0, none⟩) := by simpa using s17
      rw [if_pos (Flow.wanted_none rfl)]
      clear hfr hdep
      go_simp
      exact hK _ _ True.intro hinv (fun d hd => by cases hd; rfl)
    refine Flow.Steps.cons (fun a W hfr hinv hdep K hK => ?_) ?_
    · have s18 : a.tmps.getD 18 undef = .pointer (some ⟨rb, 0, none⟩) := hdep 18 (by kernel_rfl)
      have t18 : a.tmps[18]?.getD undef = .pointer (some ⟨rb, 0, none⟩) := by simpa using s18
      rw [if_pos (Flow.wanted_none rfl)]
      clear hfr hdep
      go_simp
      exact hK _ _ True.intro hinv (fun d hd => by cases hd; rfl)
    refine Flow.Steps.cons (fun a W hfr hinv hdep K hK => ?_) ?_
    · have s19 : a.tmps.getD 19 undef = .pointer (some ⟨rb, 0, none⟩) := hdep 19 (by kernel_rfl)
      have t19 : a.tmps[19]?.getD undef = .pointer (some ⟨rb, 0, none⟩) := by simpa using s19
      have hc := (HA.out W hinv).1
      rw [if_pos (Flow.wanted_none rfl)]
      clear hfr hdep
      go_simp
      exact hK _ _ True.intro hinv (fun d hd => by cases hd; rfl)
    refine Flow.Steps.cons (fun a W hfr hinv hdep K hK => ?_) ?_
    · have s20 : a.tmps.getD 20 undef = .slice (some ⟨gs, 0, none⟩) N cs := hdep 20 (by kernel_rfl)
      have t20 : a.tmps[20]?.getD undef = .slice (some ⟨gs, 0, none⟩) N cs := by simpa using s20
      rw [if_pos (Flow.wanted_none rfl)]
      clear hfr hdep
      go_simp
      exact hK _ _ True.intro hinv (fun d hd => by cases hd; rfl)
    refine Flow.Steps.cons (fun a W hfr hinv hdep K hK => ?_) ?_
    · have s16 : a.tmps.getD 16 undef = .int .i64 (N : Int) := hdep 16 (by kernel_rfl)
      have t16 : a.tmps[16]?.getD undef = .int .i64 (N : Int) := by simpa using s16
      have s21 : a.tmps.getD 21 undef = .int .i64 (N : Int) := hdep 21 (by kernel_rfl)
      have t21 : a.tmps[21]?.getD undef = .int .i64 (N : Int) := by simpa using s21
      rw [if_pos (Flow.wanted_none rfl)]
      clear hfr hdep
      go_simp
      exact hK _ _ True.intro hinv (fun d hd => by cases hd; rfl)
    refine Flow.Steps.cons (fun a W hfr hinv hdep K hK => ?_) ?_
    · have s22 : a.tmps.getD 22 undef = .bool false := hdep 22 (by kernel_rfl)
      have t22 : a.tmps[22]?.getD undef = .bool false := by simpa using s22
      rw [if_pos (Flow.wanted_none rfl)]
      clear hfr hdep
      go_simp
      exact hK _ _ True.intro hinv (fun d hd => by cases hd; rfl)
    refine Flow.Steps.cons (fun a W hfr hinv hdep K hK => ?_) ?_
    · have sg : a.tmps.getD 23 undef = .bool false := hdep 23 (by kernel_rfl)
      have s0 : a.tmps.getD 0 undef = p := hfr.at 0 (by kernel_rfl)
      have t0 : a.tmps[0]?.getD undef = p := by simpa using s0
      rw [if_pos (Flow.wanted_yes 8 false 23 rfl (by kernel_rfl) sg)]
      clear hfr hdep
      go_simp
      exact hK _ _ True.intro hinv (fun d hd => by cases hd; rfl)
    refine Flow.Steps.cons (fun a W hfr hinv hdep K hK => ?_) ?_
    · have sg : a.tmps.getD 23 undef = .bool false := hdep 23 (by kernel_rfl)
      have s24 : a.tmps.getD 24 undef = p := hdep 24 (by kernel_rfl)
      have t24 : a.tmps[24]?.getD undef = p := by simpa using s24
      rw [if_pos (Flow.wanted_yes 8 false 23 rfl (by kernel_rfl) sg)]
      clear hfr hdep
      go_simp
      refine (HS2.out W hinv).mono ?_
      rintro e W' ⟨rfl, rfl⟩
      exact hK _ _ True.intro hinv (fun d hd => by cases hd; rfl)
    refine Flow.Steps.cons (fun a W hfr hinv hdep K hK => ?_) ?_
    · have sg : a.tmps.getD 23 undef = .bool false := hdep 23 (by kernel_rfl)
      have s1 : a.tmps.getD 1 undef = .pointer (some ⟨rb, 0, none⟩) := hfr.at 1 (by kernel_rfl)
      have t1 : a.tmps[1]?.getD undef = .pointer (some ⟨rb, 0, none⟩) := by simpa using s1
      rw [if_pos (Flow.wanted_yes 8 false 23 rfl (by kernel_rfl) sg)]
      clear hfr hdep
      go_simp
      exact hK _ _ True.intro hinv (fun d hd => by cases hd; rfl)
    refine Flow.Steps.cons (fun a W hfr hinv hdep K hK => ?_) ?_
    · have sg : a.tmps.getD 23 undef = .bool false := hdep 23 (by kernel_rfl)
      have s26 : a.tmps.getD 26 undef = .pointer (some ⟨rb, 0, none⟩) := hdep 26 (by kernel_rfl)
      have t26 : a.tmps[26]?.getD undef = .pointer (some ⟨rb, 0, none⟩) := by simpa using s26
      rw [if_pos (Flow.wanted_yes 8 false 23 rfl (by kernel_rfl) sg)]
      clear hfr hdep
      go_simp
      exact hK _ _ True.intro hinv (fun d hd => by cases hd; rfl)
    refine Flow.Steps.cons (fun a W hfr hinv hdep K hK => ?_) ?_
    · have sg : a.tmps.getD 23 undef = .bool false := hdep 23 (by kernel_rfl)
      have s27 : a.tmps.getD 27 undef = .pointer (some ⟨rb, 0, none⟩) := hdep 27 (by kernel_rfl)
      have t27 : a.tmps[27]?.getD undef = .pointer (some ⟨rb, 0, none⟩) := by simpa using s27
      rw [if_pos (Flow.wanted_yes 8 false 23 rfl (by kernel_rfl) sg)]
      clear hfr hdep
      go_simp
      exact hK _ _ True.intro hinv (fun d hd => by cases hd; rfl)
    refine Flow.Steps.cons (fun a W hfr hinv hdep K hK => ?_) ?_
    · have sg : a.tmps.getD 23 undef = .bool false := hdep 23 (by kernel_rfl)
      have s28 : a.tmps.getD 28 undef = .pointer (some ⟨rb, 2, none⟩) := hdep 28 (by kernel_rfl)
      have t28 : a.tmps[28]?.getD undef = .pointer (some ⟨rb, 2, none⟩) := by simpa using s28
      have hc := (HA.out W hinv).2.1
      rw [if_pos (Flow.wanted_yes 8 false 23 rfl (by kernel_rfl) sg)]
      clear hfr hdep
      go_simp
      exact hK _ _ True.intro hinv (fun d hd => by cases hd; rfl)
    refine Flow.Steps.cons (fun a W hfr hinv hdep K hK => ?_) ?_
    · have sg : a.tmps.getD 23 undef = .bool false := hdep 23 (by kernel_rfl)
      have s25 : a.tmps.getD 25 undef = .bool D := hdep 25 (by kernel_rfl)
      have t25 : a.tmps[25]?.getD undef = .bool D := by simpa using s25
      have s29 : a.tmps.getD 29 undef = .bool D := hdep 29 (by kernel_rfl)
      have t29 : a.tmps[29]?.getD undef = .bool D := by simpa using s29
      rw [if_pos (Flow.wanted_yes 8 false 23 rfl (by kernel_rfl) sg)]
      clear hfr hdep
      go_simp
      exact hK _ _ True.intro hinv (fun d hd => by cases hd; rfl)
    refine Flow.Steps.cons (fun a W hfr hinv hdep K hK => ?_) ?_
    · have s23 : a.tmps.getD 23 undef = .bool false := hdep 23 (by kernel_rfl)
      have t23 : a.tmps[23]?.getD undef = .bool false := by simpa using s23
      have s30 : a.tmps.getD 30 undef = .bool false := hdep 30 (by kernel_rfl)
      have t30 : a.tmps[30]?.getD undef = .bool false := by simpa using s30
      rw [if_pos (Flow.wanted_none rfl)]
      clear hfr hdep
      go_simp
      exact hK _ _ True.intro hinv (fun d hd => by cases hd; rfl)
    refine Flow.Steps.cons (fun a W hfr hinv hdep K hK => ?_) ?_
    · have s31 : a.tmps.getD 31 undef = .bool false := hdep 31 (by kernel_rfl)
      have t31 : a.tmps[31]?.getD undef = .bool false := by simpa using s31
      rw [if_pos (Flow.wanted_none rfl)]
      clear hfr hdep
      go_simp
      exact hK _ _ True.intro hinv (fun d hd => by cases hd; rfl)
    refine Flow.Steps.cons (fun a W hfr hinv hdep K hK => ?_) ?_
    · have sg : a.tmps.getD 32 undef = .bool false := hdep 32 (by kernel_rfl)
      have s0 : a.tmps.getD 0 undef = p := hfr.at 0 (by kernel_rfl)
      have t0 : a.tmps[0]?.getD undef = p := by simpa using s0
      rw [if_pos (Flow.wanted_yes 17 false 32 rfl (by kernel_rfl) sg)]
      clear hfr hdep
      go_simp
      exact hK _ _ True.intro hinv (fun d hd => by cases hd; rfl)
    refine Flow.Steps.cons (fun a W hfr hinv hdep K hK => ?_) ?_
    · have sg : a.tmps.getD 32 undef = .bool false := hdep 32 (by kernel_rfl)
      have s33 : a.tmps.getD 33 undef = p := hdep 33 (by kernel_rfl)
      have t33 : a.tmps[33]?.getD undef = p := by simpa using s33
      rw [if_pos (Flow.wanted_yes 17 false 32 rfl (by kernel_rfl) sg)]
      clear hfr hdep
      go_simp
      refine (HS3.out W hinv).mono ?_
      rintro e W' ⟨rfl, rfl⟩
      exact hK _ _ True.intro hinv (fun d hd => by cases hd; rfl)
    refine Flow.Steps.cons (fun a W hfr hinv hdep K hK => ?_) ?_
    · have sg : a.tmps.getD 32 undef = .bool false := hdep 32 (by kernel_rfl)
      have s1 : a.tmps.getD 1 undef = .pointer (some ⟨rb, 0, none⟩) := hfr.at 1 (by kernel_rfl)
      have t1 : a.tmps[1]?.getD undef = .pointer (some ⟨rb, 0, none⟩) := by simpa using s1
      rw [if_pos (Flow.wanted_yes 17 false 32 rfl (by kernel_rfl) sg)]
      clear hfr hdep
      go_simp
      exact hK _ _ True.intro hinv (fun d hd => by cases hd; rfl)
    refine Flow.Steps.cons (fun a W hfr hinv hdep K hK => ?_) ?_
    · have sg : a.tmps.getD 32 undef = .bool false := hdep 32 (by kernel_rfl)
      have s35 : a.tmps.getD 35 undef = .pointer (some ⟨rb, 0, none⟩) := hdep 35 (by kernel_rfl)
      have t35 : a.tmps[35]?.getD undef = .pointer (some ⟨rb, 0, none⟩) := by simpa using s35
      rw [if_pos (Flow.wanted_yes 17 false 32 rfl (by kernel_rfl) sg)]
      clear hfr hdep
      go_simp
      exact hK _ _ True.intro hinv (fun d hd => by cases hd; rfl)
    refine Flow.Steps.cons (fun a W hfr hinv hdep K hK => ?_) ?_
    · have sg : a.tmps.getD 32 undef = .bool false := hdep 32 (by kernel_rfl)
      have s36 : a.tmps.getD 36 undef = .pointer (some ⟨rb, 0, none⟩) := hdep 36 (by kernel_rfl)
      have t36 : a.tmps[36]?.getD undef = .pointer (some ⟨rb, 0, none⟩) := by simpa using s36
      rw [if_pos (Flow.wanted_yes 17 false 32 rfl (by kernel_rfl) sg)]
      clear hfr hdep
      go_simp
      exact hK _ _ True.intro hinv (fun d hd => by cases hd; rfl)
    refine Flow.Steps.cons (fun a W hfr hinv hdep K hK => ?_) ?_
    · have sg : a.tmps.getD 32 undef = .bool false := hdep 32 (by kernel_rfl)
      have s37 : a.tmps.getD 37 undef = .pointer (some ⟨rb, 3, none⟩) := hdep 37 (by kernel_rfl)
      have t37 : a.tmps[37]?.getD undef = .pointer (some ⟨rb, 3, none⟩) := by simpa using s37
      have hc := (HA.out W hinv).2.2
      rw [if_pos (Flow.wanted_yes 17 false 32 rfl (by kernel_rfl) sg)]
      clear hfr hdep
      go_simp
      exact hK _ _ True.intro hinv (fun d hd => by cases hd; rfl)
    refine Flow.Steps.cons (fun a W hfr hinv hdep K hK => ?_) ?_
    · have sg : a.tmps.getD 32 undef = .bool false := hdep 32 (by kernel_rfl)
      have s34 : a.tmps.getD 34 undef = .int .i64 (W0 : Int) := hdep 34 (by kernel_rfl)
      have t34 : a.tmps[34]?.getD undef = .int .i64 (W0 : Int) := by simpa using s34
      have s38 : a.tmps.getD 38 undef = .int .i64 (W0 : Int) := hdep 38 (by kernel_rfl)
      have t38 : a.tmps[38]?.getD undef = .int .i64 (W0 : Int) := by simpa using s38
      rw [if_pos (Flow.wanted_yes 17 false 32 rfl (by kernel_rfl) sg)]
      clear hfr hdep
      go_simp
      exact hK _ _ True.intro hinv (fun d hd => by cases hd; rfl)
    refine Flow.Steps.cons (fun a W hfr hinv hdep K hK => ?_) ?_
    · have s32 : a.tmps.getD 32 undef = .bool false := hdep 32 (by kernel_rfl)
      have t32 : a.tmps[32]?.getD undef = .bool false := by simpa using s32
      have s39 : a.tmps.getD 39 undef = .bool false := hdep 39 (by kernel_rfl)
      have t39 : a.tmps[39]?.getD undef = .bool false := by simpa using s39
      rw [if_pos (Flow.wanted_none rfl)]
      clear hfr hdep
      go_simp
      exact hK _ _ True.intro hinv (fun d hd => by cases hd; rfl)
    refine Flow.Steps.cons (fun a W hfr hinv hdep K hK => ?_) ?_
    · have s40 : a.tmps.getD 40 undef = .bool false := hdep 40 (by kernel_rfl)
      have t40 : a.tmps[40]?.getD undef = .bool false := by simpa using s40
      rw [if_pos (Flow.wanted_none rfl)]
      clear hfr hdep
      go_simp
      exact hK _ _ True.intro hinv (fun d hd => by cases hd; rfl)
    refine Flow.Steps.cons (fun a W hfr hinv hdep K hK => ?_) ?_
    · have sg : a.tmps.getD 41 undef = .bool false := hdep 41 (by kernel_rfl)
      have s5 : a.tmps.getD 5 undef = .slice p1 KL c1 := hfr.at 5 (by kernel_rfl)
      have t5 : a.tmps[5]?.getD undef = .slice p1 KL c1 := by simpa using s5
      rw [if_pos (Flow.wanted_yes 26 false 41 rfl (by kernel_rfl) sg)]
      clear hfr hdep
      go_simp
      exact hK _ _ True.intro hinv (fun d hd => by cases hd; rfl)
    refine Flow.Steps.cons (fun a W hfr hinv hdep K hK => ?_) ?_
    · have sg : a.tmps.getD 41 undef = .bool false := hdep 41 (by kernel_rfl)
      have s42 : a.tmps.getD 42 undef = .slice p1 KL c1 := hdep 42 (by kernel_rfl)
      have t42 : a.tmps[42]?.getD undef = .slice p1 KL c1 := by simpa using s42
      rw [if_pos (Flow.wanted_yes 26 false 41 rfl (by kernel_rfl) sg)]
      clear hfr hdep
      go_simp
      exact hK _ _ True.intro hinv (fun d hd => by cases hd; rfl)
    refine Flow.Steps.cons (fun a W hfr hinv hdep K hK => ?_) ?_
    · have sg : a.tmps.getD 41 undef = .bool false := hdep 41 (by kernel_rfl)
      have s6 : a.tmps.getD 6 undef = .slice p2 KL c2 := hfr.at 6 (by kernel_rfl)
      have t6 : a.tmps[6]?.getD undef = .slice p2 KL c2 := by simpa using s6
      rw [if_pos (Flow.wanted_yes 26 false 41 rfl (by kernel_rfl) sg)]
      clear hfr hdep
      go_simp
      exact hK _ _ True.intro hinv (fun d hd => by cases hd; rfl)
    refine Flow.Steps.cons (fun a W hfr hinv hdep K hK => ?_) ?_
    · have sg : a.tmps.getD 41 undef = .bool false := hdep 41 (by kernel_rfl)
      have s44 : a.tmps.getD 44 undef = .slice p2 KL c2 := hdep 44 (by kernel_rfl)
      have t44 : a.tmps[44]?.getD undef = .slice p2 KL c2 := by simpa using s44
      rw [if_pos (Flow.wanted_yes 26 false 41 rfl (by kernel_rfl) sg)]
      clear hfr hdep
      go_simp
      exact hK _ _ True.intro hinv (fun d hd => by cases hd; rfl)
    refine Flow.Steps.cons (fun a W hfr hinv hdep K hK => ?_) ?_
    · have sg : a.tmps.getD 41 undef = .bool false := hdep 41 (by kernel_rfl)
      have s43 : a.tmps.getD 43 undef = .int .i64 (KL : Int) := hdep 43 (by kernel_rfl)
      have t43 : a.tmps[43]?.getD undef = .int .i64 (KL : Int) := by simpa using s43
      have s45 : a.tmps.getD 45 undef = .int .i64 (KL : Int) := hdep 45 (by kernel_rfl)
      have t45 : a.tmps[45]?.getD undef = .int .i64 (KL : Int) := by simpa using s45
      rw [if_pos (Flow.wanted_yes 26 false 41 rfl (by kernel_rfl) sg)]
      clear hfr hdep
      go_simp
      exact hK _ _ True.intro hinv (fun d hd => by cases hd; rfl)
    refine Flow.Steps.cons (fun a W hfr hinv hdep K hK => ?_) ?_
    · have s41 : a.tmps.getD 41 undef = .bool false := hdep 41 (by kernel_rfl)
      have t41 : a.tmps[41]?.getD undef = .bool false := by simpa using s41
      have s46 : a.tmps.getD 46 undef = .bool false := hdep 46 (by kernel_rfl)
      have t46 : a.tmps[46]?.getD undef = .bool false := by simpa using s46
      rw [if_pos (Flow.wanted_none rfl)]
      clear hfr hdep
      go_simp
      exact hK _ _ True.intro hinv (fun d hd => by cases hd; rfl)
    exact True.intro
  case fin =>
    intro a W hfr hfin hsl
    have s47 : a.tmps.getD 47 undef = .bool false := hsl 32 _ 47 rfl rfl
    have t47 : a.tmps[47]?.getD undef = .bool false := by simpa using s47
    clear hsl s47
    have e := Flow.frame hfr [15, 16, 17, 18, 19, 20, 21, 22, 23, 24, 25, 26, 27, 28, 29, 30, 31, 32, 33, 34, 35, 36, 37, 38, 39, 40, 41, 42, 43, 44, 45, 46, 47] (List.range 87) (by kernel_rfl) (by kernel_rfl)
    simp [List.range, List.range.loop] at e
    rw [t47] at e
    rw [e]
    clear e hfr t47
    have HG3 := Lib.hid (Gr.trans HG2.out hfin)
    have HM1 := Lib.hid (HN1.out.gr hfin)
    have HM2 := Lib.hid (HN2.out.gr hfin)
    clear hfin HA HS1 HS2 HS3 HN1 HN2 HG2 hbb
    rename_i K2 hK2
    refine hK2 _ _ ?_
    go_wp2_with fail
    go_loopw [7] (fun i wr => ∃ k : Nat, k ≤ KL ∧ i = .int .i64 k ∧ Hid (Gr w wr) ∧ Hid (Gr W wr)) (fun i _ => KL - (intOf i).toNat)
    case atStart => exact ⟨0, Nat.zero_le _, rfl, HG3, Lib.hid (Gr.refl _)⟩
    case round =>
      obtain ⟨k, hk, rfl, hg, hgW⟩ := hrel
      by_cases hlt : k < KL
      · have hm1 := HM1.out.gr hgW.out
        have hm2 := HM2.out.gr hgW.out
        obtain ⟨b1, o1, rfl, hc1⟩ := hm1.lies (by omega)
        obtain ⟨b2, o2, rfl, hc2⟩ := hm2.lies (by omega)
        have hd1 := hc1 k hlt
        have hd2 := hc2 k hlt
        have HG4 : Hid (Gr w wr ∧ Gr W wr) := Lib.hid ⟨hg.out, hgW.out⟩
        have hk65 : (k : Int) < 65536 := by omega
        clear hc1 hc2 hm1 hm2 hg hgW
        obtain ⟨z, hz⟩ : ∃ z, z = (s.loose.map fun (x : Nat) => (x : Int)).getD k 0 := ⟨_, rfl⟩
        rw [← hz] at hd1 hd2
        clear hz
        go_wp2_with fail
        go_quiet (fail)
        go_wp2_with fail
        go_roundw
        case rel => exact ⟨k + 1, by omega, by go_num, Lib.hid (Gr.trans HG4.out.1 ⟨rfl, rfl, rfl, Nat.le_refl _, fun _ _ => rfl⟩), Lib.hid (Gr.trans HG4.out.2 ⟨rfl, rfl, rfl, Nat.le_refl _, fun _ _ => rfl⟩)⟩
        case measure => simp [intOf]; omega
      · obtain rfl : k = KL := by omega
        have HG4 := hg
        clear hg hgW HM1 HM2 HG3
        go_wp2_with fail
        go_loopw [8] (fun i wr => ∃ k : Nat, k ≤ N ∧ i = .int .i64 k ∧ Hid (Gr w wr)) (fun i _ => N - (intOf i).toNat)
        case atStart => exact ⟨0, Nat.zero_le _, rfl, HG4⟩
        case round =>
          obtain ⟨j, hj, rfl, hgr⟩ := hrel
          have hc0 := (HRf.out.gr hgr.out).cells.1
          rw [← HN.out] at hc0
          by_cases hjl : j < N
          · have hjs : j < s.ls.length := by rw [← HN.out]; exact hjl
            have HRd := Lib.hid (Read_yes wr (HP.out.dk.gr hgr.out) j hjs)
            obtain ⟨S, hS⟩ : ∃ S, S = s.nw j := ⟨_, rfl⟩
            rw [← hS] at HRd
            have HSS := Lib.hid hS
            have HJ := Lib.hid hjs
            clear hS hjs
            go_wp2_with fail
            clear hc0
            refine HRd.out.mono ?_
            rintro e w7 ⟨rfl, g7⟩
            have HG7 := Lib.hid (Gr.trans hgr.out g7)
            have HZe := Lib.hid (Blk.new w7 TS (sec Sec.zero))
            have hz := zero_sec
            have hgg : Gr w7 ((w7.alloc (.cells (sec Sec.zero) TS)).setRow w7.heap.size (sec S)) := below_setRow (Gr.new w7 _) (Nat.le_refl _) _
            have HG8 := Lib.hid (Gr.trans HG7.out hgg)
            have HX8 := Lib.hid (HZe.out.row (sec S))
            clear g7 hgr HRd HG7 hgg
            go_wp2_with (refine wpList_store_sec rfl (.tmp 9) (.tmp 76) rfl HZe.out rfl rfl ?_)
            clear hz HZe
            have hg8 := HG8.out
            have hx8 := HX8.out
            clear HG8 HX8
            obtain ⟨n8, hn8⟩ : ∃ n8, w7.heap.size = n8 := ⟨_, rfl⟩
            generalize ((w7.alloc (.cells (sec Sec.zero) TS)).setRow w7.heap.size (sec S)) = W8 at *
            rw [hn8] at hx8 ⊢
            have HG8 := Lib.hid hg8
            have HX8 : Hid (∀ W, Gr W8 W → W.rangeAt n8 0 S.cells) := Lib.hid fun W h => (hx8.gr h).one
            have HRR : Hid (∀ W, Gr W8 W → Calls Try.prog 13 #[.pointer (some ⟨rb, 0, none⟩), .int .i64 (j : Int)] W fun e w' => e = .returned (.agg (sec S)) ∧ Gr W w') := Lib.hid fun W g => by
              rw [HSS.out]
              exact refRead_any W (HP.out.rf.gr (Gr.trans HG8.out g)) j HJ.out
            clear hg8 hx8 hn8 HSS HJ
            refine Flow.region (Sm3 rb n8 j S) (Gr W8) (fun _ _ => True) (by kernel_rfl) (by kernel_rfl) (fun _ _ _ _ h _ => h) ⟨rfl, rfl, rfl, Nat.le_refl _, fun _ _ => rfl⟩ ?steps ?fin
            case steps =>
              refine Flow.Steps.cons (fun a W hfr hinv hdep K hK => ?_) ?_
              · have s10 : a.tmps.getD 10 undef = .int .i64 0 := hfr.at 10 (by kernel_rfl)
                have t10 : a.tmps[10]?.getD undef = .int .i64 0 := by simpa using s10
                rw [if_pos (Flow.wanted_none rfl)]
                clear hfr hdep
                go_simp
                exact hK _ _ True.intro hinv (fun d hd => by cases hd; rfl)
              refine Flow.Steps.cons (fun a W hfr hinv hdep K hK => ?_) ?_
              · have s78 : a.tmps.getD 78 undef = .int .i64 0 := hdep 78 (by kernel_rfl)
                have t78 : a.tmps[78]?.getD undef = .int .i64 0 := by simpa using s78
                rw [if_pos (Flow.wanted_none rfl)]
                clear hfr hdep
                go_simp
                exact hK _ _ True.intro hinv (fun d hd => by cases hd; rfl)
              refine Flow.Steps.cons (fun a W hfr hinv hdep K hK => ?_) ?_
              · have s79 : a.tmps.getD 79 undef = .bool false := hdep 79 (by kernel_rfl)
                have t79 : a.tmps[79]?.getD undef = .bool false := by simpa using s79
                rw [if_pos (Flow.wanted_none rfl)]
                clear hfr hdep
                go_simp
                exact hK _ _ True.intro hinv (fun d hd => by cases hd; rfl)
              refine Flow.Steps.cons (fun a W hfr hinv hdep K hK => ?_) ?_
              · have sg : a.tmps.getD 80 undef = .bool false := hdep 80 (by kernel_rfl)
                have s9 : a.tmps.getD 9 undef = .pointer (some ⟨n8, 0, none⟩) := hfr.at 9 (by kernel_rfl)
                have t9 : a.tmps[9]?.getD undef = .pointer (some ⟨n8, 0, none⟩) := by simpa using s9
                rw [if_pos (Flow.wanted_yes 2 false 80 rfl (by kernel_rfl) sg)]
                clear hfr hdep
                refine wp_load_sec (.tmp 9) rfl (HX8.out W hinv) (by simpa [Act.eval] using s9) ?_
                exact hK _ _ True.intro hinv (fun d hd => by cases hd; rfl)
              refine Flow.Steps.cons (fun a W hfr hinv hdep K hK => ?_) ?_
              · have sg : a.tmps.getD 80 undef = .bool false := hdep 80 (by kernel_rfl)
                have s1 : a.tmps.getD 1 undef = .pointer (some ⟨rb, 0, none⟩) := hfr.at 1 (by kernel_rfl)
                have t1 : a.tmps[1]?.getD undef = .pointer (some ⟨rb, 0, none⟩) := by simpa using s1
                rw [if_pos (Flow.wanted_yes 2 false 80 rfl (by kernel_rfl) sg)]
                clear hfr hdep
                go_simp
                exact hK _ _ True.intro hinv (fun d hd => by cases hd; rfl)
              refine Flow.Steps.cons (fun a W hfr hinv hdep K hK => ?_) ?_
              · have sg : a.tmps.getD 80 undef = .bool false := hdep 80 (by kernel_rfl)
                have s8 : a.tmps.getD 8 undef = .int .i64 (j : Int) := hfr.at 8 (by kernel_rfl)
                have t8 : a.tmps[8]?.getD undef = .int .i64 (j : Int) := by simpa using s8
                rw [if_pos (Flow.wanted_yes 2 false 80 rfl (by kernel_rfl) sg)]
                clear hfr hdep
                go_simp
                exact hK _ _ True.intro hinv (fun d hd => by cases hd; rfl)
              refine Flow.Steps.cons (fun a W hfr hinv hdep K hK => ?_) ?_
              · have sg : a.tmps.getD 80 undef = .bool false := hdep 80 (by kernel_rfl)
                have s82 : a.tmps.getD 82 undef = .pointer (some ⟨rb, 0, none⟩) := hdep 82 (by kernel_rfl)
                have t82 : a.tmps[82]?.getD undef = .pointer (some ⟨rb, 0, none⟩) := by simpa using s82
                have s83 : a.tmps.getD 83 undef = .int .i64 (j : Int) := hdep 83 (by kernel_rfl)
                have t83 : a.tmps[83]?.getD undef = .int .i64 (j : Int) := by simpa using s83
                rw [if_pos (Flow.wanted_yes 2 false 80 rfl (by kernel_rfl) sg)]
                clear hfr hdep
                go_simp
                refine (HRR.out W hinv).mono ?_
                rintro e W' ⟨rfl, g1⟩
                exact hK _ _ True.intro (Gr.trans hinv g1) (fun d hd => by cases hd; rfl)
              refine Flow.Steps.cons (fun a W hfr hinv hdep K hK => ?_) ?_
              · have sg : a.tmps.getD 80 undef = .bool false := hdep 80 (by kernel_rfl)
                have s81 : a.tmps.getD 81 undef = .agg (sec S) := hdep 81 (by kernel_rfl)
                have t81 : a.tmps[81]?.getD undef = .agg (sec S) := by simpa using s81
                have s84 : a.tmps.getD 84 undef = .agg (sec S) := hdep 84 (by kernel_rfl)
                have t84 : a.tmps[84]?.getD undef = .agg (sec S) := by simpa using s84
                have hq := eqi_sec
                rw [if_pos (Flow.wanted_yes 2 false 80 rfl (by kernel_rfl) sg)]
                clear hfr hdep
                go_simp
                exact hK _ _ True.intro hinv (fun d hd => by cases hd; rfl)
              refine Flow.Steps.cons (fun a W hfr hinv hdep K hK => ?_) ?_
              · have s80 : a.tmps.getD 80 undef = .bool false := hdep 80 (by kernel_rfl)
                have t80 : a.tmps[80]?.getD undef = .bool false := by simpa using s80
                have s85 : a.tmps.getD 85 undef = .bool false := hdep 85 (by kernel_rfl)
                have t85 : a.tmps[85]?.getD undef = .bool false := by simpa using s85
                rw [if_pos (Flow.wanted_none rfl)]
                clear hfr hdep
                go_simp
                exact hK _ _ True.intro hinv (fun d hd => by cases hd; rfl)
              exact True.intro
            case fin =>
              intro a W9 hfr hfin hsl
              have s86 : a.tmps.getD 86 undef = .bool false := hsl 8 _ 86 rfl rfl
              have t86 : a.tmps[86]?.getD undef = .bool false := by simpa using s86
              clear hsl s86
              have e := Flow.frame hfr [78, 79, 80, 81, 82, 83, 84, 85, 86] (List.range 87) (by kernel_rfl) (by kernel_rfl)
              simp [List.range, List.range.loop] at e
              rw [t86] at e
              rw [e]
              clear e hfr t86
              have HGf := Lib.hid (Gr.trans HG8.out hfin)
              clear hfin HX8 HRR HG8
              rename_i K3 hK3
              refine hK3 _ _ ?_
              go_wp2
              go_roundw
              case rel => exact ⟨j + 1, by omega, by go_num, HGf⟩
              case measure => simp [intOf]; omega
          · obtain rfl : j = N := by omega
            have HGf := hgr
            clear hgr
            go_wp2_with fail
            go_ret
            exact ⟨rfl, HGf.out⟩

end Go.Proofs.Ytkoalabacfjgbaa
