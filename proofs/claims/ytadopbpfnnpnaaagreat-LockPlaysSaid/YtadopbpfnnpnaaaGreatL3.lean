/-
  Texts on locks, put together: Lk4.
-/
import Derived.Test.YtadopbpfnnpnaaaGreatL2
set_option linter.unusedVariables false
set_option linter.unusedSimpArgs false
/-
  The code's table of locks: may, Holds, Len, New.
-/
namespace Go.Proofs.YtadopbpfnnpnaaaGreat
open Go.RowKit Go.Maps

def SlMayA (_ : Nat) (b : Nat) (_ : Nat) (o : Nat) (_ : Nat) (_ : Option Addr) (_ : Nat) (_ : Option Nat) (m : Int) (_ : Int) (_ : Int) (_ : Int) (_ : Int) (_ : Int) (_ : Int) (_ : Nat) (_ : Bool) (slot : Nat) (v : Value) (_ : World) : Prop :=
  match slot with
  | 16 | 19 => v = .pointer (some ⟨b, 0, none⟩)
  | 17 | 18 | 22 | 23 | 37 | 38 | 8 => v = .bool false
  | 20 => v = .int .u64 (o : Int)
  | 21 => v = .int .i64 m
  | 29 => v = undef
  | _ => True

def SlMayB (t : Nat) (b : Nat) (_ : Nat) (o : Nat) (_ : Nat) (_ : Option Addr) (_ : Nat) (hp : Option Nat) (m : Int) (k1 : Int) (k2 : Int) (O1 : Int) (O2 : Int) (O3 : Int) (_ : Int) (_ : Nat) (_ : Bool) (slot : Nat) (v : Value) (_ : World) : Prop :=
  match slot with
  | 16 | 19 => v = .pointer (some ⟨b, 0, none⟩)
  | 17 | 18 => v = .bool false
  | 20 | 25 => v = .int .u64 (o : Int)
  | 21 => v = .int .i64 m
  | 22 | 23 | 28 | 29 | 36 | 37 | 38 | 8 => v = .bool true
  | 24 => v = .pointer (some ⟨t, 0, none⟩)
  | 26 => v = .agg #[.map hp, .int .i64 O1, .int .i64 O2, .int .i64 O3]
  | 27 => v = .agg #[.int .i64 k1, .int .i64 k2]
  | _ => True

def SlMayC (t : Nat) (b : Nat) (_ : Nat) (o : Nat) (N : Nat) (p : Option Addr) (cp : Nat) (hp : Option Nat) (m : Int) (k1 : Int) (k2 : Int) (O1 : Int) (O2 : Int) (O3 : Int) (_ : Int) (_ : Nat) (Z : Bool) (slot : Nat) (v : Value) (_ : World) : Prop :=
  match slot with
  | 16 | 19 | 30 | 31 => v = .pointer (some ⟨b, 0, none⟩)
  | 17 | 18 | 28 | 29 => v = .bool false
  | 20 | 25 => v = .int .u64 (o : Int)
  | 21 => v = .int .i64 m
  | 22 | 23 => v = .bool true
  | 24 => v = .pointer (some ⟨t, 0, none⟩)
  | 26 => v = .agg #[.map hp, .int .i64 O1, .int .i64 O2, .int .i64 O3]
  | 27 => v = .agg #[.int .i64 k1, .int .i64 k2]
  | 32 => v = .pointer (some ⟨b, 2, none⟩)
  | 33 => v = .slice p N cp
  | 34 => v = .int .i64 N
  | 35 | 36 | 37 | 38 | 8 => v = .bool Z
  | _ => True


section
variable {w : World} {t km om : Nat} {B : Tag → Option Nat} {T : Tb}
set_option maxRecDepth 100000 in
set_option maxHeartbeats 2000000 in
theorem may_any (h : TbAt w t km om B T) (ok : T.Ok) {o : Nat} (ho : KO.dom o) {k : Key} (hk : KL.dom k) (m : Int) :
    Calls Tryz.prog 36 #[.pointer (some ⟨t, 0, none⟩), .int .u64 (o : Int), kv k, .int .i64 m] w fun e w' => e = .returned (.bool (T.may o k m)) ∧ Gr w w' := by
  have g1 : Gr w (w.alloc (.cells #[.int .i64 k.1, .int .i64 k.2] TKey)) := (Gr.refl w).alloc (Nat.le_refl _) _
  have h1 := h.gr g1
  have c0 := h1.c3.1
  have hl := fun q => (h1.stays (w' := (w.alloc (.cells #[.int .i64 k.1, .int .i64 k.2] TKey)).drewN q) (fun _ _ _ => rfl)).look hk
  have HG := Lib.hid g1
  unfold Tb.may
  unfold kv at hl
  cases e : T.lk k with
  | none =>
    rw [(h.lk0 k e).1] at hl
    have hl' : ∀ q, (Instr.lookup TMk (.map (some km)) (.agg #[.int .i64 k.1, .int .i64 k.2]) false).run Tryz.prog ((w.alloc (.cells #[.int .i64 k.1, .int .i64 k.2] TKey)).drewN q) = .ok (.pointer none) ((w.alloc (.cells #[.int .i64 k.1, .int .i64 k.2] TKey)).drewN q) := hl
    clear h h1 ok e hl g1
    show Calls Tryz.prog 36 #[.pointer (some ⟨t, 0, none⟩), .int .u64 (o : Int), .agg #[.int .i64 k.1, .int .i64 k.2], .int .i64 m] w _
    go_enter Tryz.func36, Tryz.ntmps36
    go_wp2_with fail
    go_quiet (fail)
    go_wp2_with fail
    go_quiet (fail)
    go_wp2_with fail
    go_ret
    exact ⟨rfl, below_drewN (below_drewN HG.out _) _⟩
  | some l =>
    obtain ⟨b, n, v, e1, e2, e3, e4, e5⟩ := h1.lk k l e
    rw [e1] at hl
    have hl' : ∀ q, (Instr.lookup TMk (.map (some km)) (.agg #[.int .i64 k.1, .int .i64 k.2]) false).run Tryz.prog ((w.alloc (.cells #[.int .i64 k.1, .int .i64 k.2] TKey)).drewN q) = .ok (.pointer (some ⟨b, 0, none⟩)) ((w.alloc (.cells #[.int .i64 k.1, .int .i64 k.2] TKey)).drewN q) := hl
    clear hl
    obtain ⟨W0, hW0⟩ : ∃ W0, W0 = w.alloc (.cells #[.int .i64 k.1, .int .i64 k.2] TKey) := ⟨_, rfl⟩
    have b6 := (Blk.new w TKey #[.int .i64 k.1, .int .i64 k.2])
    show Calls Tryz.prog 36 #[.pointer (some ⟨t, 0, none⟩), .int .u64 (o : Int), .agg #[.int .i64 k.1, .int .i64 k.2], .int .i64 m] w fun e w' => e = .returned (.bool (l.fits o m && (decide (k ∈ (T.of o).ks) || decide ((l.line.length : Int) = 0)))) ∧ Gr w w'
    have HF := Lib.hid (fun W (g : Gr W0 W) => fits_any (e3.gr (hW0 ▸ g)) (e4.stays ((hW0 ▸ g : Gr _ W).block _ e4.lt)) (ok.hs k l e) ho m)
    have HO := Lib.hid (fun W (g : Gr W0 W) => of_any (h1.gr (hW0 ▸ g)) ho)
    have HA := Lib.hid (fun W (g : Gr W0 W) => has_any W (a := .int .i64 (T.of o).key.1) (b := .int .i64 (T.of o).key.2) (m := .int .i64 (T.of o).mode) rfl rfl rfl ((h1.hs o).gr (hW0 ▸ g)) hk)
    have HL := Lib.hid (fun W (g : Gr W0 W) => e3.gr (hW0 ▸ g))
    have HB := Lib.hid (fun W (g : Gr W0 W) => b6.gr (hW0 ▸ g))
    have HV := Lib.hid e5
    clear h h1 ok e e1 e2 e3 e4 e5 b6 g1
    rw [← hW0] at c0 HG hl'
    obtain ⟨X, hX⟩ : ∃ X, X = l.fits o m := ⟨_, rfl⟩
    obtain ⟨Y, hY⟩ : ∃ Y, Y = decide (k ∈ (T.of o).ks) := ⟨_, rfl⟩
    obtain ⟨Z, hZ⟩ : ∃ Z, Z = decide ((l.line.length : Int) = 0) := ⟨_, rfl⟩
    obtain ⟨p, N, cp, hv⟩ : ∃ p N cp, v = .slice p N cp ∧ Z = ((N : Int) == 0) := by
      rcases HV.out with ⟨r1, r2, r3⟩ | ⟨b', off, cap, cs, r1, r2, _⟩
      · refine ⟨none, 0, 0, r2, ?_⟩
        rw [hZ, r3]; rfl
      · refine ⟨_, l.line.length, cap, r2, ?_⟩
        rw [hZ]; rfl
    obtain ⟨rfl, hZN⟩ := hv
    rw [← hX, ← hY, ← hZ]
    rw [← hX] at HF
    rw [← hY] at HA
    have HZ := Lib.hid hZN.symm
    unfold ofV at HO
    unfold kv at HA
    obtain ⟨LM, hLM⟩ : ∃ LM, LM = l.mode := ⟨_, rfl⟩
    obtain ⟨O1, hO1⟩ : ∃ O1, O1 = (T.of o).key.1 := ⟨_, rfl⟩
    obtain ⟨O2, hO2⟩ : ∃ O2, O2 = (T.of o).key.2 := ⟨_, rfl⟩
    obtain ⟨O3, hO3⟩ : ∃ O3, O3 = (T.of o).mode := ⟨_, rfl⟩
    obtain ⟨hp, hhp⟩ : ∃ hp, hp = B (.pm o) := ⟨_, rfl⟩
    rw [← hO1, ← hO2, ← hO3, ← hhp] at HA HO
    obtain ⟨k1, hk1⟩ : ∃ x, x = k.1 := ⟨_, rfl⟩
    obtain ⟨k2, hk2⟩ : ∃ x, x = k.2 := ⟨_, rfl⟩
    rw [← hk1, ← hk2] at HA HB hW0 hl' ⊢
    rw [← hLM] at HL
    clear hX hY hZ hZN hLM hO1 hO2 hO3 HV ho hk hhp hk1 hk2
    have HGW : Hid (Gr w W0) := HG
    clear HG
    go_enter Tryz.func36, Tryz.ntmps36
    go_wp2_with fail
    rw [show (w.alloc (.cells #[.int .i64 k1, .int .i64 k2] 33)) = W0 from hW0.symm]
    have HW0 := Lib.hid hW0
    clear hW0
    obtain ⟨kb, hkb⟩ : ∃ kb, kb = w.heap.size := ⟨_, rfl⟩
    rw [← hkb]
    rw [← hkb] at HB
    have HKB := Lib.hid hkb
    clear hkb
    have x0 := (HB.out W0 (Gr.refl _)).cell 0
    have x1 := (HB.out W0 (Gr.refl _)).cell 1
    simp at x0 x1
    go_quiet (fail)
    rename_i nq
    cases X with
    | false =>
      go_wp2_with fail
      refine Flow.region (SlMayA t b kb o N p cp hp m k1 k2 O1 O2 O3 LM n Z) (Gr W0) (fun _ _ => True) (by kernel_rfl) (by kernel_rfl) (fun _ _ _ _ h _ => h) ⟨rfl, rfl, rfl, Nat.le_refl _, fun _ _ => rfl⟩ ?steps ?fin
      case steps =>
        refine Flow.Steps.cons (fun a W hfr hinv hdep K hK => ?_) ?_
        · have s9 : a.tmps.getD 9 undef = .pointer (some ⟨b, 0, none⟩) := hfr.at 9 (by kernel_rfl)
          have t9 : a.tmps[9]?.getD undef = .pointer (some ⟨b, 0, none⟩) := by simpa using s9
          rw [if_pos (Flow.wanted_none rfl)]
          clear hfr hdep
          go_simp
          exact hK _ _ True.intro hinv (fun d hd => by cases hd; trivial)
        refine Flow.Steps.cons (fun a W hfr hinv hdep K hK => ?_) ?_
        · have s16 : a.tmps.getD 16 undef = .pointer (some ⟨b, 0, none⟩) := hdep 16 (by kernel_rfl)
          have t16 : a.tmps[16]?.getD undef = .pointer (some ⟨b, 0, none⟩) := by simpa using s16
          rw [if_pos (Flow.wanted_none rfl)]
          clear hfr hdep
          go_simp
          exact hK _ _ True.intro hinv (fun d hd => by cases hd; trivial)
        refine Flow.Steps.cons (fun a W hfr hinv hdep K hK => ?_) ?_
        · have s17 : a.tmps.getD 17 undef = .bool false := hdep 17 (by kernel_rfl)
          have t17 : a.tmps[17]?.getD undef = .bool false := by simpa using s17
          rw [if_pos (Flow.wanted_none rfl)]
          clear hfr hdep
          go_simp
          exact hK _ _ True.intro hinv (fun d hd => by cases hd; trivial)
        refine Flow.Steps.cons (fun a W hfr hinv hdep K hK => ?_) ?_
        · have sg : a.tmps.getD 18 undef = .bool false := hdep 18 (by kernel_rfl)
          have s9 : a.tmps.getD 9 undef = .pointer (some ⟨b, 0, none⟩) := hfr.at 9 (by kernel_rfl)
          have t9 : a.tmps[9]?.getD undef = .pointer (some ⟨b, 0, none⟩) := by simpa using s9
          rw [if_pos (Flow.wanted_yes 2 false 18 rfl (by kernel_rfl) sg)]
          clear hfr hdep
          go_simp
          exact hK _ _ True.intro hinv (fun d hd => by cases hd; trivial)
        refine Flow.Steps.cons (fun a W hfr hinv hdep K hK => ?_) ?_
        · have sg : a.tmps.getD 18 undef = .bool false := hdep 18 (by kernel_rfl)
          have s1 : a.tmps.getD 1 undef = .int .u64 (o : Int) := hfr.at 1 (by kernel_rfl)
          have t1 : a.tmps[1]?.getD undef = .int .u64 (o : Int) := by simpa using s1
          rw [if_pos (Flow.wanted_yes 2 false 18 rfl (by kernel_rfl) sg)]
          clear hfr hdep
          go_simp
          exact hK _ _ True.intro hinv (fun d hd => by cases hd; trivial)
        refine Flow.Steps.cons (fun a W hfr hinv hdep K hK => ?_) ?_
        · have sg : a.tmps.getD 18 undef = .bool false := hdep 18 (by kernel_rfl)
          have s3 : a.tmps.getD 3 undef = .int .i64 m := hfr.at 3 (by kernel_rfl)
          have t3 : a.tmps[3]?.getD undef = .int .i64 m := by simpa using s3
          rw [if_pos (Flow.wanted_yes 2 false 18 rfl (by kernel_rfl) sg)]
          clear hfr hdep
          go_simp
          exact hK _ _ True.intro hinv (fun d hd => by cases hd; trivial)
        refine Flow.Steps.cons (fun a W hfr hinv hdep K hK => ?_) ?_
        · have sg : a.tmps.getD 18 undef = .bool false := hdep 18 (by kernel_rfl)
          have s19 : a.tmps.getD 19 undef = .pointer (some ⟨b, 0, none⟩) := hdep 19 (by kernel_rfl)
          have t19 : a.tmps[19]?.getD undef = .pointer (some ⟨b, 0, none⟩) := by simpa using s19
          have s20 : a.tmps.getD 20 undef = .int .u64 (o : Int) := hdep 20 (by kernel_rfl)
          have t20 : a.tmps[20]?.getD undef = .int .u64 (o : Int) := by simpa using s20
          have s21 : a.tmps.getD 21 undef = .int .i64 m := hdep 21 (by kernel_rfl)
          have t21 : a.tmps[21]?.getD undef = .int .i64 m := by simpa using s21
          rw [if_pos (Flow.wanted_yes 2 false 18 rfl (by kernel_rfl) sg)]
          clear hfr hdep
          go_simp
          refine (HF.out W hinv).mono ?_
          rintro e W' ⟨rfl, g1⟩
          exact hK _ _ True.intro (Gr.trans hinv g1) (fun d hd => by cases hd; trivial)
        refine Flow.Steps.cons (fun a W hfr hinv hdep K hK => ?_) ?_
        · have sg : a.tmps.getD 18 undef = .bool false := hdep 18 (by kernel_rfl)
          have s22 : a.tmps.getD 22 undef = .bool false := hdep 22 (by kernel_rfl)
          have t22 : a.tmps[22]?.getD undef = .bool false := by simpa using s22
          rw [if_pos (Flow.wanted_yes 2 false 18 rfl (by kernel_rfl) sg)]
          clear hfr hdep
          go_simp
          exact hK _ _ True.intro hinv (fun d hd => by cases hd; trivial)
        refine Flow.Steps.cons (fun a W hfr hinv hdep K hK => ?_) ?_
        · have sg : a.tmps.getD 23 undef = .bool !true := hdep 23 (by kernel_rfl)
          have s0 : a.tmps.getD 0 undef = .pointer (some ⟨t, 0, none⟩) := hfr.at 0 (by kernel_rfl)
          have t0 : a.tmps[0]?.getD undef = .pointer (some ⟨t, 0, none⟩) := by simpa using s0
          rw [if_neg (Flow.wanted_no 7 true 23 rfl (by kernel_rfl) sg)]
          clear hfr hdep
          exact hK _ _ True.intro hinv (fun d hd => by cases hd; trivial)
        refine Flow.Steps.cons (fun a W hfr hinv hdep K hK => ?_) ?_
        · have sg : a.tmps.getD 23 undef = .bool !true := hdep 23 (by kernel_rfl)
          have s1 : a.tmps.getD 1 undef = .int .u64 (o : Int) := hfr.at 1 (by kernel_rfl)
          have t1 : a.tmps[1]?.getD undef = .int .u64 (o : Int) := by simpa using s1
          rw [if_neg (Flow.wanted_no 7 true 23 rfl (by kernel_rfl) sg)]
          clear hfr hdep
          exact hK _ _ True.intro hinv (fun d hd => by cases hd; trivial)
        refine Flow.Steps.cons (fun a W hfr hinv hdep K hK => ?_) ?_
        · have sg : a.tmps.getD 23 undef = .bool !true := hdep 23 (by kernel_rfl)
          rw [if_neg (Flow.wanted_no 7 true 23 rfl (by kernel_rfl) sg)]
          clear hfr hdep
          exact hK _ _ True.intro hinv (fun d hd => by cases hd; trivial)
        refine Flow.Steps.cons (fun a W hfr hinv hdep K hK => ?_) ?_
        · have sg : a.tmps.getD 23 undef = .bool !true := hdep 23 (by kernel_rfl)
          have s6 : a.tmps.getD 6 undef = .pointer (some ⟨kb, 0, none⟩) := hfr.at 6 (by kernel_rfl)
          have t6 : a.tmps[6]?.getD undef = .pointer (some ⟨kb, 0, none⟩) := by simpa using s6
          have kc := (HB.out W hinv).cell 0; have kd := (HB.out W hinv).cell 1; have lc := (HL.out W hinv).cell 2; simp at kc kd lc
          rw [if_neg (Flow.wanted_no 7 true 23 rfl (by kernel_rfl) sg)]
          clear hfr hdep
          exact hK _ _ True.intro hinv (fun d hd => by cases hd; trivial)
        refine Flow.Steps.cons (fun a W hfr hinv hdep K hK => ?_) ?_
        · have sg : a.tmps.getD 23 undef = .bool !true := hdep 23 (by kernel_rfl)
          rw [if_neg (Flow.wanted_no 7 true 23 rfl (by kernel_rfl) sg)]
          clear hfr hdep
          exact hK _ _ True.intro hinv (fun d hd => by cases hd; trivial)
        refine Flow.Steps.cons (fun a W hfr hinv hdep K hK => ?_) ?_
        · have sg : a.tmps.getD 23 undef = .bool !true := hdep 23 (by kernel_rfl)
          rw [if_neg (Flow.wanted_no 7 true 23 rfl (by kernel_rfl) sg)]
          clear hfr hdep
          exact hK _ _ True.intro hinv (fun d hd => by cases hd; trivial)
        refine Flow.Steps.cons (fun a W hfr hinv hdep K hK => ?_) ?_
        · have sg : a.tmps.getD 29 undef = undef := hdep 29 (by kernel_rfl)
          have s9 : a.tmps.getD 9 undef = .pointer (some ⟨b, 0, none⟩) := hfr.at 9 (by kernel_rfl)
          have t9 : a.tmps[9]?.getD undef = .pointer (some ⟨b, 0, none⟩) := by simpa using s9
          rw [if_neg (Flow.wanted_undef 13 false 29 rfl (by kernel_rfl) sg)]
          clear hfr hdep
          exact hK _ _ True.intro hinv (fun d hd => by cases hd; trivial)
        refine Flow.Steps.cons (fun a W hfr hinv hdep K hK => ?_) ?_
        · have sg : a.tmps.getD 29 undef = undef := hdep 29 (by kernel_rfl)
          rw [if_neg (Flow.wanted_undef 13 false 29 rfl (by kernel_rfl) sg)]
          clear hfr hdep
          exact hK _ _ True.intro hinv (fun d hd => by cases hd; trivial)
        refine Flow.Steps.cons (fun a W hfr hinv hdep K hK => ?_) ?_
        · have sg : a.tmps.getD 29 undef = undef := hdep 29 (by kernel_rfl)
          rw [if_neg (Flow.wanted_undef 13 false 29 rfl (by kernel_rfl) sg)]
          clear hfr hdep
          exact hK _ _ True.intro hinv (fun d hd => by cases hd; trivial)
        refine Flow.Steps.cons (fun a W hfr hinv hdep K hK => ?_) ?_
        · have sg : a.tmps.getD 29 undef = undef := hdep 29 (by kernel_rfl)
          have kc := (HB.out W hinv).cell 0; have kd := (HB.out W hinv).cell 1; have lc := (HL.out W hinv).cell 2; simp at kc kd lc
          rw [if_neg (Flow.wanted_undef 13 false 29 rfl (by kernel_rfl) sg)]
          clear hfr hdep
          exact hK _ _ True.intro hinv (fun d hd => by cases hd; trivial)
        refine Flow.Steps.cons (fun a W hfr hinv hdep K hK => ?_) ?_
        · have sg : a.tmps.getD 29 undef = undef := hdep 29 (by kernel_rfl)
          rw [if_neg (Flow.wanted_undef 13 false 29 rfl (by kernel_rfl) sg)]
          clear hfr hdep
          exact hK _ _ True.intro hinv (fun d hd => by cases hd; trivial)
        refine Flow.Steps.cons (fun a W hfr hinv hdep K hK => ?_) ?_
        · have sg : a.tmps.getD 29 undef = undef := hdep 29 (by kernel_rfl)
          rw [if_neg (Flow.wanted_undef 13 false 29 rfl (by kernel_rfl) sg)]
          clear hfr hdep
          exact hK _ _ True.intro hinv (fun d hd => by cases hd; trivial)
        refine Flow.Steps.cons (fun a W hfr hinv hdep K hK => ?_) ?_
        · have sg : a.tmps.getD 23 undef = .bool !true := hdep 23 (by kernel_rfl)
          have s29 : a.tmps.getD 29 undef = undef := hdep 29 (by kernel_rfl)
          have t29 : a.tmps[29]?.getD undef = undef := by simpa using s29
          rw [if_neg (Flow.wanted_no 7 true 23 rfl (by kernel_rfl) sg)]
          clear hfr hdep
          exact hK _ _ True.intro hinv (fun d hd => by cases hd; trivial)
        refine Flow.Steps.cons (fun a W hfr hinv hdep K hK => ?_) ?_
        · have sg : a.tmps.getD 18 undef = .bool false := hdep 18 (by kernel_rfl)
          have s23 : a.tmps.getD 23 undef = .bool false := hdep 23 (by kernel_rfl)
          have t23 : a.tmps[23]?.getD undef = .bool false := by simpa using s23
          rw [if_pos (Flow.wanted_yes 2 false 18 rfl (by kernel_rfl) sg)]
          clear hfr hdep
          go_simp
          exact hK _ _ True.intro hinv (fun d hd => by cases hd; trivial)
        refine Flow.Steps.cons (fun a W hfr hinv hdep K hK => ?_) ?_
        · have s18 : a.tmps.getD 18 undef = .bool false := hdep 18 (by kernel_rfl)
          have t18 : a.tmps[18]?.getD undef = .bool false := by simpa using s18
          have s37 : a.tmps.getD 37 undef = .bool false := hdep 37 (by kernel_rfl)
          have t37 : a.tmps[37]?.getD undef = .bool false := by simpa using s37
          rw [if_pos (Flow.wanted_none rfl)]
          clear hfr hdep
          go_simp
          exact hK _ _ True.intro hinv (fun d hd => by cases hd; trivial)
        refine Flow.Steps.cons (fun a W hfr hinv hdep K hK => ?_) ?_
        · have s38 : a.tmps.getD 38 undef = .bool false := hdep 38 (by kernel_rfl)
          have t38 : a.tmps[38]?.getD undef = .bool false := by simpa using s38
          rw [if_pos (Flow.wanted_none rfl)]
          clear hfr hdep
          go_simp
          exact hK _ _ True.intro hinv (fun d hd => by cases hd; trivial)
        exact True.intro
      case fin =>
        intro a W hfr hfin hsl
        have s8 : a.tmps.getD 8 undef = .bool false := hsl 23 _ 8 rfl rfl
        have t8 : a.tmps[8]?.getD undef = .bool false := by simpa using s8
        have e := Flow.frame hfr [16, 17, 18, 19, 20, 21, 22, 23, 24, 25, 26, 27, 28, 29, 30, 31, 32, 33, 34, 35, 36, 37, 38, 8] (List.range 39) (by kernel_rfl) (by kernel_rfl)
        simp [List.range, List.range.loop] at e
        rw [t8] at e
        rw [e]
        clear e hfr hsl s8 t8
        rename_i K2 hK2
        refine hK2 _ _ ?_
        go_wp2_with fail
        go_ret
        exact ⟨rfl, Gr.trans HGW.out hfin⟩
    | true =>
      cases Y with
      | true =>
        go_wp2_with fail
        refine Flow.region (SlMayB t b kb o N p cp hp m k1 k2 O1 O2 O3 LM n Z) (Gr W0) (fun _ _ => True) (by kernel_rfl) (by kernel_rfl) (fun _ _ _ _ h _ => h) ⟨rfl, rfl, rfl, Nat.le_refl _, fun _ _ => rfl⟩ ?steps ?fin
        case steps =>
          refine Flow.Steps.cons (fun a W hfr hinv hdep K hK => ?_) ?_
          · have s9 : a.tmps.getD 9 undef = .pointer (some ⟨b, 0, none⟩) := hfr.at 9 (by kernel_rfl)
            have t9 : a.tmps[9]?.getD undef = .pointer (some ⟨b, 0, none⟩) := by simpa using s9
            rw [if_pos (Flow.wanted_none rfl)]
            clear hfr hdep
            go_simp
            exact hK _ _ True.intro hinv (fun d hd => by cases hd; trivial)
          refine Flow.Steps.cons (fun a W hfr hinv hdep K hK => ?_) ?_
          · have s16 : a.tmps.getD 16 undef = .pointer (some ⟨b, 0, none⟩) := hdep 16 (by kernel_rfl)
            have t16 : a.tmps[16]?.getD undef = .pointer (some ⟨b, 0, none⟩) := by simpa using s16
            rw [if_pos (Flow.wanted_none rfl)]
            clear hfr hdep
            go_simp
            exact hK _ _ True.intro hinv (fun d hd => by cases hd; trivial)
          refine Flow.Steps.cons (fun a W hfr hinv hdep K hK => ?_) ?_
          · have s17 : a.tmps.getD 17 undef = .bool false := hdep 17 (by kernel_rfl)
            have t17 : a.tmps[17]?.getD undef = .bool false := by simpa using s17
            rw [if_pos (Flow.wanted_none rfl)]
            clear hfr hdep
            go_simp
            exact hK _ _ True.intro hinv (fun d hd => by cases hd; trivial)
          refine Flow.Steps.cons (fun a W hfr hinv hdep K hK => ?_) ?_
          · have sg : a.tmps.getD 18 undef = .bool false := hdep 18 (by kernel_rfl)
            have s9 : a.tmps.getD 9 undef = .pointer (some ⟨b, 0, none⟩) := hfr.at 9 (by kernel_rfl)
            have t9 : a.tmps[9]?.getD undef = .pointer (some ⟨b, 0, none⟩) := by simpa using s9
            rw [if_pos (Flow.wanted_yes 2 false 18 rfl (by kernel_rfl) sg)]
            clear hfr hdep
            go_simp
            exact hK _ _ True.intro hinv (fun d hd => by cases hd; trivial)
          refine Flow.Steps.cons (fun a W hfr hinv hdep K hK => ?_) ?_
          · have sg : a.tmps.getD 18 undef = .bool false := hdep 18 (by kernel_rfl)
            have s1 : a.tmps.getD 1 undef = .int .u64 (o : Int) := hfr.at 1 (by kernel_rfl)
            have t1 : a.tmps[1]?.getD undef = .int .u64 (o : Int) := by simpa using s1
            rw [if_pos (Flow.wanted_yes 2 false 18 rfl (by kernel_rfl) sg)]
            clear hfr hdep
            go_simp
            exact hK _ _ True.intro hinv (fun d hd => by cases hd; trivial)
          refine Flow.Steps.cons (fun a W hfr hinv hdep K hK => ?_) ?_
          · have sg : a.tmps.getD 18 undef = .bool false := hdep 18 (by kernel_rfl)
            have s3 : a.tmps.getD 3 undef = .int .i64 m := hfr.at 3 (by kernel_rfl)
            have t3 : a.tmps[3]?.getD undef = .int .i64 m := by simpa using s3
            rw [if_pos (Flow.wanted_yes 2 false 18 rfl (by kernel_rfl) sg)]
            clear hfr hdep
            go_simp
            exact hK _ _ True.intro hinv (fun d hd => by cases hd; trivial)
          refine Flow.Steps.cons (fun a W hfr hinv hdep K hK => ?_) ?_
          · have sg : a.tmps.getD 18 undef = .bool false := hdep 18 (by kernel_rfl)
            have s19 : a.tmps.getD 19 undef = .pointer (some ⟨b, 0, none⟩) := hdep 19 (by kernel_rfl)
            have t19 : a.tmps[19]?.getD undef = .pointer (some ⟨b, 0, none⟩) := by simpa using s19
            have s20 : a.tmps.getD 20 undef = .int .u64 (o : Int) := hdep 20 (by kernel_rfl)
            have t20 : a.tmps[20]?.getD undef = .int .u64 (o : Int) := by simpa using s20
            have s21 : a.tmps.getD 21 undef = .int .i64 m := hdep 21 (by kernel_rfl)
            have t21 : a.tmps[21]?.getD undef = .int .i64 m := by simpa using s21
            rw [if_pos (Flow.wanted_yes 2 false 18 rfl (by kernel_rfl) sg)]
            clear hfr hdep
            go_simp
            refine (HF.out W hinv).mono ?_
            rintro e W' ⟨rfl, g1⟩
            exact hK _ _ True.intro (Gr.trans hinv g1) (fun d hd => by cases hd; trivial)
          refine Flow.Steps.cons (fun a W hfr hinv hdep K hK => ?_) ?_
          · have sg : a.tmps.getD 18 undef = .bool false := hdep 18 (by kernel_rfl)
            have s22 : a.tmps.getD 22 undef = .bool true := hdep 22 (by kernel_rfl)
            have t22 : a.tmps[22]?.getD undef = .bool true := by simpa using s22
            rw [if_pos (Flow.wanted_yes 2 false 18 rfl (by kernel_rfl) sg)]
            clear hfr hdep
            go_simp
            exact hK _ _ True.intro hinv (fun d hd => by cases hd; trivial)
          refine Flow.Steps.cons (fun a W hfr hinv hdep K hK => ?_) ?_
          · have sg : a.tmps.getD 23 undef = .bool true := hdep 23 (by kernel_rfl)
            have s0 : a.tmps.getD 0 undef = .pointer (some ⟨t, 0, none⟩) := hfr.at 0 (by kernel_rfl)
            have t0 : a.tmps[0]?.getD undef = .pointer (some ⟨t, 0, none⟩) := by simpa using s0
            rw [if_pos (Flow.wanted_yes 7 true 23 rfl (by kernel_rfl) sg)]
            clear hfr hdep
            go_simp
            exact hK _ _ True.intro hinv (fun d hd => by cases hd; trivial)
          refine Flow.Steps.cons (fun a W hfr hinv hdep K hK => ?_) ?_
          · have sg : a.tmps.getD 23 undef = .bool true := hdep 23 (by kernel_rfl)
            have s1 : a.tmps.getD 1 undef = .int .u64 (o : Int) := hfr.at 1 (by kernel_rfl)
            have t1 : a.tmps[1]?.getD undef = .int .u64 (o : Int) := by simpa using s1
            rw [if_pos (Flow.wanted_yes 7 true 23 rfl (by kernel_rfl) sg)]
            clear hfr hdep
            go_simp
            exact hK _ _ True.intro hinv (fun d hd => by cases hd; trivial)
          refine Flow.Steps.cons (fun a W hfr hinv hdep K hK => ?_) ?_
          · have sg : a.tmps.getD 23 undef = .bool true := hdep 23 (by kernel_rfl)
            have s24 : a.tmps.getD 24 undef = .pointer (some ⟨t, 0, none⟩) := hdep 24 (by kernel_rfl)
            have t24 : a.tmps[24]?.getD undef = .pointer (some ⟨t, 0, none⟩) := by simpa using s24
            have s25 : a.tmps.getD 25 undef = .int .u64 (o : Int) := hdep 25 (by kernel_rfl)
            have t25 : a.tmps[25]?.getD undef = .int .u64 (o : Int) := by simpa using s25
            rw [if_pos (Flow.wanted_yes 7 true 23 rfl (by kernel_rfl) sg)]
            clear hfr hdep
            go_simp
            refine (HO.out W hinv).mono ?_
            rintro e W' ⟨rfl, g1⟩
            exact hK _ _ True.intro (Gr.trans hinv g1) (fun d hd => by cases hd; trivial)
          refine Flow.Steps.cons (fun a W hfr hinv hdep K hK => ?_) ?_
          · have sg : a.tmps.getD 23 undef = .bool true := hdep 23 (by kernel_rfl)
            have s6 : a.tmps.getD 6 undef = .pointer (some ⟨kb, 0, none⟩) := hfr.at 6 (by kernel_rfl)
            have t6 : a.tmps[6]?.getD undef = .pointer (some ⟨kb, 0, none⟩) := by simpa using s6
            have kc := (HB.out W hinv).cell 0; have kd := (HB.out W hinv).cell 1; have lc := (HL.out W hinv).cell 2; simp at kc kd lc
            rw [if_pos (Flow.wanted_yes 7 true 23 rfl (by kernel_rfl) sg)]
            clear hfr hdep
            go_simp
            exact hK _ _ True.intro hinv (fun d hd => by cases hd; trivial)
          refine Flow.Steps.cons (fun a W hfr hinv hdep K hK => ?_) ?_
          · have sg : a.tmps.getD 23 undef = .bool true := hdep 23 (by kernel_rfl)
            have s26 : a.tmps.getD 26 undef = .agg #[.map hp, .int .i64 O1, .int .i64 O2, .int .i64 O3] := hdep 26 (by kernel_rfl)
            have t26 : a.tmps[26]?.getD undef = .agg #[.map hp, .int .i64 O1, .int .i64 O2, .int .i64 O3] := by simpa using s26
            have s27 : a.tmps.getD 27 undef = .agg #[.int .i64 k1, .int .i64 k2] := hdep 27 (by kernel_rfl)
            have t27 : a.tmps[27]?.getD undef = .agg #[.int .i64 k1, .int .i64 k2] := by simpa using s27
            rw [if_pos (Flow.wanted_yes 7 true 23 rfl (by kernel_rfl) sg)]
            clear hfr hdep
            go_simp
            refine (HA.out W hinv).mono ?_
            rintro e W' ⟨rfl, g1⟩
            exact hK _ _ True.intro (Gr.trans hinv g1) (fun d hd => by cases hd; trivial)
          refine Flow.Steps.cons (fun a W hfr hinv hdep K hK => ?_) ?_
          · have sg : a.tmps.getD 23 undef = .bool true := hdep 23 (by kernel_rfl)
            have s28 : a.tmps.getD 28 undef = .bool true := hdep 28 (by kernel_rfl)
            have t28 : a.tmps[28]?.getD undef = .bool true := by simpa using s28
            rw [if_pos (Flow.wanted_yes 7 true 23 rfl (by kernel_rfl) sg)]
            clear hfr hdep
            go_simp
            exact hK _ _ True.intro hinv (fun d hd => by cases hd; trivial)
          refine Flow.Steps.cons (fun a W hfr hinv hdep K hK => ?_) ?_
          · have sg : a.tmps.getD 29 undef = .bool !false := hdep 29 (by kernel_rfl)
            have s9 : a.tmps.getD 9 undef = .pointer (some ⟨b, 0, none⟩) := hfr.at 9 (by kernel_rfl)
            have t9 : a.tmps[9]?.getD undef = .pointer (some ⟨b, 0, none⟩) := by simpa using s9
            rw [if_neg (Flow.wanted_no 13 false 29 rfl (by kernel_rfl) sg)]
            clear hfr hdep
            exact hK _ _ True.intro hinv (fun d hd => by cases hd; trivial)
          refine Flow.Steps.cons (fun a W hfr hinv hdep K hK => ?_) ?_
          · have sg : a.tmps.getD 29 undef = .bool !false := hdep 29 (by kernel_rfl)
            rw [if_neg (Flow.wanted_no 13 false 29 rfl (by kernel_rfl) sg)]
            clear hfr hdep
            exact hK _ _ True.intro hinv (fun d hd => by cases hd; trivial)
          refine Flow.Steps.cons (fun a W hfr hinv hdep K hK => ?_) ?_
          · have sg : a.tmps.getD 29 undef = .bool !false := hdep 29 (by kernel_rfl)
            rw [if_neg (Flow.wanted_no 13 false 29 rfl (by kernel_rfl) sg)]
            clear hfr hdep
            exact hK _ _ True.intro hinv (fun d hd => by cases hd; trivial)
          refine Flow.Steps.cons (fun a W hfr hinv hdep K hK => ?_) ?_
          · have sg : a.tmps.getD 29 undef = .bool !false := hdep 29 (by kernel_rfl)
            have kc := (HB.out W hinv).cell 0; have kd := (HB.out W hinv).cell 1; have lc := (HL.out W hinv).cell 2; simp at kc kd lc
            rw [if_neg (Flow.wanted_no 13 false 29 rfl (by kernel_rfl) sg)]
            clear hfr hdep
            exact hK _ _ True.intro hinv (fun d hd => by cases hd; trivial)
          refine Flow.Steps.cons (fun a W hfr hinv hdep K hK => ?_) ?_
          · have sg : a.tmps.getD 29 undef = .bool !false := hdep 29 (by kernel_rfl)
            rw [if_neg (Flow.wanted_no 13 false 29 rfl (by kernel_rfl) sg)]
            clear hfr hdep
            exact hK _ _ True.intro hinv (fun d hd => by cases hd; trivial)
          refine Flow.Steps.cons (fun a W hfr hinv hdep K hK => ?_) ?_
          · have sg : a.tmps.getD 29 undef = .bool !false := hdep 29 (by kernel_rfl)
            rw [if_neg (Flow.wanted_no 13 false 29 rfl (by kernel_rfl) sg)]
            clear hfr hdep
            exact hK _ _ True.intro hinv (fun d hd => by cases hd; trivial)
          refine Flow.Steps.cons (fun a W hfr hinv hdep K hK => ?_) ?_
          · have sg : a.tmps.getD 23 undef = .bool true := hdep 23 (by kernel_rfl)
            have s29 : a.tmps.getD 29 undef = .bool true := hdep 29 (by kernel_rfl)
            have t29 : a.tmps[29]?.getD undef = .bool true := by simpa using s29
            rw [if_pos (Flow.wanted_yes 7 true 23 rfl (by kernel_rfl) sg)]
            clear hfr hdep
            go_simp
            exact hK _ _ True.intro hinv (fun d hd => by cases hd; trivial)
          refine Flow.Steps.cons (fun a W hfr hinv hdep K hK => ?_) ?_
          · have sg : a.tmps.getD 18 undef = .bool false := hdep 18 (by kernel_rfl)
            have s23 : a.tmps.getD 23 undef = .bool true := hdep 23 (by kernel_rfl)
            have t23 : a.tmps[23]?.getD undef = .bool true := by simpa using s23
            have s36 : a.tmps.getD 36 undef = .bool true := hdep 36 (by kernel_rfl)
            have t36 : a.tmps[36]?.getD undef = .bool true := by simpa using s36
            rw [if_pos (Flow.wanted_yes 2 false 18 rfl (by kernel_rfl) sg)]
            clear hfr hdep
            go_simp
            exact hK _ _ True.intro hinv (fun d hd => by cases hd; trivial)
          refine Flow.Steps.cons (fun a W hfr hinv hdep K hK => ?_) ?_
          · have s18 : a.tmps.getD 18 undef = .bool false := hdep 18 (by kernel_rfl)
            have t18 : a.tmps[18]?.getD undef = .bool false := by simpa using s18
            have s37 : a.tmps.getD 37 undef = .bool true := hdep 37 (by kernel_rfl)
            have t37 : a.tmps[37]?.getD undef = .bool true := by simpa using s37
            rw [if_pos (Flow.wanted_none rfl)]
            clear hfr hdep
            go_simp
            exact hK _ _ True.intro hinv (fun d hd => by cases hd; trivial)
          refine Flow.Steps.cons (fun a W hfr hinv hdep K hK => ?_) ?_
          · have s38 : a.tmps.getD 38 undef = .bool true := hdep 38 (by kernel_rfl)
            have t38 : a.tmps[38]?.getD undef = .bool true := by simpa using s38
            rw [if_pos (Flow.wanted_none rfl)]
            clear hfr hdep
            go_simp
            exact hK _ _ True.intro hinv (fun d hd => by cases hd; trivial)
          exact True.intro
        case fin =>
          intro a W hfr hfin hsl
          have s8 : a.tmps.getD 8 undef = .bool true := hsl 23 _ 8 rfl rfl
          have t8 : a.tmps[8]?.getD undef = .bool true := by simpa using s8
          have e := Flow.frame hfr [16, 17, 18, 19, 20, 21, 22, 23, 24, 25, 26, 27, 28, 29, 30, 31, 32, 33, 34, 35, 36, 37, 38, 8] (List.range 39) (by kernel_rfl) (by kernel_rfl)
          simp [List.range, List.range.loop] at e
          rw [t8] at e
          rw [e]
          clear e hfr hsl s8 t8
          rename_i K2 hK2
          refine hK2 _ _ ?_
          go_wp2_with fail
          go_ret
          exact ⟨rfl, Gr.trans HGW.out hfin⟩
      | false =>
        go_wp2_with fail
        refine Flow.region (SlMayC t b kb o N p cp hp m k1 k2 O1 O2 O3 LM n Z) (Gr W0) (fun _ _ => True) (by kernel_rfl) (by kernel_rfl) (fun _ _ _ _ h _ => h) ⟨rfl, rfl, rfl, Nat.le_refl _, fun _ _ => rfl⟩ ?steps ?fin
        case steps =>
          refine Flow.Steps.cons (fun a W hfr hinv hdep K hK => ?_) ?_
          · have s9 : a.tmps.getD 9 undef = .pointer (some ⟨b, 0, none⟩) := hfr.at 9 (by kernel_rfl)
            have t9 : a.tmps[9]?.getD undef = .pointer (some ⟨b, 0, none⟩) := by simpa using s9
            rw [if_pos (Flow.wanted_none rfl)]
            clear hfr hdep
            go_simp
            exact hK _ _ True.intro hinv (fun d hd => by cases hd; trivial)
          refine Flow.Steps.cons (fun a W hfr hinv hdep K hK => ?_) ?_
          · have s16 : a.tmps.getD 16 undef = .pointer (some ⟨b, 0, none⟩) := hdep 16 (by kernel_rfl)
            have t16 : a.tmps[16]?.getD undef = .pointer (some ⟨b, 0, none⟩) := by simpa using s16
            rw [if_pos (Flow.wanted_none rfl)]
            clear hfr hdep
            go_simp
            exact hK _ _ True.intro hinv (fun d hd => by cases hd; trivial)
          refine Flow.Steps.cons (fun a W hfr hinv hdep K hK => ?_) ?_
          · have s17 : a.tmps.getD 17 undef = .bool false := hdep 17 (by kernel_rfl)
            have t17 : a.tmps[17]?.getD undef = .bool false := by simpa using s17
            rw [if_pos (Flow.wanted_none rfl)]
            clear hfr hdep
            go_simp
            exact hK _ _ True.intro hinv (fun d hd => by cases hd; trivial)
          refine Flow.Steps.cons (fun a W hfr hinv hdep K hK => ?_) ?_
          · have sg : a.tmps.getD 18 undef = .bool false := hdep 18 (by kernel_rfl)
            have s9 : a.tmps.getD 9 undef = .pointer (some ⟨b, 0, none⟩) := hfr.at 9 (by kernel_rfl)
            have t9 : a.tmps[9]?.getD undef = .pointer (some ⟨b, 0, none⟩) := by simpa using s9
            rw [if_pos (Flow.wanted_yes 2 false 18 rfl (by kernel_rfl) sg)]
            clear hfr hdep
            go_simp
            exact hK _ _ True.intro hinv (fun d hd => by cases hd; trivial)
          refine Flow.Steps.cons (fun a W hfr hinv hdep K hK => ?_) ?_
          · have sg : a.tmps.getD 18 undef = .bool false := hdep 18 (by kernel_rfl)
            have s1 : a.tmps.getD 1 undef = .int .u64 (o : Int) := hfr.at 1 (by kernel_rfl)
            have t1 : a.tmps[1]?.getD undef = .int .u64 (o : Int) := by simpa using s1
            rw [if_pos (Flow.wanted_yes 2 false 18 rfl (by kernel_rfl) sg)]
            clear hfr hdep
            go_simp
            exact hK _ _ True.intro hinv (fun d hd => by cases hd; trivial)
          refine Flow.Steps.cons (fun a W hfr hinv hdep K hK => ?_) ?_
          · have sg : a.tmps.getD 18 undef = .bool false := hdep 18 (by kernel_rfl)
            have s3 : a.tmps.getD 3 undef = .int .i64 m := hfr.at 3 (by kernel_rfl)
            have t3 : a.tmps[3]?.getD undef = .int .i64 m := by simpa using s3
            rw [if_pos (Flow.wanted_yes 2 false 18 rfl (by kernel_rfl) sg)]
            clear hfr hdep
            go_simp
            exact hK _ _ True.intro hinv (fun d hd => by cases hd; trivial)
          refine Flow.Steps.cons (fun a W hfr hinv hdep K hK => ?_) ?_
          · have sg : a.tmps.getD 18 undef = .bool false := hdep 18 (by kernel_rfl)
            have s19 : a.tmps.getD 19 undef = .pointer (some ⟨b, 0, none⟩) := hdep 19 (by kernel_rfl)
            have t19 : a.tmps[19]?.getD undef = .pointer (some ⟨b, 0, none⟩) := by simpa using s19
            have s20 : a.tmps.getD 20 undef = .int .u64 (o : Int) := hdep 20 (by kernel_rfl)
            have t20 : a.tmps[20]?.getD undef = .int .u64 (o : Int) := by simpa using s20
            have s21 : a.tmps.getD 21 undef = .int .i64 m := hdep 21 (by kernel_rfl)
            have t21 : a.tmps[21]?.getD undef = .int .i64 m := by simpa using s21
            rw [if_pos (Flow.wanted_yes 2 false 18 rfl (by kernel_rfl) sg)]
            clear hfr hdep
            go_simp
            refine (HF.out W hinv).mono ?_
            rintro e W' ⟨rfl, g1⟩
            exact hK _ _ True.intro (Gr.trans hinv g1) (fun d hd => by cases hd; trivial)
          refine Flow.Steps.cons (fun a W hfr hinv hdep K hK => ?_) ?_
          · have sg : a.tmps.getD 18 undef = .bool false := hdep 18 (by kernel_rfl)
            have s22 : a.tmps.getD 22 undef = .bool true := hdep 22 (by kernel_rfl)
            have t22 : a.tmps[22]?.getD undef = .bool true := by simpa using s22
            rw [if_pos (Flow.wanted_yes 2 false 18 rfl (by kernel_rfl) sg)]
            clear hfr hdep
            go_simp
            exact hK _ _ True.intro hinv (fun d hd => by cases hd; trivial)
          refine Flow.Steps.cons (fun a W hfr hinv hdep K hK => ?_) ?_
          · have sg : a.tmps.getD 23 undef = .bool true := hdep 23 (by kernel_rfl)
            have s0 : a.tmps.getD 0 undef = .pointer (some ⟨t, 0, none⟩) := hfr.at 0 (by kernel_rfl)
            have t0 : a.tmps[0]?.getD undef = .pointer (some ⟨t, 0, none⟩) := by simpa using s0
            rw [if_pos (Flow.wanted_yes 7 true 23 rfl (by kernel_rfl) sg)]
            clear hfr hdep
            go_simp
            exact hK _ _ True.intro hinv (fun d hd => by cases hd; trivial)
          refine Flow.Steps.cons (fun a W hfr hinv hdep K hK => ?_) ?_
          · have sg : a.tmps.getD 23 undef = .bool true := hdep 23 (by kernel_rfl)
            have s1 : a.tmps.getD 1 undef = .int .u64 (o : Int) := hfr.at 1 (by kernel_rfl)
            have t1 : a.tmps[1]?.getD undef = .int .u64 (o : Int) := by simpa using s1
            rw [if_pos (Flow.wanted_yes 7 true 23 rfl (by kernel_rfl) sg)]
            clear hfr hdep
            go_simp
            exact hK _ _ True.intro hinv (fun d hd => by cases hd; trivial)
          refine Flow.Steps.cons (fun a W hfr hinv hdep K hK => ?_) ?_
          · have sg : a.tmps.getD 23 undef = .bool true := hdep 23 (by kernel_rfl)
            have s24 : a.tmps.getD 24 undef = .pointer (some ⟨t, 0, none⟩) := hdep 24 (by kernel_rfl)
            have t24 : a.tmps[24]?.getD undef = .pointer (some ⟨t, 0, none⟩) := by simpa using s24
            have s25 : a.tmps.getD 25 undef = .int .u64 (o : Int) := hdep 25 (by kernel_rfl)
            have t25 : a.tmps[25]?.getD undef = .int .u64 (o : Int) := by simpa using s25
            rw [if_pos (Flow.wanted_yes 7 true 23 rfl (by kernel_rfl) sg)]
            clear hfr hdep
            go_simp
            refine (HO.out W hinv).mono ?_
            rintro e W' ⟨rfl, g1⟩
            exact hK _ _ True.intro (Gr.trans hinv g1) (fun d hd => by cases hd; trivial)
          refine Flow.Steps.cons (fun a W hfr hinv hdep K hK => ?_) ?_
          · have sg : a.tmps.getD 23 undef = .bool true := hdep 23 (by kernel_rfl)
            have s6 : a.tmps.getD 6 undef = .pointer (some ⟨kb, 0, none⟩) := hfr.at 6 (by kernel_rfl)
            have t6 : a.tmps[6]?.getD undef = .pointer (some ⟨kb, 0, none⟩) := by simpa using s6
            have kc := (HB.out W hinv).cell 0; have kd := (HB.out W hinv).cell 1; have lc := (HL.out W hinv).cell 2; simp at kc kd lc
            rw [if_pos (Flow.wanted_yes 7 true 23 rfl (by kernel_rfl) sg)]
            clear hfr hdep
            go_simp
            exact hK _ _ True.intro hinv (fun d hd => by cases hd; trivial)
          refine Flow.Steps.cons (fun a W hfr hinv hdep K hK => ?_) ?_
          · have sg : a.tmps.getD 23 undef = .bool true := hdep 23 (by kernel_rfl)
            have s26 : a.tmps.getD 26 undef = .agg #[.map hp, .int .i64 O1, .int .i64 O2, .int .i64 O3] := hdep 26 (by kernel_rfl)
            have t26 : a.tmps[26]?.getD undef = .agg #[.map hp, .int .i64 O1, .int .i64 O2, .int .i64 O3] := by simpa using s26
            have s27 : a.tmps.getD 27 undef = .agg #[.int .i64 k1, .int .i64 k2] := hdep 27 (by kernel_rfl)
            have t27 : a.tmps[27]?.getD undef = .agg #[.int .i64 k1, .int .i64 k2] := by simpa using s27
            rw [if_pos (Flow.wanted_yes 7 true 23 rfl (by kernel_rfl) sg)]
            clear hfr hdep
            go_simp
            refine (HA.out W hinv).mono ?_
            rintro e W' ⟨rfl, g1⟩
            exact hK _ _ True.intro (Gr.trans hinv g1) (fun d hd => by cases hd; trivial)
          refine Flow.Steps.cons (fun a W hfr hinv hdep K hK => ?_) ?_
          · have sg : a.tmps.getD 23 undef = .bool true := hdep 23 (by kernel_rfl)
            have s28 : a.tmps.getD 28 undef = .bool false := hdep 28 (by kernel_rfl)
            have t28 : a.tmps[28]?.getD undef = .bool false := by simpa using s28
            rw [if_pos (Flow.wanted_yes 7 true 23 rfl (by kernel_rfl) sg)]
            clear hfr hdep
            go_simp
            exact hK _ _ True.intro hinv (fun d hd => by cases hd; trivial)
          refine Flow.Steps.cons (fun a W hfr hinv hdep K hK => ?_) ?_
          · have sg : a.tmps.getD 29 undef = .bool false := hdep 29 (by kernel_rfl)
            have s9 : a.tmps.getD 9 undef = .pointer (some ⟨b, 0, none⟩) := hfr.at 9 (by kernel_rfl)
            have t9 : a.tmps[9]?.getD undef = .pointer (some ⟨b, 0, none⟩) := by simpa using s9
            rw [if_pos (Flow.wanted_yes 13 false 29 rfl (by kernel_rfl) sg)]
            clear hfr hdep
            go_simp
            exact hK _ _ True.intro hinv (fun d hd => by cases hd; trivial)
          refine Flow.Steps.cons (fun a W hfr hinv hdep K hK => ?_) ?_
          · have sg : a.tmps.getD 29 undef = .bool false := hdep 29 (by kernel_rfl)
            have s30 : a.tmps.getD 30 undef = .pointer (some ⟨b, 0, none⟩) := hdep 30 (by kernel_rfl)
            have t30 : a.tmps[30]?.getD undef = .pointer (some ⟨b, 0, none⟩) := by simpa using s30
            rw [if_pos (Flow.wanted_yes 13 false 29 rfl (by kernel_rfl) sg)]
            clear hfr hdep
            go_simp
            exact hK _ _ True.intro hinv (fun d hd => by cases hd; trivial)
          refine Flow.Steps.cons (fun a W hfr hinv hdep K hK => ?_) ?_
          · have sg : a.tmps.getD 29 undef = .bool false := hdep 29 (by kernel_rfl)
            have s31 : a.tmps.getD 31 undef = .pointer (some ⟨b, 0, none⟩) := hdep 31 (by kernel_rfl)
            have t31 : a.tmps[31]?.getD undef = .pointer (some ⟨b, 0, none⟩) := by simpa using s31
            rw [if_pos (Flow.wanted_yes 13 false 29 rfl (by kernel_rfl) sg)]
            clear hfr hdep
            go_simp
            exact hK _ _ True.intro hinv (fun d hd => by cases hd; trivial)
          refine Flow.Steps.cons (fun a W hfr hinv hdep K hK => ?_) ?_
          · have sg : a.tmps.getD 29 undef = .bool false := hdep 29 (by kernel_rfl)
            have s32 : a.tmps.getD 32 undef = .pointer (some ⟨b, 2, none⟩) := hdep 32 (by kernel_rfl)
            have t32 : a.tmps[32]?.getD undef = .pointer (some ⟨b, 2, none⟩) := by simpa using s32
            have kc := (HB.out W hinv).cell 0; have kd := (HB.out W hinv).cell 1; have lc := (HL.out W hinv).cell 2; simp at kc kd lc
            rw [if_pos (Flow.wanted_yes 13 false 29 rfl (by kernel_rfl) sg)]
            clear hfr hdep
            go_simp
            exact hK _ _ True.intro hinv (fun d hd => by cases hd; trivial)
          refine Flow.Steps.cons (fun a W hfr hinv hdep K hK => ?_) ?_
          · have sg : a.tmps.getD 29 undef = .bool false := hdep 29 (by kernel_rfl)
            have s33 : a.tmps.getD 33 undef = .slice p N cp := hdep 33 (by kernel_rfl)
            have t33 : a.tmps[33]?.getD undef = .slice p N cp := by simpa using s33
            rw [if_pos (Flow.wanted_yes 13 false 29 rfl (by kernel_rfl) sg)]
            clear hfr hdep
            go_simp
            exact hK _ _ True.intro hinv (fun d hd => by cases hd; trivial)
          refine Flow.Steps.cons (fun a W hfr hinv hdep K hK => ?_) ?_
          · have sg : a.tmps.getD 29 undef = .bool false := hdep 29 (by kernel_rfl)
            have s34 : a.tmps.getD 34 undef = .int .i64 N := hdep 34 (by kernel_rfl)
            have t34 : a.tmps[34]?.getD undef = .int .i64 N := by simpa using s34
            have hz := HZ.out
            rw [if_pos (Flow.wanted_yes 13 false 29 rfl (by kernel_rfl) sg)]
            clear hfr hdep
            go_simp
            exact hK _ _ True.intro hinv (fun d hd => by cases hd; trivial)
          refine Flow.Steps.cons (fun a W hfr hinv hdep K hK => ?_) ?_
          · have sg : a.tmps.getD 23 undef = .bool true := hdep 23 (by kernel_rfl)
            have s29 : a.tmps.getD 29 undef = .bool false := hdep 29 (by kernel_rfl)
            have t29 : a.tmps[29]?.getD undef = .bool false := by simpa using s29
            have s35 : a.tmps.getD 35 undef = .bool Z := hdep 35 (by kernel_rfl)
            have t35 : a.tmps[35]?.getD undef = .bool Z := by simpa using s35
            rw [if_pos (Flow.wanted_yes 7 true 23 rfl (by kernel_rfl) sg)]
            clear hfr hdep
            go_simp
            exact hK _ _ True.intro hinv (fun d hd => by cases hd; trivial)
          refine Flow.Steps.cons (fun a W hfr hinv hdep K hK => ?_) ?_
          · have sg : a.tmps.getD 18 undef = .bool false := hdep 18 (by kernel_rfl)
            have s23 : a.tmps.getD 23 undef = .bool true := hdep 23 (by kernel_rfl)
            have t23 : a.tmps[23]?.getD undef = .bool true := by simpa using s23
            have s36 : a.tmps.getD 36 undef = .bool Z := hdep 36 (by kernel_rfl)
            have t36 : a.tmps[36]?.getD undef = .bool Z := by simpa using s36
            rw [if_pos (Flow.wanted_yes 2 false 18 rfl (by kernel_rfl) sg)]
            clear hfr hdep
            go_simp
            exact hK _ _ True.intro hinv (fun d hd => by cases hd; trivial)
          refine Flow.Steps.cons (fun a W hfr hinv hdep K hK => ?_) ?_
          · have s18 : a.tmps.getD 18 undef = .bool false := hdep 18 (by kernel_rfl)
            have t18 : a.tmps[18]?.getD undef = .bool false := by simpa using s18
            have s37 : a.tmps.getD 37 undef = .bool Z := hdep 37 (by kernel_rfl)
            have t37 : a.tmps[37]?.getD undef = .bool Z := by simpa using s37
            rw [if_pos (Flow.wanted_none rfl)]
            clear hfr hdep
            go_simp
            exact hK _ _ True.intro hinv (fun d hd => by cases hd; trivial)
          refine Flow.Steps.cons (fun a W hfr hinv hdep K hK => ?_) ?_
          · have s38 : a.tmps.getD 38 undef = .bool Z := hdep 38 (by kernel_rfl)
            have t38 : a.tmps[38]?.getD undef = .bool Z := by simpa using s38
            rw [if_pos (Flow.wanted_none rfl)]
            clear hfr hdep
            go_simp
            exact hK _ _ True.intro hinv (fun d hd => by cases hd; trivial)
          exact True.intro
        case fin =>
          intro a W hfr hfin hsl
          have s8 : a.tmps.getD 8 undef = .bool Z := hsl 23 _ 8 rfl rfl
          have t8 : a.tmps[8]?.getD undef = .bool Z := by simpa using s8
          have e := Flow.frame hfr [16, 17, 18, 19, 20, 21, 22, 23, 24, 25, 26, 27, 28, 29, 30, 31, 32, 33, 34, 35, 36, 37, 38, 8] (List.range 39) (by kernel_rfl) (by kernel_rfl)
          simp [List.range, List.range.loop] at e
          rw [t8] at e
          rw [e]
          clear e hfr hsl s8 t8
          rename_i K2 hK2
          refine hK2 _ _ ?_
          go_wp2_with fail
          go_ret
          exact ⟨rfl, Gr.trans HGW.out hfin⟩
end
end Go.Proofs.YtadopbpfnnpnaaaGreat

