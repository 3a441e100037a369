/-
  Texts on locks, put together: Lk4 Lk5 Lk6.
-/
import Derived.Test.YtbmcdlcoojmppaaA2
import Derived.Test.YtbmcdlcoojmppaaA3
/-
  The code's table of locks: may, Holds, Len, New.
-/
namespace Go.Proofs.Ytbmcdlcoojmppaa
open Go.RowKit Go.Maps

def SlMayA (_ : Nat) (b : Nat) (_ : Nat) (o : Nat) (_ : Nat) (_ : Option Addr) (_ : Nat) (_ : Option Nat) (m : Int) (_ : Int) (_ : Int) (_ : Int) (_ : Int) (_ : Int) (_ : Int) (_ : Nat) (_ : Bool) (slot : Nat) (v : Value) (_ : World) : Prop :=
  match slot with
  | 16 | 19 => v = .pointer (some ⟨b, 0, none⟩)
  | 17 | 18 | 22 | 23 | 37 | 38 | 8 => v = .bool false
  | 20 => v = .int .u64 (o : Int)
  | 21 => v = .int .i64 m
  | 29 => v = undef
  | _ => True

def SlMayB (t : Nat) (b : Nat) (_ : Nat) (o : Nat) (_ : Nat) (_ : Option Addr) (_ : Nat) (hp : Option Nat) (m : Int) (k1 : Int) (k2 : Int) (O1 : Int) (O2 : Int) (O3 : Int) (_ : Int) (_ : Nat) (_ : Bool) (slot : Nat) (v : Value) (_ : World) : Prop :=
  match slot with
  | 16 | 19 => v = .pointer (some ⟨b, 0, none⟩)
  | 17 | 18 => v = .bool false
  | 20 | 25 => v = .int .u64 (o : Int)
  | 21 => v = .int .i64 m
  | 22 | 23 | 28 | 29 | 36 | 37 | 38 | 8 => v = .bool true
  | 24 => v = .pointer (some ⟨t, 0, none⟩)
  | 26 => v = .agg #[.map hp, .int .i64 O1, .int .i64 O2, .int .i64 O3]
  | 27 => v = .agg #[.int .i64 k1, .int .i64 k2]
  | _ => True

def SlMayC (t : Nat) (b : Nat) (_ : Nat) (o : Nat) (N : Nat) (p : Option Addr) (cp : Nat) (hp : Option Nat) (m : Int) (k1 : Int) (k2 : Int) (O1 : Int) (O2 : Int) (O3 : Int) (_ : Int) (_ : Nat) (Z : Bool) (slot : Nat) (v : Value) (_ : World) : Prop :=
  match slot with
  | 16 | 19 | 30 | 31 => v = .pointer (some ⟨b, 0, none⟩)
  | 17 | 18 | 28 | 29 => v = .bool false
  | 20 | 25 => v = .int .u64 (o : Int)
  | 21 => v = .int .i64 m
  | 22 | 23 => v = .bool true
  | 24 => v = .pointer (some ⟨t, 0, none⟩)
  | 26 => v = .agg #[.map hp, .int .i64 O1, .int .i64 O2, .int .i64 O3]
  | 27 => v = .agg #[.int .i64 k1, .int .i64 k2]
  | 32 => v = .pointer (some ⟨b, 2, none⟩)
  | 33 => v = .slice p N cp
  | 34 => v = .int .i64 N
  | 35 | 36 | 37 | 38 | 8 => v = .bool Z
  | _ => True


section
variable {w : World} {t km om : Nat} {B : Tag → Option Nat} {T : Tb}
set_option maxRecDepth 100000 in
set_option maxHeartbeats 2000000 in
theorem may_any (h : TbAt w t km om B T) (ok : T.Ok) {o : Nat} (ho : KO.dom o) {k : Key} (hk : KL.dom k) (m : Int) :
    Calls Try.prog 26 #[.pointer (some ⟨t, 0, none⟩), .int .u64 (o : Int), kv k, .int .i64 m] w fun e w' => e = .returned (.bool (T.may o k m)) ∧ Gr w w' := by
  have g1 : Gr w (w.alloc (.cells #[.int .i64 k.1, .int .i64 k.2] TKey)) := (Gr.refl w).alloc (Nat.le_refl _) _
  have h1 := h.gr g1
  have c0 := h1.c3.1
  have hl := fun q => (h1.stays (w' := (w.alloc (.cells #[.int .i64 k.1, .int .i64 k.2] TKey)).drewN q) (fun _ _ _ => rfl)).look hk
  have HG := Lib.hid g1
  unfold Tb.may
  unfold kv at hl
  cases e : T.lk k with
  | none =>
    rw [(h.lk0 k e).1] at hl
    have hl' : ∀ q, (Instr.lookup TMk (.map (some km)) (.agg #[.int .i64 k.1, .int .i64 k.2]) false).run Try.prog ((w.alloc (.cells #[.int .i64 k.1, .int .i64 k.2] TKey)).drewN q) = .ok (.pointer none) ((w.alloc (.cells #[.int .i64 k.1, .int .i64 k.2] TKey)).drewN q) := hl
    clear h h1 ok e hl g1
    show Calls Try.prog 26 #[.pointer (some ⟨t, 0, none⟩), .int .u64 (o : Int), .agg #[.int .i64 k.1, .int .i64 k.2], .int .i64 m] w _
    go_enter Try.func26, Try.ntmps26
    go_wp2_with fail
    go_quiet (fail)
    go_wp2_with fail
    go_quiet (fail)
    go_wp2_with fail
    go_ret
    exact ⟨rfl, below_drewN (below_drewN HG.out _) _⟩
  | some l =>
    obtain ⟨b, n, v, e1, e2, e3, e4, e5⟩ := h1.lk k l e
    rw [e1] at hl
    have hl' : ∀ q, (Instr.lookup TMk (.map (some km)) (.agg #[.int .i64 k.1, .int .i64 k.2]) false).run Try.prog ((w.alloc (.cells #[.int .i64 k.1, .int .i64 k.2] TKey)).drewN q) = .ok (.pointer (some ⟨b, 0, none⟩)) ((w.alloc (.cells #[.int .i64 k.1, .int .i64 k.2] TKey)).drewN q) := hl
    clear hl
    obtain ⟨W0, hW0⟩ : ∃ W0, W0 = w.alloc (.cells #[.int .i64 k.1, .int .i64 k.2] TKey) := ⟨_, rfl⟩
    have b6 := (Blk.new w TKey #[.int .i64 k.1, .int .i64 k.2])
    show Calls Try.prog 26 #[.pointer (some ⟨t, 0, none⟩), .int .u64 (o : Int), .agg #[.int .i64 k.1, .int .i64 k.2], .int .i64 m] w fun e w' => e = .returned (.bool (l.fits o m && (decide (k ∈ (T.of o).ks) || decide ((l.line.length : Int) = 0)))) ∧ Gr w w'
    have HF := Lib.hid (fun W (g : Gr W0 W) => fits_any (e3.gr (hW0 ▸ g)) (e4.stays ((hW0 ▸ g : Gr _ W).block _ e4.lt)) (ok.hs k l e) ho m)
    have HO := Lib.hid (fun W (g : Gr W0 W) => of_any (h1.gr (hW0 ▸ g)) ho)
    have HA := Lib.hid (fun W (g : Gr W0 W) => has_any W (a := .int .i64 (T.of o).key.1) (b := .int .i64 (T.of o).key.2) (m := .int .i64 (T.of o).mode) rfl rfl rfl ((h1.hs o).gr (hW0 ▸ g)) hk)
    have HL := Lib.hid (fun W (g : Gr W0 W) => e3.gr (hW0 ▸ g))
    have HB := Lib.hid (fun W (g : Gr W0 W) => b6.gr (hW0 ▸ g))
    have HV := Lib.hid e5
    clear h h1 ok e e1 e2 e3 e4 e5 b6 g1
    rw [← hW0] at c0 HG hl'
    obtain ⟨X, hX⟩ : ∃ X, X = l.fits o m := ⟨_, rfl⟩
    obtain ⟨Y, hY⟩ : ∃ Y, Y = decide (k ∈ (T.of o).ks) := ⟨_, rfl⟩
    obtain ⟨Z, hZ⟩ : ∃ Z, Z = decide ((l.line.length : Int) = 0) := ⟨_, rfl⟩
    obtain ⟨p, N, cp, hv⟩ : ∃ p N cp, v = .slice p N cp ∧ Z = ((N : Int) == 0) := by
      rcases HV.out with ⟨r1, r2, r3⟩ | ⟨b', off, cap, cs, r1, r2, _⟩
      · refine ⟨none, 0, 0, r2, ?_⟩
        rw [hZ, r3]; rfl
      · refine ⟨_, l.line.length, cap, r2, ?_⟩
        rw [hZ]; rfl
    obtain ⟨rfl, hZN⟩ := hv
    rw [← hX, ← hY, ← hZ]
    rw [← hX] at HF
    rw [← hY] at HA
    have HZ := Lib.hid hZN.symm
    unfold ofV at HO
    unfold kv at HA
    obtain ⟨LM, hLM⟩ : ∃ LM, LM = l.mode := ⟨_, rfl⟩
    obtain ⟨O1, hO1⟩ : ∃ O1, O1 = (T.of o).key.1 := ⟨_, rfl⟩
    obtain ⟨O2, hO2⟩ : ∃ O2, O2 = (T.of o).key.2 := ⟨_, rfl⟩
    obtain ⟨O3, hO3⟩ : ∃ O3, O3 = (T.of o).mode := ⟨_, rfl⟩
    obtain ⟨hp, hhp⟩ : ∃ hp, hp = B (.pm o) := ⟨_, rfl⟩
    rw [← hO1, ← hO2, ← hO3, ← hhp] at HA HO
    obtain ⟨k1, hk1⟩ : ∃ x, x = k.1 := ⟨_, rfl⟩
    obtain ⟨k2, hk2⟩ : ∃ x, x = k.2 := ⟨_, rfl⟩
    rw [← hk1, ← hk2] at HA HB hW0 hl' ⊢
    rw [← hLM] at HL
    clear hX hY hZ hZN hLM hO1 hO2 hO3 HV ho hk hhp hk1 hk2
    have HGW : Hid (Gr w W0) := HG
    clear HG
    go_enter Try.func26, Try.ntmps26
    go_wp2_with fail
    rw [show (w.alloc (.cells #[.int .i64 k1, .int .i64 k2] 29)) = W0 from hW0.symm]
    have HW0 := Lib.hid hW0
    clear hW0
    obtain ⟨kb, hkb⟩ : ∃ kb, kb = w.heap.size := ⟨_, rfl⟩
    rw [← hkb]
    rw [← hkb] at HB
    have HKB := Lib.hid hkb
    clear hkb
    have x0 := (HB.out W0 (Gr.refl _)).cell 0
    have x1 := (HB.out W0 (Gr.refl _)).cell 1
    simp at x0 x1
    go_quiet (fail)
    rename_i nq
    cases X with
    | false =>
      go_wp2_with fail
      refine Flow.region (SlMayA t b kb o N p cp hp m k1 k2 O1 O2 O3 LM n Z) (Gr W0) (fun _ _ => True) (by kernel_rfl) (by kernel_rfl) (fun _ _ _ _ h _ => h) ⟨rfl, rfl, rfl, Nat.le_refl _, fun _ _ => rfl⟩ ?steps ?fin
      case steps =>
        refine Flow.Steps.cons (fun a W hfr hinv hdep K hK => ?_) ?_
        · have s9 : a.tmps.getD 9 undef = .pointer (some ⟨b, 0, none⟩) := hfr.at 9 (by kernel_rfl)
          have t9 : a.tmps[9]?.getD undef = .pointer (some ⟨b, 0, none⟩) := by simpa using s9
          rw [if_pos (Flow.wanted_none rfl)]
          clear hfr hdep
          go_simp
          exact hK _ _ True.intro hinv (fun d hd => by cases hd; trivial)
        refine Flow.Steps.cons (fun a W hfr hinv hdep K hK => ?_) ?_
        · have s16 : a.tmps.getD 16 undef = .pointer (some ⟨b, 0, none⟩) := hdep 16 (by kernel_rfl)
          have t16 : a.tmps[16]?.getD undef = .pointer (some ⟨b, 0, none⟩) := by simpa using s16
          rw [if_pos (Flow.wanted_none rfl)]
          clear hfr hdep
          go_simp
          exact hK _ _ True.intro hinv (fun d hd => by cases hd; trivial)
        refine Flow.Steps.cons (fun a W hfr hinv hdep K hK => ?_) ?_
        · have s17 : a.tmps.getD 17 undef = .bool false := hdep 17 (by kernel_rfl)
          have t17 : a.tmps[17]?.getD undef = .bool false := by simpa using s17
          rw [if_pos (Flow.wanted_none rfl)]
          clear hfr hdep
          go_simp
          exact hK _ _ True.intro hinv (fun d hd => by cases hd; trivial)
        refine Flow.Steps.cons (fun a W hfr hinv hdep K hK => ?_) ?_
        · have sg : a.tmps.getD 18 undef = .bool false := hdep 18 (by kernel_rfl)
          have s9 : a.tmps.getD 9 undef = .pointer (some ⟨b, 0, none⟩) := hfr.at 9 (by kernel_rfl)
          have t9 : a.tmps[9]?.getD undef = .pointer (some ⟨b, 0, none⟩) := by simpa using s9
          rw [if_pos (Flow.wanted_yes 2 false 18 rfl (by kernel_rfl) sg)]
          clear hfr hdep
          go_simp
          exact hK _ _ True.intro hinv (fun d hd => by cases hd; trivial)
        refine Flow.Steps.cons (fun a W hfr hinv hdep K hK => ?_) ?_
        · have sg : a.tmps.getD 18 undef = .bool false := hdep 18 (by kernel_rfl)
          have s1 : a.tmps.getD 1 undef = .int .u64 (o : Int) := hfr.at 1 (by kernel_rfl)
          have t1 : a.tmps[1]?.getD undef = .int .u64 (o : Int) := by simpa using s1
          rw [if_pos (Flow.wanted_yes 2 false 18 rfl (by kernel_rfl) sg)]
          clear hfr hdep
          go_simp
          exact hK _ _ True.intro hinv (fun d hd => by cases hd; trivial)
        refine Flow.Steps.cons (fun a W hfr hinv hdep K hK => ?_) ?_
        · have sg : a.tmps.getD 18 undef = .bool false := hdep 18 (by kernel_rfl)
          have s3 : a.tmps.getD 3 undef = .int .i64 m := hfr.at 3 (by kernel_rfl)
          have t3 : a.tmps[3]?.getD undef = .int .i64 m := by simpa using s3
          rw [if_pos (Flow.wanted_yes 2 false 18 rfl (by kernel_rfl) sg)]
          clear hfr hdep
          go_simp
          exact hK _ _ True.intro hinv (fun d hd => by cases hd; trivial)
        refine Flow.Steps.cons (fun a W hfr hinv hdep K hK => ?_) ?_
        · have sg : a.tmps.getD 18 undef = .bool false := hdep 18 (by kernel_rfl)
          have s19 : a.tmps.getD 19 undef = .pointer (some ⟨b, 0, none⟩) := hdep 19 (by kernel_rfl)
          have t19 : a.tmps[19]?.getD undef = .pointer (some ⟨b, 0, none⟩) := by simpa using s19
          have s20 : a.tmps.getD 20 undef = .int .u64 (o : Int) := hdep 20 (by kernel_rfl)
          have t20 : a.tmps[20]?.getD undef = .int .u64 (o : Int) := by simpa using s20
          have s21 : a.tmps.getD 21 undef = .int .i64 m := hdep 21 (by kernel_rfl)
          have t21 : a.tmps[21]?.getD undef = .int .i64 m := by simpa using s21
          rw [if_pos (Flow.wanted_yes 2 false 18 rfl (by kernel_rfl) sg)]
          clear hfr hdep
          go_simp
          refine (HF.out W hinv).mono ?_
          rintro e W' ⟨rfl, g1⟩
          exact hK _ _ True.intro (Gr.trans hinv g1) (fun d hd => by cases hd; trivial)
        refine Flow.Steps.cons (fun a W hfr hinv hdep K hK => ?_) ?_
        · have sg : a.tmps.getD 18 undef = .bool false := hdep 18 (by kernel_rfl)
          have s22 : a.tmps.getD 22 undef = .bool false := hdep 22 (by kernel_rfl)
          have t22 : a.tmps[22]?.getD undef = .bool false := by simpa using s22
          rw [if_pos (Flow.wanted_yes 2 false 18 rfl (by kernel_rfl) sg)]
          clear hfr hdep
          go_simp
          exact hK _ _ True.intro hinv (fun d hd => by cases hd; trivial)
        refine Flow.Steps.cons (fun a W hfr hinv hdep K hK => ?_) ?_
        · have sg : a.tmps.getD 23 undef = .bool !true := hdep 23 (by kernel_rfl)
          have s0 : a.tmps.getD 0 undef = .pointer (some ⟨t, 0, none⟩) := hfr.at 0 (by kernel_rfl)
          have t0 : a.tmps[0]?.getD undef = .pointer (some ⟨t, 0, none⟩) := by simpa using s0
          rw [if_neg (Flow.wanted_no 7 true 23 rfl (by kernel_rfl) sg)]
          clear hfr hdep
          exact hK _ _ True.intro hinv (fun d hd => by cases hd; trivial)
        refine Flow.Steps.cons (fun a W hfr hinv hdep K hK => ?_) ?_
        · have sg : a.tmps.getD 23 undef = .bool !true := hdep 23 (by kernel_rfl)
          have s1 : a.tmps.getD 1 undef = .int .u64 (o : Int) := hfr.at 1 (by kernel_rfl)
          have t1 : a.tmps[1]?.getD undef = .int .u64 (o : Int) := by simpa using s1
          rw [if_neg (Flow.wanted_no 7 true 23 rfl (by kernel_rfl) sg)]
          clear hfr hdep
          exact hK _ _ True.intro hinv (fun d hd => by cases hd; trivial)
        refine Flow.Steps.cons (fun a W hfr hinv hdep K hK => ?_) ?_
        · have sg : a.tmps.getD 23 undef = .bool !true := hdep 23 (by kernel_rfl)
          rw [if_neg (Flow.wanted_no 7 true 23 rfl (by kernel_rfl) sg)]
          clear hfr hdep
          exact hK _ _ True.intro hinv (fun d hd => by cases hd; trivial)
        refine Flow.Steps.cons (fun a W hfr hinv hdep K hK => ?_) ?_
        · have sg : a.tmps.getD 23 undef = .bool !true := hdep 23 (by kernel_rfl)
          have s6 : a.tmps.getD 6 undef = .pointer (some ⟨kb, 0, none⟩) := hfr.at 6 (by kernel_rfl)
          have t6 : a.tmps[6]?.getD undef = .pointer (some ⟨kb, 0, none⟩) := by simpa using s6
          have kc := (HB.out W hinv).cell 0; have kd := (HB.out W hinv).cell 1; have lc := (HL.out W hinv).cell 2; simp at kc kd lc
          rw [if_neg (Flow.wanted_no 7 true 23 rfl (by kernel_rfl) sg)]
          clear hfr hdep
          exact hK _ _ True.intro hinv (fun d hd => by cases hd; trivial)
        refine Flow.Steps.cons (fun a W hfr hinv hdep K hK => ?_) ?_
        · have sg : a.tmps.getD 23 undef = .bool !true := hdep 23 (by kernel_rfl)
          rw [if_neg (Flow.wanted_no 7 true 23 rfl (by kernel_rfl) sg)]
          clear hfr hdep
          exact hK _ _ True.intro hinv (fun d hd => by cases hd; trivial)
        refine Flow.Steps.cons (fun a W hfr hinv hdep K hK => ?_) ?_
        · have sg : a.tmps.getD 23 undef = .bool !true := hdep 23 (by kernel_rfl)
          rw [if_neg (Flow.wanted_no 7 true 23 rfl (by kernel_rfl) sg)]
          clear hfr hdep
          exact hK _ _ True.intro hinv (fun d hd => by cases hd; trivial)
        refine Flow.Steps.cons (fun a W hfr hinv hdep K hK => ?_) ?_
        · have sg : a.tmps.getD 29 undef = undef := hdep 29 (by kernel_rfl)
          have s9 : a.tmps.getD 9 undef = .pointer (some ⟨b, 0, none⟩) := hfr.at 9 (by kernel_rfl)
          have t9 : a.tmps[9]?.getD undef = .pointer (some ⟨b, 0, none⟩) := by simpa using s9
          rw [if_neg (Flow.wanted_undef 13 false 29 rfl (by kernel_rfl) sg)]
          clear hfr hdep
          exact hK _ _ True.intro hinv (fun d hd => by cases hd; trivial)
        refine Flow.Steps.cons (fun a W hfr hinv hdep K hK => ?_) ?_
        · have sg : a.tmps.getD 29 undef = undef := hdep 29 (by kernel_rfl)
          rw [if_neg (Flow.wanted_undef 13 false 29 rfl (by kernel_rfl) sg)]
          clear hfr hdep
          exact hK _ _ True.intro hinv (fun d hd => by cases hd; trivial)
        refine Flow.Steps.cons (fun a W hfr hinv hdep K hK => ?_) ?_
        · have sg : a.tmps.getD 29 undef = undef := hdep 29 (by kernel_rfl)
          rw [if_neg (Flow.wanted_undef 13 false 29 rfl (by kernel_rfl) sg)]
          clear hfr hdep
          exact hK _ _ True.intro hinv (fun d hd => by cases hd; trivial)
        refine Flow.Steps.cons (fun a W hfr hinv hdep K hK => ?_) ?_
        · have sg : a.tmps.getD 29 undef = undef := hdep 29 (by kernel_rfl)
          have kc := (HB.out W hinv).cell 0; have kd := (HB.out W hinv).cell 1; have lc := (HL.out W hinv).cell 2; simp at kc kd lc
          rw [if_neg (Flow.wanted_undef 13 false 29 rfl (by kernel_rfl) sg)]
          clear hfr hdep
          exact hK _ _ True.intro hinv (fun d hd => by cases hd; trivial)
        refine Flow.Steps.cons (fun a W hfr hinv hdep K hK => ?_) ?_
        · have sg : a.tmps.getD 29 undef = undef := hdep 29 (by kernel_rfl)
          rw [if_neg (Flow.wanted_undef 13 false 29 rfl (by kernel_rfl) sg)]
          clear hfr hdep
          exact hK _ _ True.intro hinv (fun d hd => by cases hd; trivial)
        refine Flow.Steps.cons (fun a W hfr hinv hdep K hK => ?_) ?_
        · have sg : a.tmps.getD 29 undef = undef := hdep 29 (by kernel_rfl)
          rw [if_neg (Flow.wanted_undef 13 false 29 rfl (by kernel_rfl) sg)]
          clear hfr hdep
          exact hK _ _ True.intro hinv (fun d hd => by cases hd; trivial)
        refine Flow.Steps.cons (fun a W hfr hinv hdep K hK => ?_) ?_
        · have sg : a.tmps.getD 23 undef = .bool !true := hdep 23 (by kernel_rfl)
          have s29 : a.tmps.getD 29 undef = undef := hdep 29 (by kernel_rfl)
          have t29 : a.tmps[29]?.getD undef = undef := by simpa using s29
          rw [if_neg (Flow.wanted_no 7 true 23 rfl (by kernel_rfl) sg)]
          clear hfr hdep
          exact hK _ _ True.intro hinv (fun d hd => by cases hd; trivial)
        refine Flow.Steps.cons (fun a W hfr hinv hdep K hK => ?_) ?_
        · have sg : a.tmps.getD 18 undef = .bool false := hdep 18 (by kernel_rfl)
          have s23 : a.tmps.getD 23 undef = .bool false := hdep 23 (by kernel_rfl)
          have t23 : a.tmps[23]?.getD undef = .bool false := by simpa using s23
          rw [if_pos (Flow.wanted_yes 2 false 18 rfl (by kernel_rfl) sg)]
          clear hfr hdep
          go_simp
          exact hK _ _ True.intro hinv (fun d hd => by cases hd; trivial)
        refine Flow.Steps.cons (fun a W hfr hinv hdep K hK => ?_) ?_
        · have s18 : a.tmps.getD 18 undef = .bool false := hdep 18 (by kernel_rfl)
          have t18 : a.tmps[18]?.getD undef = .bool false := by simpa using s18
          have s37 : a.tmps.getD 37 undef = .bool false := hdep 37 (by kernel_rfl)
          have t37 : a.tmps[37]?.getD undef = .bool false := by simpa using s37
          rw [if_pos (Flow.wanted_none rfl)]
          clear hfr hdep
          go_simp
          exact hK _ _ True.intro hinv (fun d hd => by cases hd; trivial)
        refine Flow.Steps.cons (fun a W hfr hinv hdep K hK => ?_) ?_
        · have s38 : a.tmps.getD 38 undef = .bool false := hdep 38 (by kernel_rfl)
          have t38 : a.tmps[38]?.getD undef = .bool false := by simpa using s38
          rw [if_pos (Flow.wanted_none rfl)]
          clear hfr hdep
          go_simp
          exact hK _ _ True.intro hinv (fun d hd => by cases hd; trivial)
        exact True.intro
      case fin =>
        intro a W hfr hfin hsl
        have s8 : a.tmps.getD 8 undef = .bool false := hsl 23 _ 8 rfl rfl
        have t8 : a.tmps[8]?.getD undef = .bool false := by simpa using s8
        have e := Flow.frame hfr [16, 17, 18, 19, 20, 21, 22, 23, 24, 25, 26, 27, 28, 29, 30, 31, 32, 33, 34, 35, 36, 37, 38, 8] (List.range 39) (by kernel_rfl) (by kernel_rfl)
        simp [List.range, List.range.loop] at e
        rw [t8] at e
        rw [e]
        clear e hfr hsl s8 t8
        rename_i K2 hK2
        refine hK2 _ _ ?_
        go_wp2_with fail
        go_ret
        exact ⟨rfl, Gr.trans HGW.out hfin⟩
    | true =>
      cases Y with
      | true =>
        go_wp2_with fail
        refine Flow.region (SlMayB t b kb o N p cp hp m k1 k2 O1 O2 O3 LM n Z) (Gr W0) (fun _ _ => True) (by kernel_rfl) (by kernel_rfl) (fun _ _ _ _ h _ => h) ⟨rfl, rfl, rfl, Nat.le_refl _, fun _ _ => rfl⟩ ?steps ?fin
        case steps =>
          refine Flow.Steps.cons (fun a W hfr hinv hdep K hK => ?_) ?_
          · have s9 : a.tmps.getD 9 undef = .pointer (some ⟨b, 0, none⟩) := hfr.at 9 (by kernel_rfl)
            have t9 : a.tmps[9]?.getD undef = .pointer (some ⟨b, 0, none⟩) := by simpa using s9
            rw [if_pos (Flow.wanted_none rfl)]
            clear hfr hdep
            go_simp
            exact hK _ _ True.intro hinv (fun d hd => by cases hd; trivial)
          refine Flow.Steps.cons (fun a W hfr hinv hdep K hK => ?_) ?_
          · have s16 : a.tmps.getD 16 undef = .pointer (some ⟨b, 0, none⟩) := hdep 16 (by kernel_rfl)
            have t16 : a.tmps[16]?.getD undef = .pointer (some ⟨b, 0, none⟩) := by simpa using s16
            rw [if_pos (Flow.wanted_none rfl)]
            clear hfr hdep
            go_simp
            exact hK _ _ True.intro hinv (fun d hd => by cases hd; trivial)
          refine Flow.Steps.cons (fun a W hfr hinv hdep K hK => ?_) ?_
          · have s17 : a.tmps.getD 17 undef = .bool false := hdep 17 (by kernel_rfl)
            have t17 : a.tmps[17]?.getD undef = .bool false := by simpa using s17
            rw [if_pos (Flow.wanted_none rfl)]
            clear hfr hdep
            go_simp
            exact hK _ _ True.intro hinv (fun d hd => by cases hd; trivial)
          refine Flow.Steps.cons (fun a W hfr hinv hdep K hK => ?_) ?_
          · have sg : a.tmps.getD 18 undef = .bool false := hdep 18 (by kernel_rfl)
            have s9 : a.tmps.getD 9 undef = .pointer (some ⟨b, 0, none⟩) := hfr.at 9 (by kernel_rfl)
            have t9 : a.tmps[9]?.getD undef = .pointer (some ⟨b, 0, none⟩) := by simpa using s9
            rw [if_pos (Flow.wanted_yes 2 false 18 rfl (by kernel_rfl) sg)]
            clear hfr hdep
            go_simp
            exact hK _ _ True.intro hinv (fun d hd => by cases hd; trivial)
          refine Flow.Steps.cons (fun a W hfr hinv hdep K hK => ?_) ?_
          · have sg : a.tmps.getD 18 undef = .bool false := hdep 18 (by kernel_rfl)
            have s1 : a.tmps.getD 1 undef = .int .u64 (o : Int) := hfr.at 1 (by kernel_rfl)
            have t1 : a.tmps[1]?.getD undef = .int .u64 (o : Int) := by simpa using s1
            rw [if_pos (Flow.wanted_yes 2 false 18 rfl (by kernel_rfl) sg)]
            clear hfr hdep
            go_simp
            exact hK _ _ True.intro hinv (fun d hd => by cases hd; trivial)
          refine Flow.Steps.cons (fun a W hfr hinv hdep K hK => ?_) ?_
          · have sg : a.tmps.getD 18 undef = .bool false := hdep 18 (by kernel_rfl)
            have s3 : a.tmps.getD 3 undef = .int .i64 m := hfr.at 3 (by kernel_rfl)
            have t3 : a.tmps[3]?.getD undef = .int .i64 m := by simpa using s3
            rw [if_pos (Flow.wanted_yes 2 false 18 rfl (by kernel_rfl) sg)]
            clear hfr hdep
            go_simp
            exact hK _ _ True.intro hinv (fun d hd => by cases hd; trivial)
          refine Flow.Steps.cons (fun a W hfr hinv hdep K hK => ?_) ?_
          · have sg : a.tmps.getD 18 undef = .bool false := hdep 18 (by kernel_rfl)
            have s19 : a.tmps.getD 19 undef = .pointer (some ⟨b, 0, none⟩) := hdep 19 (by kernel_rfl)
            have t19 : a.tmps[19]?.getD undef = .pointer (some ⟨b, 0, none⟩) := by simpa using s19
            have s20 : a.tmps.getD 20 undef = .int .u64 (o : Int) := hdep 20 (by kernel_rfl)
            have t20 : a.tmps[20]?.getD undef = .int .u64 (o : Int) := by simpa using s20
            have s21 : a.tmps.getD 21 undef = .int .i64 m := hdep 21 (by kernel_rfl)
            have t21 : a.tmps[21]?.getD undef = .int .i64 m := by simpa using s21
            rw [if_pos (Flow.wanted_yes 2 false 18 rfl (by kernel_rfl) sg)]
            clear hfr hdep
            go_simp
            refine (HF.out W hinv).mono ?_
            rintro e W' ⟨rfl, g1⟩
            exact hK _ _ True.intro (Gr.trans hinv g1) (fun d hd => by cases hd; trivial)
          refine Flow.Steps.cons (fun a W hfr hinv hdep K hK => ?_) ?_
          · have sg : a.tmps.getD 18 undef = .bool false := hdep 18 (by kernel_rfl)
            have s22 : a.tmps.getD 22 undef = .bool true := hdep 22 (by kernel_rfl)
            have t22 : a.tmps[22]?.getD undef = .bool true := by simpa using s22
            rw [if_pos (Flow.wanted_yes 2 false 18 rfl (by kernel_rfl) sg)]
            clear hfr hdep
            go_simp
            exact hK _ _ True.intro hinv (fun d hd => by cases hd; trivial)
          refine Flow.Steps.cons (fun a W hfr hinv hdep K hK => ?_) ?_
          · have sg : a.tmps.getD 23 undef = .bool true := hdep 23 (by kernel_rfl)
            have s0 : a.tmps.getD 0 undef = .pointer (some ⟨t, 0, none⟩) := hfr.at 0 (by kernel_rfl)
            have t0 : a.tmps[0]?.getD undef = .pointer (some ⟨t, 0, none⟩) := by simpa using s0
            rw [if_pos (Flow.wanted_yes 7 true 23 rfl (by kernel_rfl) sg)]
            clear hfr hdep
            go_simp
            exact hK _ _ True.intro hinv (fun d hd => by cases hd; trivial)
          refine Flow.Steps.cons (fun a W hfr hinv hdep K hK => ?_) ?_
          · have sg : a.tmps.getD 23 undef = .bool true := hdep 23 (by kernel_rfl)
            have s1 : a.tmps.getD 1 undef = .int .u64 (o : Int) := hfr.at 1 (by kernel_rfl)
            have t1 : a.tmps[1]?.getD undef = .int .u64 (o : Int) := by simpa using s1
            rw [if_pos (Flow.wanted_yes 7 true 23 rfl (by kernel_rfl) sg)]
            clear hfr hdep
            go_simp
            exact hK _ _ True.intro hinv (fun d hd => by cases hd; trivial)
          refine Flow.Steps.cons (fun a W hfr hinv hdep K hK => ?_) ?_
          · have sg : a.tmps.getD 23 undef = .bool true := hdep 23 (by kernel_rfl)
            have s24 : a.tmps.getD 24 undef = .pointer (some ⟨t, 0, none⟩) := hdep 24 (by kernel_rfl)
            have t24 : a.tmps[24]?.getD undef = .pointer (some ⟨t, 0, none⟩) := by simpa using s24
            have s25 : a.tmps.getD 25 undef = .int .u64 (o : Int) := hdep 25 (by kernel_rfl)
            have t25 : a.tmps[25]?.getD undef = .int .u64 (o : Int) := by simpa using s25
            rw [if_pos (Flow.wanted_yes 7 true 23 rfl (by kernel_rfl) sg)]
            clear hfr hdep
            go_simp
            refine (HO.out W hinv).mono ?_
            rintro e W' ⟨rfl, g1⟩
            exact hK _ _ True.intro (Gr.trans hinv g1) (fun d hd => by cases hd; trivial)
          refine Flow.Steps.cons (fun a W hfr hinv hdep K hK => ?_) ?_
          · have sg : a.tmps.getD 23 undef = .bool true := hdep 23 (by kernel_rfl)
            have s6 : a.tmps.getD 6 undef = .pointer (some ⟨kb, 0, none⟩) := hfr.at 6 (by kernel_rfl)
            have t6 : a.tmps[6]?.getD undef = .pointer (some ⟨kb, 0, none⟩) := by simpa using s6
            have kc := (HB.out W hinv).cell 0; have kd := (HB.out W hinv).cell 1; have lc := (HL.out W hinv).cell 2; simp at kc kd lc
            rw [if_pos (Flow.wanted_yes 7 true 23 rfl (by kernel_rfl) sg)]
            clear hfr hdep
            go_simp
            exact hK _ _ True.intro hinv (fun d hd => by cases hd; trivial)
          refine Flow.Steps.cons (fun a W hfr hinv hdep K hK => ?_) ?_
          · have sg : a.tmps.getD 23 undef = .bool true := hdep 23 (by kernel_rfl)
            have s26 : a.tmps.getD 26 undef = .agg #[.map hp, .int .i64 O1, .int .i64 O2, .int .i64 O3] := hdep 26 (by kernel_rfl)
            have t26 : a.tmps[26]?.getD undef = .agg #[.map hp, .int .i64 O1, .int .i64 O2, .int .i64 O3] := by simpa using s26
            have s27 : a.tmps.getD 27 undef = .agg #[.int .i64 k1, .int .i64 k2] := hdep 27 (by kernel_rfl)
            have t27 : a.tmps[27]?.getD undef = .agg #[.int .i64 k1, .int .i64 k2] := by simpa using s27
            rw [if_pos (Flow.wanted_yes 7 true 23 rfl (by kernel_rfl) sg)]
            clear hfr hdep
            go_simp
            refine (HA.out W hinv).mono ?_
            rintro e W' ⟨rfl, g1⟩
            exact hK _ _ True.intro (Gr.trans hinv g1) (fun d hd => by cases hd; trivial)
          refine Flow.Steps.cons (fun a W hfr hinv hdep K hK => ?_) ?_
          · have sg : a.tmps.getD 23 undef = .bool true := hdep 23 (by kernel_rfl)
            have s28 : a.tmps.getD 28 undef = .bool true := hdep 28 (by kernel_rfl)
            have t28 : a.tmps[28]?.getD undef = .bool true := by simpa using s28
            rw [if_pos (Flow.wanted_yes 7 true 23 rfl (by kernel_rfl) sg)]
            clear hfr hdep
            go_simp
            exact hK _ _ True.intro hinv (fun d hd => by cases hd; trivial)
          refine Flow.Steps.cons (fun a W hfr hinv hdep K hK => ?_) ?_
          · have sg : a.tmps.getD 29 undef = .bool !false := hdep 29 (by kernel_rfl)
            have s9 : a.tmps.getD 9 undef = .pointer (some ⟨b, 0, none⟩) := hfr.at 9 (by kernel_rfl)
            have t9 : a.tmps[9]?.getD undef = .pointer (some ⟨b, 0, none⟩) := by simpa using s9
            rw [if_neg (Flow.wanted_no 13 false 29 rfl (by kernel_rfl) sg)]
            clear hfr hdep
            exact hK _ _ True.intro hinv (fun d hd => by cases hd; trivial)
          refine Flow.Steps.cons (fun a W hfr hinv hdep K hK => ?_) ?_
          · have sg : a.tmps.getD 29 undef = .bool !false := hdep 29 (by kernel_rfl)
            rw [if_neg (Flow.wanted_no 13 false 29 rfl (by kernel_rfl) sg)]
            clear hfr hdep
            exact hK _ _ True.intro hinv (fun d hd => by cases hd; trivial)
          refine Flow.Steps.cons (fun a W hfr hinv hdep K hK => ?_) ?_
          · have sg : a.tmps.getD 29 undef = .bool !false := hdep 29 (by kernel_rfl)
            rw [if_neg (Flow.wanted_no 13 false 29 rfl (by kernel_rfl) sg)]
            clear hfr hdep
            exact hK _ _ True.intro hinv (fun d hd => by cases hd; trivial)
          refine Flow.Steps.cons (fun a W hfr hinv hdep K hK => ?_) ?_
          · have sg : a.tmps.getD 29 undef = .bool !false := hdep 29 (by kernel_rfl)
            have kc := (HB.out W hinv).cell 0; have kd := (HB.out W hinv).cell 1; have lc := (HL.out W hinv).cell 2; simp at kc kd lc
            rw [if_neg (Flow.wanted_no 13 false 29 rfl (by kernel_rfl) sg)]
            clear hfr hdep
            exact hK _ _ True.intro hinv (fun d hd => by cases hd; trivial)
          refine Flow.Steps.cons (fun a W hfr hinv hdep K hK => ?_) ?_
          · have sg : a.tmps.getD 29 undef = .bool !false := hdep 29 (by kernel_rfl)
            rw [if_neg (Flow.wanted_no 13 false 29 rfl (by kernel_rfl) sg)]
            clear hfr hdep
            exact hK _ _ True.intro hinv (fun d hd => by cases hd; trivial)
          refine Flow.Steps.cons (fun a W hfr hinv hdep K hK => ?_) ?_
          · have sg : a.tmps.getD 29 undef = .bool !false := hdep 29 (by kernel_rfl)
            rw [if_neg (Flow.wanted_no 13 false 29 rfl (by kernel_rfl) sg)]
            clear hfr hdep
            exact hK _ _ True.intro hinv (fun d hd => by cases hd; trivial)
          refine Flow.Steps.cons (fun a W hfr hinv hdep K hK => ?_) ?_
          · have sg : a.tmps.getD 23 undef = .bool true := hdep 23 (by kernel_rfl)
            have s29 : a.tmps.getD 29 undef = .bool true := hdep 29 (by kernel_rfl)
            have t29 : a.tmps[29]?.getD undef = .bool true := by simpa using s29
            rw [if_pos (Flow.wanted_yes 7 true 23 rfl (by kernel_rfl) sg)]
            clear hfr hdep
            go_simp
            exact hK _ _ True.intro hinv (fun d hd => by cases hd; trivial)
          refine Flow.Steps.cons (fun a W hfr hinv hdep K hK => ?_) ?_
          · have sg : a.tmps.getD 18 undef = .bool false := hdep 18 (by kernel_rfl)
            have s23 : a.tmps.getD 23 undef = .bool true := hdep 23 (by kernel_rfl)
            have t23 : a.tmps[23]?.getD undef = .bool true := by simpa using s23
            have s36 : a.tmps.getD 36 undef = .bool true := hdep 36 (by kernel_rfl)
            have t36 : a.tmps[36]?.getD undef = .bool true := by simpa using s36
            rw [if_pos (Flow.wanted_yes 2 false 18 rfl (by kernel_rfl) sg)]
            clear hfr hdep
            go_simp
            exact hK _ _ True.intro hinv (fun d hd => by cases hd; trivial)
          refine Flow.Steps.cons (fun a W hfr hinv hdep K hK => ?_) ?_
          · have s18 : a.tmps.getD 18 undef = .bool false := hdep 18 (by kernel_rfl)
            have t18 : a.tmps[18]?.getD undef = .bool false := by simpa using s18
            have s37 : a.tmps.getD 37 undef = .bool true := hdep 37 (by kernel_rfl)
            have t37 : a.tmps[37]?.getD undef = .bool true := by simpa using s37
            rw [if_pos (Flow.wanted_none rfl)]
            clear hfr hdep
            go_simp
            exact hK _ _ True.intro hinv (fun d hd => by cases hd; trivial)
          refine Flow.Steps.cons (fun a W hfr hinv hdep K hK => ?_) ?_
          · have s38 : a.tmps.getD 38 undef = .bool true := hdep 38 (by kernel_rfl)
            have t38 : a.tmps[38]?.getD undef = .bool true := by simpa using s38
            rw [if_pos (Flow.wanted_none rfl)]
            clear hfr hdep
            go_simp
            exact hK _ _ True.intro hinv (fun d hd => by cases hd; trivial)
          exact True.intro
        case fin =>
          intro a W hfr hfin hsl
          have s8 : a.tmps.getD 8 undef = .bool true := hsl 23 _ 8 rfl rfl
          have t8 : a.tmps[8]?.getD undef = .bool true := by simpa using s8
          have e := Flow.frame hfr [16, 17, 18, 19, 20, 21, 22, 23, 24, 25, 26, 27, 28, 29, 30, 31, 32, 33, 34, 35, 36, 37, 38, 8] (List.range 39) (by kernel_rfl) (by kernel_rfl)
          simp [List.range, List.range.loop] at e
          rw [t8] at e
          rw [e]
          clear e hfr hsl s8 t8
          rename_i K2 hK2
          refine hK2 _ _ ?_
          go_wp2_with fail
          go_ret
          exact ⟨rfl, Gr.trans HGW.out hfin⟩
      | false =>
        go_wp2_with fail
        refine Flow.region (SlMayC t b kb o N p cp hp m k1 k2 O1 O2 O3 LM n Z) (Gr W0) (fun _ _ => True) (by kernel_rfl) (by kernel_rfl) (fun _ _ _ _ h _ => h) ⟨rfl, rfl, rfl, Nat.le_refl _, fun _ _ => rfl⟩ ?steps ?fin
        case steps =>
          refine Flow.Steps.cons (fun a W hfr hinv hdep K hK => ?_) ?_
          · have s9 : a.tmps.getD 9 undef = .pointer (some ⟨b, 0, none⟩) := hfr.at 9 (by kernel_rfl)
            have t9 : a.tmps[9]?.getD undef = .pointer (some ⟨b, 0, none⟩) := by simpa using s9
            rw [if_pos (Flow.wanted_none rfl)]
            clear hfr hdep
            go_simp
            exact hK _ _ True.intro hinv (fun d hd => by cases hd; trivial)
          refine Flow.Steps.cons (fun a W hfr hinv hdep K hK => ?_) ?_
          · have s16 : a.tmps.getD 16 undef = .pointer (some ⟨b, 0, none⟩) := hdep 16 (by kernel_rfl)
            have t16 : a.tmps[16]?.getD undef = .pointer (some ⟨b, 0, none⟩) := by simpa using s16
            rw [if_pos (Flow.wanted_none rfl)]
            clear hfr hdep
            go_simp
            exact hK _ _ True.intro hinv (fun d hd => by cases hd; trivial)
          refine Flow.Steps.cons (fun a W hfr hinv hdep K hK => ?_) ?_
          · have s17 : a.tmps.getD 17 undef = .bool false := hdep 17 (by kernel_rfl)
            have t17 : a.tmps[17]?.getD undef = .bool false := by simpa using s17
            rw [if_pos (Flow.wanted_none rfl)]
            clear hfr hdep
            go_simp
            exact hK _ _ True.intro hinv (fun d hd => by cases hd; trivial)
          refine Flow.Steps.cons (fun a W hfr hinv hdep K hK => ?_) ?_
          · have sg : a.tmps.getD 18 undef = .bool false := hdep 18 (by kernel_rfl)
            have s9 : a.tmps.getD 9 undef = .pointer (some ⟨b, 0, none⟩) := hfr.at 9 (by kernel_rfl)
            have t9 : a.tmps[9]?.getD undef = .pointer (some ⟨b, 0, none⟩) := by simpa using s9
            rw [if_pos (Flow.wanted_yes 2 false 18 rfl (by kernel_rfl) sg)]
            clear hfr hdep
            go_simp
            exact hK _ _ True.intro hinv (fun d hd => by cases hd; trivial)
          refine Flow.Steps.cons (fun a W hfr hinv hdep K hK => ?_) ?_
          · have sg : a.tmps.getD 18 undef = .bool false := hdep 18 (by kernel_rfl)
            have s1 : a.tmps.getD 1 undef = .int .u64 (o : Int) := hfr.at 1 (by kernel_rfl)
            have t1 : a.tmps[1]?.getD undef = .int .u64 (o : Int) := by simpa using s1
            rw [if_pos (Flow.wanted_yes 2 false 18 rfl (by kernel_rfl) sg)]
            clear hfr hdep
            go_simp
            exact hK _ _ True.intro hinv (fun d hd => by cases hd; trivial)
          refine Flow.Steps.cons (fun a W hfr hinv hdep K hK => ?_) ?_
          · have sg : a.tmps.getD 18 undef = .bool false := hdep 18 (by kernel_rfl)
            have s3 : a.tmps.getD 3 undef = .int .i64 m := hfr.at 3 (by kernel_rfl)
            have t3 : a.tmps[3]?.getD undef = .int .i64 m := by simpa using s3
            rw [if_pos (Flow.wanted_yes 2 false 18 rfl (by kernel_rfl) sg)]
            clear hfr hdep
            go_simp
            exact hK _ _ True.intro hinv (fun d hd => by cases hd; trivial)
          refine Flow.Steps.cons (fun a W hfr hinv hdep K hK => ?_) ?_
          · have sg : a.tmps.getD 18 undef = .bool false := hdep 18 (by kernel_rfl)
            have s19 : a.tmps.getD 19 undef = .pointer (some ⟨b, 0, none⟩) := hdep 19 (by kernel_rfl)
            have t19 : a.tmps[19]?.getD undef = .pointer (some ⟨b, 0, none⟩) := by simpa using s19
            have s20 : a.tmps.getD 20 undef = .int .u64 (o : Int) := hdep 20 (by kernel_rfl)
            have t20 : a.tmps[20]?.getD undef = .int .u64 (o : Int) := by simpa using s20
            have s21 : a.tmps.getD 21 undef = .int .i64 m := hdep 21 (by kernel_rfl)
            have t21 : a.tmps[21]?.getD undef = .int .i64 m := by simpa using s21
            rw [if_pos (Flow.wanted_yes 2 false 18 rfl (by kernel_rfl) sg)]
            clear hfr hdep
            go_simp
            refine (HF.out W hinv).mono ?_
            rintro e W' ⟨rfl, g1⟩
            exact hK _ _ True.intro (Gr.trans hinv g1) (fun d hd => by cases hd; trivial)
          refine Flow.Steps.cons (fun a W hfr hinv hdep K hK => ?_) ?_
          · have sg : a.tmps.getD 18 undef = .bool false := hdep 18 (by kernel_rfl)
            have s22 : a.tmps.getD 22 undef = .bool true := hdep 22 (by kernel_rfl)
            have t22 : a.tmps[22]?.getD undef = .bool true := by simpa using s22
            rw [if_pos (Flow.wanted_yes 2 false 18 rfl (by kernel_rfl) sg)]
            clear hfr hdep
            go_simp
            exact hK _ _ True.intro hinv (fun d hd => by cases hd; trivial)
          refine Flow.Steps.cons (fun a W hfr hinv hdep K hK => ?_) ?_
          · have sg : a.tmps.getD 23 undef = .bool true := hdep 23 (by kernel_rfl)
            have s0 : a.tmps.getD 0 undef = .pointer (some ⟨t, 0, none⟩) := hfr.at 0 (by kernel_rfl)
            have t0 : a.tmps[0]?.getD undef = .pointer (some ⟨t, 0, none⟩) := by simpa using s0
            rw [if_pos (Flow.wanted_yes 7 true 23 rfl (by kernel_rfl) sg)]
            clear hfr hdep
            go_simp
            exact hK _ _ True.intro hinv (fun d hd => by cases hd; trivial)
          refine Flow.Steps.cons (fun a W hfr hinv hdep K hK => ?_) ?_
          · have sg : a.tmps.getD 23 undef = .bool true := hdep 23 (by kernel_rfl)
            have s1 : a.tmps.getD 1 undef = .int .u64 (o : Int) := hfr.at 1 (by kernel_rfl)
            have t1 : a.tmps[1]?.getD undef = .int .u64 (o : Int) := by simpa using s1
            rw [if_pos (Flow.wanted_yes 7 true 23 rfl (by kernel_rfl) sg)]
            clear hfr hdep
            go_simp
            exact hK _ _ True.intro hinv (fun d hd => by cases hd; trivial)
          refine Flow.Steps.cons (fun a W hfr hinv hdep K hK => ?_) ?_
          · have sg : a.tmps.getD 23 undef = .bool true := hdep 23 (by kernel_rfl)
            have s24 : a.tmps.getD 24 undef = .pointer (some ⟨t, 0, none⟩) := hdep 24 (by kernel_rfl)
            have t24 : a.tmps[24]?.getD undef = .pointer (some ⟨t, 0, none⟩) := by simpa using s24
            have s25 : a.tmps.getD 25 undef = .int .u64 (o : Int) := hdep 25 (by kernel_rfl)
            have t25 : a.tmps[25]?.getD undef = .int .u64 (o : Int) := by simpa using s25
            rw [if_pos (Flow.wanted_yes 7 true 23 rfl (by kernel_rfl) sg)]
            clear hfr hdep
            go_simp
            refine (HO.out W hinv).mono ?_
            rintro e W' ⟨rfl, g1⟩
            exact hK _ _ True.intro (Gr.trans hinv g1) (fun d hd => by cases hd; trivial)
          refine Flow.Steps.cons (fun a W hfr hinv hdep K hK => ?_) ?_
          · have sg : a.tmps.getD 23 undef = .bool true := hdep 23 (by kernel_rfl)
            have s6 : a.tmps.getD 6 undef = .pointer (some ⟨kb, 0, none⟩) := hfr.at 6 (by kernel_rfl)
            have t6 : a.tmps[6]?.getD undef = .pointer (some ⟨kb, 0, none⟩) := by simpa using s6
            have kc := (HB.out W hinv).cell 0; have kd := (HB.out W hinv).cell 1; have lc := (HL.out W hinv).cell 2; simp at kc kd lc
            rw [if_pos (Flow.wanted_yes 7 true 23 rfl (by kernel_rfl) sg)]
            clear hfr hdep
            go_simp
            exact hK _ _ True.intro hinv (fun d hd => by cases hd; trivial)
          refine Flow.Steps.cons (fun a W hfr hinv hdep K hK => ?_) ?_
          · have sg : a.tmps.getD 23 undef = .bool true := hdep 23 (by kernel_rfl)
            have s26 : a.tmps.getD 26 undef = .agg #[.map hp, .int .i64 O1, .int .i64 O2, .int .i64 O3] := hdep 26 (by kernel_rfl)
            have t26 : a.tmps[26]?.getD undef = .agg #[.map hp, .int .i64 O1, .int .i64 O2, .int .i64 O3] := by simpa using s26
            have s27 : a.tmps.getD 27 undef = .agg #[.int .i64 k1, .int .i64 k2] := hdep 27 (by kernel_rfl)
            have t27 : a.tmps[27]?.getD undef = .agg #[.int .i64 k1, .int .i64 k2] := by simpa using s27
            rw [if_pos (Flow.wanted_yes 7 true 23 rfl (by kernel_rfl) sg)]
            clear hfr hdep
            go_simp
            refine (HA.out W hinv).mono ?_
            rintro e W' ⟨rfl, g1⟩
            exact hK _ _ True.intro (Gr.trans hinv g1) (fun d hd => by cases hd; trivial)
          refine Flow.Steps.cons (fun a W hfr hinv hdep K hK => ?_) ?_
          · have sg : a.tmps.getD 23 undef = .bool true := hdep 23 (by kernel_rfl)
            have s28 : a.tmps.getD 28 undef = .bool false := hdep 28 (by kernel_rfl)
            have t28 : a.tmps[28]?.getD undef = .bool false := by simpa using s28
            rw [if_pos (Flow.wanted_yes 7 true 23 rfl (by kernel_rfl) sg)]
            clear hfr hdep
            go_simp
            exact hK _ _ True.intro hinv (fun d hd => by cases hd; trivial)
          refine Flow.Steps.cons (fun a W hfr hinv hdep K hK => ?_) ?_
          · have sg : a.tmps.getD 29 undef = .bool false := hdep 29 (by kernel_rfl)
            have s9 : a.tmps.getD 9 undef = .pointer (some ⟨b, 0, none⟩) := hfr.at 9 (by kernel_rfl)
            have t9 : a.tmps[9]?.getD undef = .pointer (some ⟨b, 0, none⟩) := by simpa using s9
            rw [if_pos (Flow.wanted_yes 13 false 29 rfl (by kernel_rfl) sg)]
            clear hfr hdep
            go_simp
            exact hK _ _ True.intro hinv (fun d hd => by cases hd; trivial)
          refine Flow.Steps.cons (fun a W hfr hinv hdep K hK => ?_) ?_
          · have sg : a.tmps.getD 29 undef = .bool false := hdep 29 (by kernel_rfl)
            have s30 : a.tmps.getD 30 undef = .pointer (some ⟨b, 0, none⟩) := hdep 30 (by kernel_rfl)
            have t30 : a.tmps[30]?.getD undef = .pointer (some ⟨b, 0, none⟩) := by simpa using s30
            rw [if_pos (Flow.wanted_yes 13 false 29 rfl (by kernel_rfl) sg)]
            clear hfr hdep
            go_simp
            exact hK _ _ True.intro hinv (fun d hd => by cases hd; trivial)
          refine Flow.Steps.cons (fun a W hfr hinv hdep K hK => ?_) ?_
          · have sg : a.tmps.getD 29 undef = .bool false := hdep 29 (by kernel_rfl)
            have s31 : a.tmps.getD 31 undef = .pointer (some ⟨b, 0, none⟩) := hdep 31 (by kernel_rfl)
            have t31 : a.tmps[31]?.getD undef = .pointer (some ⟨b, 0, none⟩) := by simpa using s31
            rw [if_pos (Flow.wanted_yes 13 false 29 rfl (by kernel_rfl) sg)]
            clear hfr hdep
            go_simp
            exact hK _ _ True.intro hinv (fun d hd => by cases hd; trivial)
          refine Flow.Steps.cons (fun a W hfr hinv hdep K hK => ?_) ?_
          · have sg : a.tmps.getD 29 undef = .bool false := hdep 29 (by kernel_rfl)
            have s32 : a.tmps.getD 32 undef = .pointer (some ⟨b, 2, none⟩) := hdep 32 (by kernel_rfl)
            have t32 : a.tmps[32]?.getD undef = .pointer (some ⟨b, 2, none⟩) := by simpa using s32
            have kc := (HB.out W hinv).cell 0; have kd := (HB.out W hinv).cell 1; have lc := (HL.out W hinv).cell 2; simp at kc kd lc
            rw [if_pos (Flow.wanted_yes 13 false 29 rfl (by kernel_rfl) sg)]
            clear hfr hdep
            go_simp
            exact hK _ _ True.intro hinv (fun d hd => by cases hd; trivial)
          refine Flow.Steps.cons (fun a W hfr hinv hdep K hK => ?_) ?_
          · have sg : a.tmps.getD 29 undef = .bool false := hdep 29 (by kernel_rfl)
            have s33 : a.tmps.getD 33 undef = .slice p N cp := hdep 33 (by kernel_rfl)
            have t33 : a.tmps[33]?.getD undef = .slice p N cp := by simpa using s33
            rw [if_pos (Flow.wanted_yes 13 false 29 rfl (by kernel_rfl) sg)]
            clear hfr hdep
            go_simp
            exact hK _ _ True.intro hinv (fun d hd => by cases hd; trivial)
          refine Flow.Steps.cons (fun a W hfr hinv hdep K hK => ?_) ?_
          · have sg : a.tmps.getD 29 undef = .bool false := hdep 29 (by kernel_rfl)
            have s34 : a.tmps.getD 34 undef = .int .i64 N := hdep 34 (by kernel_rfl)
            have t34 : a.tmps[34]?.getD undef = .int .i64 N := by simpa using s34
            have hz := HZ.out
            rw [if_pos (Flow.wanted_yes 13 false 29 rfl (by kernel_rfl) sg)]
            clear hfr hdep
            go_simp
            exact hK _ _ True.intro hinv (fun d hd => by cases hd; trivial)
          refine Flow.Steps.cons (fun a W hfr hinv hdep K hK => ?_) ?_
          · have sg : a.tmps.getD 23 undef = .bool true := hdep 23 (by kernel_rfl)
            have s29 : a.tmps.getD 29 undef = .bool false := hdep 29 (by kernel_rfl)
            have t29 : a.tmps[29]?.getD undef = .bool false := by simpa using s29
            have s35 : a.tmps.getD 35 undef = .bool Z := hdep 35 (by kernel_rfl)
            have t35 : a.tmps[35]?.getD undef = .bool Z := by simpa using s35
            rw [if_pos (Flow.wanted_yes 7 true 23 rfl (by kernel_rfl) sg)]
            clear hfr hdep
            go_simp
            exact hK _ _ True.intro hinv (fun d hd => by cases hd; trivial)
          refine Flow.Steps.cons (fun a W hfr hinv hdep K hK => ?_) ?_
          · have sg : a.tmps.getD 18 undef = .bool false := hdep 18 (by kernel_rfl)
            have s23 : a.tmps.getD 23 undef = .bool true := hdep 23 (by kernel_rfl)
            have t23 : a.tmps[23]?.getD undef = .bool true := by simpa using s23
            have s36 : a.tmps.getD 36 undef = .bool Z := hdep 36 (by kernel_rfl)
            have t36 : a.tmps[36]?.getD undef = .bool Z := by simpa using s36
            rw [if_pos (Flow.wanted_yes 2 false 18 rfl (by kernel_rfl) sg)]
            clear hfr hdep
            go_simp
            exact hK _ _ True.intro hinv (fun d hd => by cases hd; trivial)
          refine Flow.Steps.cons (fun a W hfr hinv hdep K hK => ?_) ?_
          · have s18 : a.tmps.getD 18 undef = .bool false := hdep 18 (by kernel_rfl)
            have t18 : a.tmps[18]?.getD undef = .bool false := by simpa using s18
            have s37 : a.tmps.getD 37 undef = .bool Z := hdep 37 (by kernel_rfl)
            have t37 : a.tmps[37]?.getD undef = .bool Z := by simpa using s37
            rw [if_pos (Flow.wanted_none rfl)]
            clear hfr hdep
            go_simp
            exact hK _ _ True.intro hinv (fun d hd => by cases hd; trivial)
          refine Flow.Steps.cons (fun a W hfr hinv hdep K hK => ?_) ?_
          · have s38 : a.tmps.getD 38 undef = .bool Z := hdep 38 (by kernel_rfl)
            have t38 : a.tmps[38]?.getD undef = .bool Z := by simpa using s38
            rw [if_pos (Flow.wanted_none rfl)]
            clear hfr hdep
            go_simp
            exact hK _ _ True.intro hinv (fun d hd => by cases hd; trivial)
          exact True.intro
        case fin =>
          intro a W hfr hfin hsl
          have s8 : a.tmps.getD 8 undef = .bool Z := hsl 23 _ 8 rfl rfl
          have t8 : a.tmps[8]?.getD undef = .bool Z := by simpa using s8
          have e := Flow.frame hfr [16, 17, 18, 19, 20, 21, 22, 23, 24, 25, 26, 27, 28, 29, 30, 31, 32, 33, 34, 35, 36, 37, 38, 8] (List.range 39) (by kernel_rfl) (by kernel_rfl)
          simp [List.range, List.range.loop] at e
          rw [t8] at e
          rw [e]
          clear e hfr hsl s8 t8
          rename_i K2 hK2
          refine hK2 _ _ ?_
          go_wp2_with fail
          go_ret
          exact ⟨rfl, Gr.trans HGW.out hfin⟩
end
end Go.Proofs.Ytbmcdlcoojmppaa

/-
  The code's table of locks: how it turns.
-/
namespace Go.Proofs.Ytbmcdlcoojmppaa
open Go.RowKit Go.Maps

/-- Only blocks of S, and new ones, have turned. -/
structure Onl (S : Nat → Prop) (w w' : World) : Prop where
  os : w'.os = w.os
  tape : w'.tape = w.tape
  output : w'.output = w.output
  size : w.heap.size ≤ w'.heap.size
  block : ∀ n, n < w.heap.size → ¬ S n → w'.heap[n]? = w.heap[n]?
section
variable {S S' : Nat → Prop} {w w' w'' : World}
theorem Onl.refl (S : Nat → Prop) (w : World) : Onl S w w := ⟨rfl, rfl, rfl, Nat.le_refl _, fun _ _ _ => rfl⟩
theorem Onl.of_gr (h : Gr w w') : Onl S w w' := ⟨h.os, h.tape, h.output, h.size, fun n hn _ => h.block n hn⟩
theorem Onl.of_grown {m : Nat} (h : w.grownBy w' (some m)) (hm : S m) : Onl S w w' := ⟨h.os, h.tape, h.output, h.size, fun n hn hs => h.block n hn fun e => by cases e; exact hs hm⟩
theorem Onl.of_set {a : Addr} (v : Value) (ha : S a.block) : Onl S w (w.setCell a v) := ⟨rfl, rfl, rfl, by simp, fun n hn hs => Below.heap_setCell _ _ _ _ fun e => hs (by rw [e]; exact ha)⟩
theorem Onl.mono (h : Onl S w w') (k : ∀ n, n < w.heap.size → S n → S' n) : Onl S' w w' := ⟨h.os, h.tape, h.output, h.size, fun n hn hs => h.block n hn fun e => hs (k n hn e)⟩
theorem Onl.trans (h : Onl S w w') (k : Onl S' w' w'') (hs : ∀ n, n < w.heap.size → S' n → S n) : Onl S w w'' :=
  ⟨k.os.trans h.os, k.tape.trans h.tape, k.output.trans h.output, Nat.le_trans h.size k.size, fun n hn hs' => (k.block n (Nat.lt_of_lt_of_le hn h.size) fun e => hs' (hs n hn e)).trans (h.block n hn hs')⟩
theorem Onl.below (h : Onl S w w') {b : Nat} (hb : b ≤ w.heap.size) (hS : ∀ n, S n → b ≤ n) : Below b w w' := ⟨h.os, h.tape, h.output, h.size, fun n hn => h.block n (by omega) fun e => by have := hS n e; omega⟩
end
/-- The blocks of a table. -/
def FB (B : Tag → Option Nat) (n : Nat) : Prop := ∃ a, B a = some n
/-- Blocks, and new ones. -/
def New (w : World) (B B' : Tag → Option Nat) : Prop := ∀ a n, B' a = some n → FB B n ∨ w.heap.size ≤ n
theorem New.refl (w : World) (B : Tag → Option Nat) : New w B B := fun a n h => .inl ⟨a, h⟩
theorem New.trans {w w' : World} {B B' B'' : Tag → Option Nat} (h : New w B B') (k : New w' B' B'') (hs : w.heap.size ≤ w'.heap.size) : New w B B'' := fun a n hn => by
  rcases k a n hn with ⟨c, hc⟩ | h1
  · exact h c n hc
  · exact .inr (by omega)
/-- The table turns, and nothing else does. -/
structure Tn (w w' : World) (B B' : Tag → Option Nat) : Prop where
  onl : Onl (FB B) w w'
  new : New w B B'
theorem Tn.refl (w : World) (B : Tag → Option Nat) : Tn w w B B := ⟨Onl.refl _ _, New.refl _ _⟩
theorem Tn.trans {w w' w'' : World} {B B' B'' : Tag → Option Nat} (h : Tn w w' B B') (k : Tn w' w'' B' B'') : Tn w w'' B B'' :=
  ⟨h.onl.trans k.onl fun n hn ⟨a, ha⟩ => by
    rcases h.new a n ha with h1 | h1
    · exact h1
    · omega, h.new.trans k.new h.onl.size⟩
theorem Tn.of_gr {w w' : World} {B : Tag → Option Nat} (h : Gr w w') : Tn w w' B B := ⟨Onl.of_gr h, New.refl _ _⟩
section
variable {w w' : World} {t km om : Nat} {B : Tag → Option Nat} {T : Tb}
/-- One lock turns. -/
theorem TbAt.setLk (h : TbAt w t km om B T) {k : Key} {l l' : Lk} (hk : T.lk k = some l) {ol : Option Nat} (hw : Onl (fun n => B (.lk k) = some n ∨ B (.hm k) = some n ∨ B (.ln k) = some n) w w')
    (hl : LkAt w' (B (.lk k)) (B (.hm k)) ol l') (hol : ∀ n, ol = some n → B (.ln k) = some n ∨ w.heap.size ≤ n) :
    TbAt w' t km om (updF B (.ln k) ol) { T with lk := updF T.lk k (some l') } ∧ Tn w w' B (updF B (.ln k) ol) := by
  have hs : ∀ a n, B a = some n → a ≠ .lk k → a ≠ .hm k → a ≠ .ln k → w'.heap[n]? = w.heap[n]? := fun a n hn h1 h2 h3 => hw.block n (h.lt a n hn) fun e => by
    rcases e with e | e | e
    · exact h1 (h.inj _ _ _ hn e)
    · exact h2 (h.inj _ _ _ hn e)
    · exact h3 (h.inj _ _ _ hn e)
  have hb : ∀ a, a ≠ .ln k → updF B (.ln k) ol a = B a := fun a ha => updF_other _ _ ha
  refine ⟨⟨by rw [hb _ (by simp)]; exact h.bt, by rw [hb _ (by simp)]; exact h.bk, by rw [hb _ (by simp)]; exact h.bo, fun a b n ha hb' => ?_, h.blk.stays (hs _ _ h.bt (by simp) (by simp) (by simp)), ?_, ?_, fun k' l2 hk' => ?_, fun o p ho => ?_, fun k' hk' => ?_, fun o ho => ?_⟩, ⟨hw.mono fun n _ e => by rcases e with e | e | e <;> exact ⟨_, e⟩, fun a n ha => ?_⟩⟩
  · by_cases ea : a = .ln k
    · by_cases eb : b = .ln k
      · rw [ea, eb]
      · rw [ea, updF_same] at ha
        rw [hb b eb] at hb'
        rcases hol n ha with h1 | h1
        · exact ea.trans (h.inj _ _ _ h1 hb')
        · have := h.lt b n hb'; omega
    · rw [hb a ea] at ha
      by_cases eb : b = .ln k
      · rw [eb, updF_same] at hb'
        rcases hol n hb' with h1 | h1
        · exact (h.inj _ _ _ ha h1).trans eb.symm
        · have := h.lt a n ha; omega
      · rw [hb b eb] at hb'
        exact h.inj _ _ _ ha hb'
  · have e : (fun k' => (updF T.lk k (some l') k').map fun _ => ptrB (updF B (.ln k) ol (.lk k'))) = fun k' => (T.lk k').map fun _ => ptrB (B (.lk k')) := by
      funext k'
      rw [hb _ (by simp)]
      by_cases e : k' = k
      · rw [e, updF_same, hk]; rfl
      · rw [updF_other _ _ e]
    rw [e]
    exact h.keys.stays (hs _ _ h.bk (by simp) (by simp) (by simp))
  · have e : (fun o => (T.py o).map fun _ => ptrB (updF B (.ln k) ol (.py o))) = fun o => (T.py o).map fun _ => ptrB (B (.py o)) := by
      funext o
      rw [hb _ (by simp)]
    show Mp _ _ _ _ (fun o => (T.py o).map fun _ => ptrB (updF B (.ln k) ol (.py o))) _
    rw [e]
    exact h.owners.stays (hs _ _ h.bo (by simp) (by simp) (by simp))
  · by_cases e : k' = k
    · subst e
      have : l2 = l' := by
        have hk2 : updF T.lk k' (some l') k' = some l2 := hk'
        rw [updF_same] at hk2
        exact (Option.some.inj hk2).symm
      rw [this, hb _ (by simp), hb _ (by simp), updF_same]
      exact hl
    · have hk2 : T.lk k' = some l2 := by
        have hk2 : updF T.lk k (some l') k' = some l2 := hk'
        rwa [updF_other _ _ e] at hk2
      rw [hb _ (by simp), hb _ (by simp), hb _ (by simp [e])]
      exact (h.lk k' l2 hk2).stays (fun n hn => hs _ n hn (by simp [e]) (by simp) (by simp)) (fun n hn => hs _ n hn (by simp) (by simp [e]) (by simp)) (fun n hn => hs _ n hn (by simp) (by simp) (by simp [e]))
  · rw [hb _ (by simp), hb _ (by simp)]
    exact (h.py o p ho).stays (fun n hn => hs _ n hn (by simp) (by simp) (by simp)) (fun n hn => hs _ n hn (by simp) (by simp) (by simp))
  · have hk2 : updF T.lk k (some l') k' = none := hk'
    by_cases e : k' = k
    · rw [e, updF_same] at hk2; cases hk2
    · rw [updF_other _ _ e] at hk2
      rw [hb _ (by simp), hb _ (by simp), hb _ (by simp [e])]
      exact h.lk0 k' hk2
  · rw [hb _ (by simp), hb _ (by simp)]
    exact h.py0 o ho
  · by_cases ea : a = .ln k
    · rw [ea, updF_same] at ha
      rcases hol n ha with h1 | h1
      · exact .inl ⟨_, h1⟩
      · exact .inr h1
    · rw [hb a ea] at ha
      exact .inl ⟨a, ha⟩
/-- One party turns. -/
theorem TbAt.setPy (h : TbAt w t km om B T) {o : Nat} {p p' : Py} (ho : T.py o = some p) (hw : Onl (fun n => B (.py o) = some n ∨ B (.pm o) = some n) w w') (hp : PyAt w' (B (.py o)) (B (.pm o)) p') :
    TbAt w' t km om B { T with py := updF T.py o (some p') } ∧ Tn w w' B B := by
  have hs : ∀ a n, B a = some n → a ≠ .py o → a ≠ .pm o → w'.heap[n]? = w.heap[n]? := fun a n hn h1 h2 => hw.block n (h.lt a n hn) fun e => by
    rcases e with e | e
    · exact h1 (h.inj _ _ _ hn e)
    · exact h2 (h.inj _ _ _ hn e)
  refine ⟨⟨h.bt, h.bk, h.bo, h.inj, h.blk.stays (hs _ _ h.bt (by simp) (by simp)), h.keys.stays (hs _ _ h.bk (by simp) (by simp)), ?_, fun k l hk => ?_, fun o' p2 ho' => ?_, h.lk0, fun o' ho' => ?_⟩, ⟨hw.mono fun n _ e => by rcases e with e | e <;> exact ⟨_, e⟩, New.refl _ _⟩⟩
  · have e : (fun o' => (updF T.py o (some p') o').map fun _ => ptrB (B (.py o'))) = fun o' => (T.py o').map fun _ => ptrB (B (.py o')) := by
      funext o'
      by_cases e : o' = o
      · rw [e, updF_same, ho]; rfl
      · rw [updF_other _ _ e]
    show Mp _ _ _ _ (fun o' => (updF T.py o (some p') o').map fun _ => ptrB (B (.py o'))) _
    rw [e]
    exact h.owners.stays (hs _ _ h.bo (by simp) (by simp))
  · exact (h.lk k l hk).stays (fun n hn => hs _ n hn (by simp) (by simp)) (fun n hn => hs _ n hn (by simp) (by simp)) (fun n hn => hs _ n hn (by simp) (by simp))
  · have ho2 : updF T.py o (some p') o' = some p2 := ho'
    by_cases e : o' = o
    · subst e
      rw [updF_same] at ho2
      rw [← Option.some.inj ho2]
      exact hp
    · rw [updF_other _ _ e] at ho2
      exact (h.py o' p2 ho2).stays (fun n hn => hs _ n hn (by simp [e]) (by simp)) (fun n hn => hs _ n hn (by simp) (by simp [e]))
  · have ho2 : updF T.py o (some p') o' = none := ho'
    by_cases e : o' = o
    · rw [e, updF_same] at ho2; cases ho2
    · rw [updF_other _ _ e] at ho2
      exact h.py0 o' ho2
/-- The count turns. -/
theorem TbAt.setMany (h : TbAt w t km om B T) (n : Int) : TbAt (w.setCell ⟨t, 2, none⟩ (.int .i64 n)) t km om B { T with many := n } ∧ Tn w (w.setCell ⟨t, 2, none⟩ (.int .i64 n)) B B := by
  have hs : ∀ a m, B a = some m → a ≠ .tb → (w.setCell ⟨t, 2, none⟩ (.int .i64 n)).heap[m]? = w.heap[m]? := fun a m hm ha => Below.heap_setCell _ _ _ _ fun e => ha (h.inj _ _ _ hm (by rw [e]; exact h.bt))
  exact ⟨⟨h.bt, h.bk, h.bo, h.inj, h.blk.set 2 _, h.keys.stays (hs _ _ h.bk (by simp)), h.owners.stays (hs _ _ h.bo (by simp)), fun k l hk => (h.lk k l hk).stays (fun n hn => hs _ n hn (by simp)) (fun n hn => hs _ n hn (by simp)) (fun n hn => hs _ n hn (by simp)),
    fun o p ho => (h.py o p ho).stays (fun n hn => hs _ n hn (by simp)) (fun n hn => hs _ n hn (by simp)), h.lk0, h.py0⟩, ⟨Onl.of_set _ ⟨.tb, h.bt⟩, New.refl _ _⟩⟩
/-- A party comes in. -/
theorem TbAt.addPy (h : TbAt w t km om B T) {o : Nat} {p' : Py} (ho : T.py o = none) {b g : Nat} (hbg : b ≠ g) (hb : w.heap.size ≤ b) (hg : w.heap.size ≤ g) (hw : Onl (fun n => n = om) w w') (hp : PyAt w' (some b) (some g) p')
    (hm : Mp Try.prog KO w' om (updF (fun o => (T.py o).map fun _ => ptrB (B (.py o))) o (some (ptrB (some b)))) (putK o T.oo)) :
    TbAt w' t km om (updF (updF B (.py o) (some b)) (.pm o) (some g)) { T with py := updF T.py o (some p'), oo := putK o T.oo } ∧ Tn w w' B (updF (updF B (.py o) (some b)) (.pm o) (some g)) := by
  have hs : ∀ a n, B a = some n → a ≠ .om → w'.heap[n]? = w.heap[n]? := fun a n hn h1 => hw.block n (h.lt a n hn) fun e => h1 (h.inj _ _ _ hn (by rw [e]; exact h.bo))
  obtain ⟨B', hB'⟩ : ∃ B', B' = updF (updF B (.py o) (some b)) (.pm o) (some g) := ⟨_, rfl⟩
  have b1 : B' (.py o) = some b := by rw [hB', updF_other _ _ (by simp), updF_same]
  have b2 : B' (.pm o) = some g := by rw [hB', updF_same]
  have b3 : ∀ a, a ≠ .py o → a ≠ .pm o → B' a = B a := fun a h1 h2 => by rw [hB', updF_other _ _ h2, updF_other _ _ h1]
  rw [← hB']
  clear hB'
  have b4 : ∀ a n, B' a = some n → (a = .py o ∧ n = b) ∨ (a = .pm o ∧ n = g) ∨ (B a = some n ∧ n < w.heap.size) := fun a n hn => by
    by_cases e1 : a = .py o
    · rw [e1, b1] at hn; cases hn; exact .inl ⟨e1, rfl⟩
    · by_cases e2 : a = .pm o
      · rw [e2, b2] at hn; cases hn; exact .inr (.inl ⟨e2, rfl⟩)
      · rw [b3 a e1 e2] at hn; exact .inr (.inr ⟨hn, h.lt a n hn⟩)
  refine ⟨⟨by rw [b3 _ (by simp) (by simp)]; exact h.bt, by rw [b3 _ (by simp) (by simp)]; exact h.bk, by rw [b3 _ (by simp) (by simp)]; exact h.bo, fun a c n ha hc => ?_, h.blk.stays (hs _ _ h.bt (by simp)), ?_, ?_, fun k l hk => ?_, fun o' p2 ho' => ?_, fun k hk => ?_, fun o' ho' => ?_⟩, ⟨hw.mono fun n _ e => ⟨.om, by rw [e]; exact h.bo⟩, fun a n ha => ?_⟩⟩
  · rcases b4 a n ha with ⟨e1, e2⟩ | ⟨e1, e2⟩ | ⟨e1, e2⟩ <;> rcases b4 c n hc with ⟨f1, f2⟩ | ⟨f1, f2⟩ | ⟨f1, f2⟩
    · rw [e1, f1]
    · exact absurd (e2.symm.trans f2) hbg
    · omega
    · exact absurd (f2.symm.trans e2) hbg
    · rw [e1, f1]
    · omega
    · omega
    · omega
    · exact h.inj _ _ _ e1 f1
  · have e : (fun k => (T.lk k).map fun _ => ptrB (B' (.lk k))) = fun k => (T.lk k).map fun _ => ptrB (B (.lk k)) := by
      funext k
      rw [b3 _ (by simp) (by simp)]
    show Mp _ _ _ _ (fun k => (T.lk k).map fun _ => ptrB (B' (.lk k))) _
    rw [e]
    exact h.keys.stays (hs _ _ h.bk (by simp))
  · have e : (fun o' => (updF T.py o (some p') o').map fun _ => ptrB (B' (.py o'))) = updF (fun o => (T.py o).map fun _ => ptrB (B (.py o))) o (some (ptrB (some b))) := by
      funext o'
      by_cases e : o' = o
      · rw [e, updF_same, updF_same, b1]; rfl
      · rw [updF_other _ _ e, updF_other _ _ e, b3 _ (by simp [e]) (by simp)]
    show Mp _ _ _ _ (fun o' => (updF T.py o (some p') o').map fun _ => ptrB (B' (.py o'))) _
    rw [e]
    exact hm
  · rw [b3 _ (by simp) (by simp), b3 _ (by simp) (by simp), b3 _ (by simp) (by simp)]
    exact (h.lk k l hk).stays (fun n hn => hs _ n hn (by simp)) (fun n hn => hs _ n hn (by simp)) (fun n hn => hs _ n hn (by simp))
  · have ho2 : updF T.py o (some p') o' = some p2 := ho'
    by_cases e : o' = o
    · subst e
      rw [updF_same] at ho2
      rw [← Option.some.inj ho2, b1, b2]
      exact hp
    · rw [updF_other _ _ e] at ho2
      rw [b3 _ (by simp [e]) (by simp), b3 _ (by simp) (by simp [e])]
      exact (h.py o' p2 ho2).stays (fun n hn => hs _ n hn (by simp)) (fun n hn => hs _ n hn (by simp))
  · rw [b3 _ (by simp) (by simp), b3 _ (by simp) (by simp), b3 _ (by simp) (by simp)]
    exact h.lk0 k hk
  · have ho2 : updF T.py o (some p') o' = none := ho'
    by_cases e : o' = o
    · rw [e, updF_same] at ho2; cases ho2
    · rw [updF_other _ _ e] at ho2
      rw [b3 _ (by simp [e]) (by simp), b3 _ (by simp) (by simp [e])]
      exact h.py0 o' ho2
  · rcases b4 a n ha with ⟨_, e⟩ | ⟨_, e⟩ | ⟨e, _⟩
    · exact .inr (by omega)
    · exact .inr (by omega)
    · exact .inl ⟨a, e⟩
/-- A lock comes in. -/
theorem TbAt.addLk (h : TbAt w t km om B T) {k : Key} {l' : Lk} (hk : T.lk k = none) {b g : Nat} (hbg : b ≠ g) (hb : w.heap.size ≤ b) (hg : w.heap.size ≤ g) (hw : Onl (fun n => n = km) w w') (hl : LkAt w' (some b) (some g) none l')
    (hm : Mp Try.prog KL w' km (updF (fun k => (T.lk k).map fun _ => ptrB (B (.lk k))) k (some (ptrB (some b)))) (putK k T.kk)) :
    TbAt w' t km om (updF (updF B (.lk k) (some b)) (.hm k) (some g)) { T with lk := updF T.lk k (some l'), kk := putK k T.kk } ∧ Tn w w' B (updF (updF B (.lk k) (some b)) (.hm k) (some g)) := by
  have hs : ∀ a n, B a = some n → a ≠ .km → w'.heap[n]? = w.heap[n]? := fun a n hn h1 => hw.block n (h.lt a n hn) fun e => h1 (h.inj _ _ _ hn (by rw [e]; exact h.bk))
  obtain ⟨B', hB'⟩ : ∃ B', B' = updF (updF B (.lk k) (some b)) (.hm k) (some g) := ⟨_, rfl⟩
  have b1 : B' (.lk k) = some b := by rw [hB', updF_other _ _ (by simp), updF_same]
  have b2 : B' (.hm k) = some g := by rw [hB', updF_same]
  have b3 : ∀ a, a ≠ .lk k → a ≠ .hm k → B' a = B a := fun a h1 h2 => by rw [hB', updF_other _ _ h2, updF_other _ _ h1]
  rw [← hB']
  clear hB'
  have b4 : ∀ a n, B' a = some n → (a = .lk k ∧ n = b) ∨ (a = .hm k ∧ n = g) ∨ (B a = some n ∧ n < w.heap.size) := fun a n hn => by
    by_cases e1 : a = .lk k
    · rw [e1, b1] at hn; cases hn; exact .inl ⟨e1, rfl⟩
    · by_cases e2 : a = .hm k
      · rw [e2, b2] at hn; cases hn; exact .inr (.inl ⟨e2, rfl⟩)
      · rw [b3 a e1 e2] at hn; exact .inr (.inr ⟨hn, h.lt a n hn⟩)
  refine ⟨⟨by rw [b3 _ (by simp) (by simp)]; exact h.bt, by rw [b3 _ (by simp) (by simp)]; exact h.bk, by rw [b3 _ (by simp) (by simp)]; exact h.bo, fun a c n ha hc => ?_, h.blk.stays (hs _ _ h.bt (by simp)), ?_, ?_, fun k' l2 hk' => ?_, fun o' p2 ho' => ?_, fun k' hk' => ?_, fun o' ho' => ?_⟩, ⟨hw.mono fun n _ e => ⟨.km, by rw [e]; exact h.bk⟩, fun a n ha => ?_⟩⟩
  · rcases b4 a n ha with ⟨e1, e2⟩ | ⟨e1, e2⟩ | ⟨e1, e2⟩ <;> rcases b4 c n hc with ⟨f1, f2⟩ | ⟨f1, f2⟩ | ⟨f1, f2⟩
    · rw [e1, f1]
    · exact absurd (e2.symm.trans f2) hbg
    · omega
    · exact absurd (f2.symm.trans e2) hbg
    · rw [e1, f1]
    · omega
    · omega
    · omega
    · exact h.inj _ _ _ e1 f1
  · have e : (fun k' => (updF T.lk k (some l') k').map fun _ => ptrB (B' (.lk k'))) = updF (fun k => (T.lk k).map fun _ => ptrB (B (.lk k))) k (some (ptrB (some b))) := by
      funext k'
      by_cases e : k' = k
      · rw [e, updF_same, updF_same, b1]; rfl
      · rw [updF_other _ _ e, updF_other _ _ e, b3 _ (by simp [e]) (by simp)]
    show Mp _ _ _ _ (fun k' => (updF T.lk k (some l') k').map fun _ => ptrB (B' (.lk k'))) _
    rw [e]
    exact hm
  · have e : (fun o => (T.py o).map fun _ => ptrB (B' (.py o))) = fun o => (T.py o).map fun _ => ptrB (B (.py o)) := by
      funext o
      rw [b3 _ (by simp) (by simp)]
    show Mp _ _ _ _ (fun o => (T.py o).map fun _ => ptrB (B' (.py o))) _
    rw [e]
    exact h.owners.stays (hs _ _ h.bo (by simp))
  · have hk2 : updF T.lk k (some l') k' = some l2 := hk'
    by_cases e : k' = k
    · subst e
      rw [updF_same] at hk2
      rw [← Option.some.inj hk2, b1, b2, b3 _ (by simp) (by simp), (h.lk0 k' hk).2.2]
      exact hl
    · rw [updF_other _ _ e] at hk2
      rw [b3 _ (by simp [e]) (by simp), b3 _ (by simp) (by simp [e]), b3 _ (by simp) (by simp)]
      exact (h.lk k' l2 hk2).stays (fun n hn => hs _ n hn (by simp)) (fun n hn => hs _ n hn (by simp)) (fun n hn => hs _ n hn (by simp))
  · rw [b3 _ (by simp) (by simp), b3 _ (by simp) (by simp)]
    exact (h.py o' p2 ho').stays (fun n hn => hs _ n hn (by simp)) (fun n hn => hs _ n hn (by simp))
  · have hk2 : updF T.lk k (some l') k' = none := hk'
    by_cases e : k' = k
    · rw [e, updF_same] at hk2; cases hk2
    · rw [updF_other _ _ e] at hk2
      rw [b3 _ (by simp [e]) (by simp), b3 _ (by simp) (by simp [e]), b3 _ (by simp) (by simp)]
      exact h.lk0 k' hk2
  · rw [b3 _ (by simp) (by simp), b3 _ (by simp) (by simp)]
    exact h.py0 o' ho'
  · rcases b4 a n ha with ⟨_, e⟩ | ⟨_, e⟩ | ⟨e, _⟩
    · exact .inr (by omega)
    · exact .inr (by omega)
    · exact .inl ⟨a, e⟩
end
end Go.Proofs.Ytbmcdlcoojmppaa

/-
  The code's table of locks: New, Len, made.
-/
namespace Go.Proofs.Ytbmcdlcoojmppaa
open Go.RowKit Go.Maps

def Tb.new : Tb := ⟨fun _ => none, fun _ => none, 0, [], []⟩
def B0 (w : World) : Tag → Option Nat | .tb => some (w.heap.size + 1 + 1) | .km => some w.heap.size | .om => some (w.heap.size + 1) | _ => none
set_option maxRecDepth 100000 in
theorem New_any (w : World) : Calls Try.prog 8 #[] w fun e w' => ∃ t km om B, e = .returned (.pointer (some ⟨t, 0, none⟩)) ∧ TbAt w' t km om B Tb.new ∧ Gr w w' ∧ (∀ n, FB B n → w.heap.size ≤ n) := by
  have hmm := @run_makeMap Try.prog
  go_enter Try.func8, Try.ntmps8
  go_wp2
  go_ret
  have g1 : Gr w (w.alloc (.map #[] 0)) := (Gr.refl w).alloc (Nat.le_refl _) _
  have g2 : Gr (w.alloc (.map #[] 0)) ((w.alloc (.map #[] 0)).alloc (.map #[] 0)) := (Gr.refl _).alloc (Nat.le_refl _) _
  have g3 : Gr ((w.alloc (.map #[] 0)).alloc (.map #[] 0)) (((w.alloc (.map #[] 0)).alloc (.map #[] 0)).alloc (.cells #[.map (some w.heap.size), .map (some (w.heap.size + 1)), .int .i64 0] TTb)) := (Gr.refl _).alloc (Nat.le_refl _) _
  have hb := Blk.new ((w.alloc (.map #[] 0)).alloc (.map #[] 0)) TTb #[.map (some w.heap.size), .map (some (w.heap.size + 1)), .int .i64 0]
  have m1 : Mp Try.prog KL (w.alloc (.map #[] 0)) w.heap.size (fun _ => none) [] := Mp.made w
  have m2 : Mp Try.prog KO ((w.alloc (.map #[] 0)).alloc (.map #[] 0)) (w.heap.size + 1) (fun _ => none) [] := by
    have := Mp.made (P := Try.prog) (K := KO) (w.alloc (.map #[] 0))
    rwa [World.size_alloc] at this
  simp only [World.size_alloc] at hb
  refine ⟨w.heap.size + 1 + 1, w.heap.size, w.heap.size + 1, B0 w, rfl, ⟨rfl, rfl, rfl, fun a b n ha hb => ?_, hb, (m1.stays (g2.block _ m1.lt)).stays (g3.block _ (by simp; omega)), m2.stays (g3.block _ m2.lt), (fun _ _ h => by cases h), (fun _ _ h => by cases h), fun _ _ => ⟨rfl, rfl, rfl⟩, fun _ _ => ⟨rfl, rfl⟩⟩, Gr.trans g1 (Gr.trans g2 g3), fun n hn => ?_⟩
  · cases a <;> cases b <;> simp [B0] at ha hb <;> first | rfl | omega
  · obtain ⟨a, ha⟩ := hn
    cases a <;> simp [B0] at ha <;> omega
section
variable {w : World} {t km om : Nat} {B : Tag → Option Nat} {T : Tb}
set_option maxRecDepth 100000 in
theorem Len_any (h : TbAt w t km om B T) : Calls Try.prog 16 #[.pointer (some ⟨t, 0, none⟩)] w fun e w' => e = .returned (.int .i64 T.many) ∧ w = w' := by
  have c2 := h.c3.2.2
  have HM := Lib.hid (missing_no h)
  clear h
  go_enter Try.func16, Try.ntmps16
  go_wp2_with fail
  refine HM.out.mono ?_
  rintro e w' ⟨rfl, rfl⟩
  go_wp2_with fail
  go_ret
  exact ⟨rfl, rfl⟩
/-- An owner has a party. -/
def Tb.made (T : Tb) (o : Nat) : Tb := match T.py o with | none => { T with py := updF T.py o (some Py.zero), oo := putK o T.oo } | some _ => T
def RetMade (t km om : Nat) (B : Tag → Option Nat) (T : Tb) (o : Nat) (w : World) (e : Ending) (w' : World) : Prop :=
  ∃ b B', e = .returned (.pointer (some ⟨b, 0, none⟩)) ∧ B' (.py o) = some b ∧ TbAt w' t km om B' (T.made o) ∧ Tn w w' B B' ∧ ∀ k, B' (.lk k) = B (.lk k) ∧ B' (.hm k) = B (.hm k)
set_option maxRecDepth 100000 in
theorem made_any (h : TbAt w t km om B T) {o : Nat} (ho : KO.dom o) (hn : T.oo.length < maxLen) : Calls Try.prog 43 #[.pointer (some ⟨t, 0, none⟩), .int .u64 (o : Int)] w (RetMade t km om B T o w) := by
  have c1 := h.c3.2.1
  have hl := h.lookO ho
  cases e : T.py o with
  | some p =>
    obtain ⟨b, h', e1, e2, e3, e4⟩ := h.py o p e
    rw [e1] at hl
    have hl' : (Instr.lookup TMo (.map (some om)) (.int .u64 (o : Int)) false).run Try.prog w = .ok (.pointer (some ⟨b, 0, none⟩)) w := hl
    have HR : Hid (RetMade t km om B T o w (.returned (.pointer (some ⟨b, 0, none⟩))) w) := Lib.hid ⟨b, B, rfl, e1, by unfold Tb.made; rw [e]; exact h, Tn.refl _ _, fun _ => ⟨rfl, rfl⟩⟩
    clear h hl e e1 e2 e3 e4
    go_enter Try.func43, Try.ntmps43
    go_wp2_with fail
    go_ret
    exact HR.out
  | none =>
    rw [(h.py0 o e).1] at hl
    have hl' : (Instr.lookup TMo (.map (some om)) (.int .u64 (o : Int)) false).run Try.prog w = .ok (.pointer none) w := hl
    have g1 : Gr w (w.alloc (.map #[] 0)) := (Gr.refl w).alloc (Nat.le_refl _) _
    have g2 : Gr (w.alloc (.map #[] 0)) ((w.alloc (.map #[] 0)).alloc (.cells #[.map (some w.heap.size), .int .i64 0, .int .i64 0, .int .i64 0] TPy)) := (Gr.refl _).alloc (Nat.le_refl _) _
    have hb := Blk.new (w.alloc (.map #[] 0)) TPy #[.map (some w.heap.size), .int .i64 0, .int .i64 0, .int .i64 0]
    have m1 : Mp Try.prog KL (w.alloc (.map #[] 0)) w.heap.size (fun _ => none) [] := Mp.made w
    have h2 := h.gr (Gr.trans g1 g2)
    rw [World.size_alloc] at hb
    have d1 := h2.c3.2.1
    obtain ⟨W, hW⟩ : ∃ W, W = (w.alloc (.map #[] 0)).alloc (.cells #[.map (some w.heap.size), .int .i64 0, .int .i64 0, .int .i64 0] TPy) := ⟨_, rfl⟩
    rw [← hW] at g2 hb h2 d1
    obtain ⟨w3, hrun, hM, hG⟩ := h2.owners.store KO_ok hn (t := TMo) Try.underlying46 ho (.pointer (some ⟨w.heap.size + 1, 0, none⟩))
    rw [show KO.val o = .int .u64 (o : Int) from rfl] at hrun
    have hml := m1.lt
    have hne : ∀ n, n < W.heap.size → n ≠ om → w3.heap[n]? = W.heap[n]? := fun n h1 h2 => hG.block n h1 fun e => h2 (by cases e; rfl)
    have homl : om < w.heap.size := h.owners.lt
    have hp : PyAt w3 (some (w.heap.size + 1)) (some w.heap.size) Py.zero :=
      ⟨_, _, rfl, rfl, hb.stays (hne _ hb.lt (by omega)), (m1.stays (g2.block _ hml)).stays (hne _ (by have := g2.size; omega) (by omega))⟩
    have hw : Onl (fun n => n = om) w w3 := (Onl.of_gr (Gr.trans g1 g2)).trans (Onl.of_grown (S := fun n => n = om) hG rfl) (fun _ _ e => e)
    obtain ⟨r1, r2⟩ := h.addPy e (by omega) (by omega) (by omega) hw hp hM
    have HR : Hid (RetMade t km om B T o w (.returned (.pointer (some ⟨w.heap.size + 1, 0, none⟩))) w3) := Lib.hid ⟨_, _, rfl, by rw [updF_other _ _ (by simp), updF_same], by unfold Tb.made; rw [e]; exact r1, r2, fun k => ⟨by rw [updF_other _ _ (by simp), updF_other _ _ (by simp)], by rw [updF_other _ _ (by simp), updF_other _ _ (by simp)]⟩⟩
    rw [hW] at hrun d1
    have hmm := @run_makeMap Try.prog
    clear h hl e g1 g2 hb m1 h2 hW hM hG hml hne homl hp hw r1 r2
    go_enter Try.func43, Try.ntmps43
    go_wp2_with fail
    go_ret
    exact HR.out
end
end Go.Proofs.Ytbmcdlcoojmppaa

