
/-
  Which layout a sector is: the document's answer.
-/
import Derived.Test.YtanajjfcnedaiaaOfs
import Derived.Test.YtanajjfcnedaiaaSuperBytesWalk
namespace Go.Proofs.Ytanajjfcnedaiaa
open Go.RowKit Cr

def SlO1 (_ : Nat) (_ : Sec) (_ : Sec) (slot : Nat) (v : Value) (_ : World) : Prop :=
  match slot with
  | 18 => v = .bool false
  | 19 | 20 | 25 => v = .bool true
  | _ => True

def SlO2 (N : Nat) (T : Sec) (_ : Sec) (slot : Nat) (v : Value) (_ : World) : Prop :=
  match slot with
  | 18 => v = .bool true
  | 19 | 20 | 24 | 25 => v = .bool false
  | 21 => v = .agg #[.int .i64 (N : Int), .int .i64 (logOf (N : Int)), .int .i64 (grpOf (N : Int))]
  | 22 | 23 => v = .agg (sec T)
  | _ => True

def SlO3 (N : Nat) (T : Sec) (S : Sec) (slot : Nat) (v : Value) (_ : World) : Prop :=
  match slot with
  | 18 | 24 | 25 => v = .bool true
  | 19 | 20 => v = .bool false
  | 21 => v = .agg #[.int .i64 (N : Int), .int .i64 (logOf (N : Int)), .int .i64 (grpOf (N : Int))]
  | 22 => v = .agg (sec T)
  | 23 => v = .agg (sec S)
  | _ => True

theorem at_dec {xs : List Int} (h : IsSec xs) (f k : Nat) (hk : 1 ≤ k) (h8 : k ≤ 8) (hf : f + k ≤ 256) : atR xs f k = Wd.dec ((xs.drop f).take k) := by
  have hs : standsB xs.length f k = true := standsB_iff.2 ⟨by omega, by omega, by omega, by rw [h.len]; omega⟩
  unfold atR
  rw [if_pos hs]
  rfl

set_option maxRecDepth 100000 in
set_option maxHeartbeats 2000000 in
theorem refOf_any (xs : List Int) (w : World) (hx : IsSec xs) : Calls Try.prog 32 #[.agg (sec (Sx xs))] w (RetOf (lyOk xs) (lyN xs) (logOf (lyN xs)) (grpOf (lyN xs)) (.bool (lyOk xs)) w) := by
  have hN : lyN xs < 256 ^ 4 := at_lt hx.small 8 4 (by omega)
  have hB0 := (Blk.new w TS (sec (Sx xs))).alloc (.cells #[.int .i64 0, .int .i64 0, .int .i64 0] TY)
  have hr0 := Blk.new (w.alloc (.cells (sec (Sx xs)) TS)) TY #[.int .i64 0, .int .i64 0, .int .i64 0]
  simp only [World.size_alloc] at hr0
  have hget := refGet_any _ _ _ _ _ ((hB0.byt hx).sub (by omega) 8 4 248 (by omega) (by omega) (by simp only [maxLen]; omega)) (by omega)
  rw [← at_dec hx 8 4 (by omega) (by omega) (by omega), Nat.zero_add] at hget
  rw [show atR xs ((8 : Nat) : Int) ((4 : Nat) : Int) = lyN xs from rfl] at hget
  have HGET := Lib.hid hget
  have HMK := Lib.hid (refMake_any (lyN xs))
  have HBY := Lib.hid (fun h W => refBytes_may (mkN (lyN xs)) (mkL (lyN xs)) (mkG (lyN xs)) ((mayL_mk (lyN xs)).trans h) W)
  have HYS := lyB_sec (mkN (lyN xs)) (mkL (lyN xs)) (mkG (lyN xs))
  have HOK : Hid (okN (lyN xs) = true → (mkN (lyN xs) = lyN xs ∧ mkL (lyN xs) = logOf (lyN xs) ∧ mkG (lyN xs) = grpOf (lyN xs)) ∧ lyOk xs = decide (Sx (lyB (mkN (lyN xs)) (mkL (lyN xs)) (mkG (lyN xs))) = Sx xs)) := Lib.hid fun h => by
    have e1 : mkN (lyN xs) = lyN xs ∧ mkL (lyN xs) = logOf (lyN xs) ∧ mkG (lyN xs) = grpOf (lyN xs) := by simp [mkN, mkL, mkG, h]
    refine ⟨e1, ?_⟩
    unfold lyOk
    rw [h, Bool.true_and, decide_eq_decide, Sx_inj HYS hx, e1.1, e1.2.1, e1.2.2]
    exact eq_comm
  have HNO : Hid (okN (lyN xs) = false → lyOk xs = false) := Lib.hid fun h => by unfold lyOk; rw [h]; rfl
  have HBIG : Hid (4096 < lyN xs → lyOk xs = false) := Lib.hid fun h => by unfold lyOk; rw [show okN (lyN xs) = false from decide_eq_false (by omega)]; rfl
  unfold RetSec at HBY
  obtain ⟨N, hNN⟩ : ∃ N, N = lyN xs := ⟨_, rfl⟩
  obtain ⟨m0, e0⟩ : ∃ m, m = mkN (lyN xs) := ⟨_, rfl⟩
  obtain ⟨m1, e1⟩ : ∃ m, m = mkL (lyN xs) := ⟨_, rfl⟩
  obtain ⟨m2, e2⟩ : ∃ m, m = mkG (lyN xs) := ⟨_, rfl⟩
  rw [← e0, ← e1, ← e2] at HBY HOK HMK
  obtain ⟨T, e4⟩ : ∃ T, T = Sx (lyB m0 m1 m2) := ⟨_, rfl⟩
  obtain ⟨S, e3⟩ : ∃ S, S = Sx xs := ⟨_, rfl⟩
  rw [← e4] at HBY HOK
  rw [← e3] at HOK HGET hB0 hr0 ⊢
  obtain ⟨K, e5⟩ : ∃ K, K = lyOk xs := ⟨_, rfl⟩
  obtain ⟨O, e6⟩ : ∃ O, O = okN (lyN xs) := ⟨_, rfl⟩
  rw [← e6] at HBY HOK HNO HMK
  rw [← hNN] at hN HGET HMK HOK HBIG ⊢
  rw [← e5] at HOK HNO HBIG ⊢
  have hN2 : N < 4294967296 := hN
  have HB0 := Lib.hid hB0
  have HR0 := Lib.hid hr0
  have HG0 := Lib.hid (((Gr.refl w).alloc (Nat.le_refl _) (.cells (sec S) TS)).alloc (by simp) (.cells #[.int .i64 0, .int .i64 0, .int .i64 0] TY))
  clear hget hN hNN e0 e1 e2 e3 e4 e5 e6 hx hr0 hB0 HYS
  by_cases hbig : 4096 < N
  · have e6 := HBIG.out hbig
    subst e6
    clear HBIG HNO HOK
    go_enter Try.func32, Try.ntmps32
    go_wp2_with fail
    refine HGET.out.mono ?_
    rintro e w1 ⟨rfl, rfl⟩
    go_wp2_with fail
    go_returns
    exact ⟨rfl, HG0.out⟩
  · have hle : N ≤ 4096 := by omega
    clear hbig HBIG
    go_enter Try.func32, Try.ntmps32
    go_wp2_with fail
    refine HGET.out.mono ?_
    rintro e w1 ⟨rfl, rfl⟩
    go_wp2_with fail
    refine (HMK.out _).mono ?_
    rintro e w2 ⟨rfl, g2⟩
    have HB2 := Lib.hid ((HB0.out.below g2 HB0.out.lt).alloc (.cells #[.int .i64 m0, .int .i64 m1, .int .i64 m2] TY))
    have HR2 := Lib.hid ((HR0.out.below g2 HR0.out.lt).alloc (.cells #[.int .i64 m0, .int .i64 m1, .int .i64 m2] TY))
    have HS2 := Lib.hid (Blk.new w2 TY #[.int .i64 m0, .int .i64 m1, .int .i64 m2])
    have hg := Below.trans HG0.out (g2.mono HG0.out.size)
    have HG2 := Lib.hid (hg.alloc hg.size (.cells #[.int .i64 m0, .int .i64 m1, .int .i64 m2] TY))
    obtain ⟨V, hV⟩ : ∃ V, V = w2.alloc (.cells #[.int .i64 m0, .int .i64 m1, .int .i64 m2] TY) := ⟨_, rfl⟩
    rw [← hV] at HB2 HR2 HS2 HG2
    obtain ⟨g5, hg5⟩ : ∃ g5, g5 = w2.heap.size := ⟨_, rfl⟩
    rw [← hg5] at HS2
    have HV := Lib.hid hV
    have HG5 := Lib.hid hg5
    clear g2 hg hV hg5 HB0 HR0 HG0 HMK HGET
    go_wp2_with fail
    rw [← HV.out, ← HG5.out]
    cases O
    · have e6 := HNO.out (by first | rfl | trivial)
      subst e6
      clear HNO HOK HBY
      refine Flow.region (SlO1 N T S) (Gr V) (fun _ _ => True) (by kernel_rfl) (by kernel_rfl) (fun _ _ _ _ h _ => h) ⟨rfl, rfl, rfl, Nat.le_refl _, fun _ _ => rfl⟩ ?steps ?fin
      case steps =>
        refine Flow.Steps.cons (fun a W hfr hinv hdep K hK => ?_) ?_
        · have s6 : a.tmps.getD 6 undef = .bool false := hfr.at 6 (by kernel_rfl)
          have t6 : a.tmps[6]?.getD undef = .bool false := by simpa using s6
          rw [if_pos (Flow.wanted_none rfl)]
          clear hfr hdep
          go_simp
          exact hK _ _ True.intro hinv (fun d hd => by cases hd; trivial)
        refine Flow.Steps.cons (fun a W hfr hinv hdep K hK => ?_) ?_
        · have s18 : a.tmps.getD 18 undef = .bool false := hdep 18 (by kernel_rfl)
          have t18 : a.tmps[18]?.getD undef = .bool false := by simpa using s18
          rw [if_pos (Flow.wanted_none rfl)]
          clear hfr hdep
          go_simp
          exact hK _ _ True.intro hinv (fun d hd => by cases hd; trivial)
        refine Flow.Steps.cons (fun a W hfr hinv hdep K hK => ?_) ?_
        · have s19 : a.tmps.getD 19 undef = .bool true := hdep 19 (by kernel_rfl)
          have t19 : a.tmps[19]?.getD undef = .bool true := by simpa using s19
          rw [if_pos (Flow.wanted_none rfl)]
          clear hfr hdep
          go_simp
          exact hK _ _ True.intro hinv (fun d hd => by cases hd; trivial)
        refine Flow.Steps.cons (fun a W hfr hinv hdep K hK => ?_) ?_
        · have sg : a.tmps.getD 20 undef = .bool !false := hdep 20 (by kernel_rfl)
          have s5 : a.tmps.getD 5 undef = .pointer (some ⟨g5, 0, none⟩) := hfr.at 5 (by kernel_rfl)
          have t5 : a.tmps[5]?.getD undef = .pointer (some ⟨g5, 0, none⟩) := by simpa using s5
          rw [if_neg (Flow.wanted_no 2 false 20 rfl (by kernel_rfl) sg)]
          clear hfr hdep
          exact hK _ _ True.intro hinv (fun d hd => by cases hd; trivial)
        refine Flow.Steps.cons (fun a W hfr hinv hdep K hK => ?_) ?_
        · have sg : a.tmps.getD 20 undef = .bool !false := hdep 20 (by kernel_rfl)
          rw [if_neg (Flow.wanted_no 2 false 20 rfl (by kernel_rfl) sg)]
          clear hfr hdep
          exact hK _ _ True.intro hinv (fun d hd => by cases hd; trivial)
        refine Flow.Steps.cons (fun a W hfr hinv hdep K hK => ?_) ?_
        · have sg : a.tmps.getD 20 undef = .bool !false := hdep 20 (by kernel_rfl)
          have s1 : a.tmps.getD 1 undef = .pointer (some ⟨w.heap.size, 0, none⟩) := hfr.at 1 (by kernel_rfl)
          have t1 : a.tmps[1]?.getD undef = .pointer (some ⟨w.heap.size, 0, none⟩) := by simpa using s1
          rw [if_neg (Flow.wanted_no 2 false 20 rfl (by kernel_rfl) sg)]
          clear hfr hdep
          exact hK _ _ True.intro hinv (fun d hd => by cases hd; trivial)
        refine Flow.Steps.cons (fun a W hfr hinv hdep K hK => ?_) ?_
        · have sg : a.tmps.getD 20 undef = .bool !false := hdep 20 (by kernel_rfl)
          rw [if_neg (Flow.wanted_no 2 false 20 rfl (by kernel_rfl) sg)]
          clear hfr hdep
          exact hK _ _ True.intro hinv (fun d hd => by cases hd; trivial)
        refine Flow.Steps.cons (fun a W hfr hinv hdep K hK => ?_) ?_
        · have s20 : a.tmps.getD 20 undef = .bool true := hdep 20 (by kernel_rfl)
          have t20 : a.tmps[20]?.getD undef = .bool true := by simpa using s20
          rw [if_pos (Flow.wanted_none rfl)]
          clear hfr hdep
          go_simp
          exact hK _ _ True.intro hinv (fun d hd => by cases hd; trivial)
        exact True.intro
      case fin =>
        intro a W hfr hfin hsl
        have s25 : a.tmps.getD 25 undef = .bool true := hsl 7 _ 25 rfl rfl
        have t25 : a.tmps[25]?.getD undef = .bool true := by simpa using s25
        have e := Flow.frame hfr [18, 19, 20, 21, 22, 23, 24, 25] (List.range 28) (by kernel_rfl) (by kernel_rfl)
        simp [List.range, List.range.loop] at e
        rw [t25] at e
        rw [e]
        clear e hfr hsl s25 t25
        rename_i K2 hK2
        refine hK2 _ _ ?_
        obtain ⟨⟨c0, c1, c2⟩, f0, f1, f2⟩ := (HR2.out.below hfin HR2.out.lt).c3
        have HR3 := Lib.hid (HR2.out.below hfin HR2.out.lt)
        have HG3 := Lib.hid (Gr.trans HG2.out hfin)
        clear hfin
        go_wp2_with fail
        exact bodyPost_ret (results_ly rfl _ _ (w.heap.size + 1) #[.int .i64 0, .int .i64 0, .int .i64 0] _ rfl rfl rfl (((HR3.out.set 0 _).set 1 _).set 2 _)) rfl ⟨rfl, below_set3 HG3.out (by omega)⟩
    · obtain ⟨⟨e6, e7, e8⟩, hK⟩ := HOK.out (by first | rfl | trivial)
      subst e6 e7 e8
      have HBB := Lib.hid (HBY.out (by first | rfl | trivial))
      clear HNO HOK HBY
      by_cases hs : T = S
      · subst hs
        rw [decide_eq_true rfl] at hK
        subst hK
        refine Flow.region (SlO2 N T T) (Gr V) (fun _ _ => True) (by kernel_rfl) (by kernel_rfl) (fun _ _ _ _ h _ => h) ⟨rfl, rfl, rfl, Nat.le_refl _, fun _ _ => rfl⟩ ?steps ?fin
        case steps =>
          refine Flow.Steps.cons (fun a W hfr hinv hdep K hK => ?_) ?_
          · have s6 : a.tmps.getD 6 undef = .bool true := hfr.at 6 (by kernel_rfl)
            have t6 : a.tmps[6]?.getD undef = .bool true := by simpa using s6
            rw [if_pos (Flow.wanted_none rfl)]
            clear hfr hdep
            go_simp
            exact hK _ _ True.intro hinv (fun d hd => by cases hd; trivial)
          refine Flow.Steps.cons (fun a W hfr hinv hdep K hK => ?_) ?_
          · have s18 : a.tmps.getD 18 undef = .bool true := hdep 18 (by kernel_rfl)
            have t18 : a.tmps[18]?.getD undef = .bool true := by simpa using s18
            rw [if_pos (Flow.wanted_none rfl)]
            clear hfr hdep
            go_simp
            exact hK _ _ True.intro hinv (fun d hd => by cases hd; trivial)
          refine Flow.Steps.cons (fun a W hfr hinv hdep K hK => ?_) ?_
          · have s19 : a.tmps.getD 19 undef = .bool false := hdep 19 (by kernel_rfl)
            have t19 : a.tmps[19]?.getD undef = .bool false := by simpa using s19
            rw [if_pos (Flow.wanted_none rfl)]
            clear hfr hdep
            go_simp
            exact hK _ _ True.intro hinv (fun d hd => by cases hd; trivial)
          refine Flow.Steps.cons (fun a W hfr hinv hdep K hK => ?_) ?_
          · have sg : a.tmps.getD 20 undef = .bool false := hdep 20 (by kernel_rfl)
            have s5 : a.tmps.getD 5 undef = .pointer (some ⟨g5, 0, none⟩) := hfr.at 5 (by kernel_rfl)
            have t5 : a.tmps[5]?.getD undef = .pointer (some ⟨g5, 0, none⟩) := by simpa using s5
            obtain ⟨b0, b1, b2⟩ := HS2.out.manyT hinv
            rw [if_pos (Flow.wanted_yes 2 false 20 rfl (by kernel_rfl) sg)]
            clear hfr hdep
            go_simp
            exact hK _ _ True.intro hinv (fun d hd => by cases hd; trivial)
          refine Flow.Steps.cons (fun a W hfr hinv hdep K hK => ?_) ?_
          · have sg : a.tmps.getD 20 undef = .bool false := hdep 20 (by kernel_rfl)
            have s21 : a.tmps.getD 21 undef = .agg #[.int .i64 (N : Int), .int .i64 (logOf (N : Int)), .int .i64 (grpOf (N : Int))] := hdep 21 (by kernel_rfl)
            have t21 : a.tmps[21]?.getD undef = .agg #[.int .i64 (N : Int), .int .i64 (logOf (N : Int)), .int .i64 (grpOf (N : Int))] := by simpa using s21
            rw [if_pos (Flow.wanted_yes 2 false 20 rfl (by kernel_rfl) sg)]
            clear hfr hdep
            go_simp
            refine (HBB.out W).mono ?_
            rintro e W' ⟨rfl, g1⟩
            exact hK _ _ True.intro (Gr.trans hinv g1) (fun d hd => by cases hd; trivial)
          refine Flow.Steps.cons (fun a W hfr hinv hdep K hK => ?_) ?_
          · have sg : a.tmps.getD 20 undef = .bool false := hdep 20 (by kernel_rfl)
            have s1 : a.tmps.getD 1 undef = .pointer (some ⟨w.heap.size, 0, none⟩) := hfr.at 1 (by kernel_rfl)
            have t1 : a.tmps[1]?.getD undef = .pointer (some ⟨w.heap.size, 0, none⟩) := by simpa using s1
            rw [if_pos (Flow.wanted_yes 2 false 20 rfl (by kernel_rfl) sg)]
            clear hfr hdep
            refine wp_load_x (.tmp 1) rfl (HB2.out.below hinv HB2.out.lt) (by simpa [Act.eval] using s1) ?_
            exact hK _ _ True.intro hinv (fun d hd => by cases hd; trivial)
          refine Flow.Steps.cons (fun a W hfr hinv hdep K hK => ?_) ?_
          · have sg : a.tmps.getD 20 undef = .bool false := hdep 20 (by kernel_rfl)
            have s22 : a.tmps.getD 22 undef = .agg (sec T) := hdep 22 (by kernel_rfl)
            have t22 : a.tmps[22]?.getD undef = .agg (sec T) := by simpa using s22
            have s23 : a.tmps.getD 23 undef = .agg (sec T) := hdep 23 (by kernel_rfl)
            have t23 : a.tmps[23]?.getD undef = .agg (sec T) := by simpa using s23
            have hq := eqi_sec
            rw [if_pos (Flow.wanted_yes 2 false 20 rfl (by kernel_rfl) sg)]
            clear hfr hdep
            go_simp
            exact hK _ _ True.intro hinv (fun d hd => by cases hd; trivial)
          refine Flow.Steps.cons (fun a W hfr hinv hdep K hK => ?_) ?_
          · have s20 : a.tmps.getD 20 undef = .bool false := hdep 20 (by kernel_rfl)
            have t20 : a.tmps[20]?.getD undef = .bool false := by simpa using s20
            have s24 : a.tmps.getD 24 undef = .bool false := hdep 24 (by kernel_rfl)
            have t24 : a.tmps[24]?.getD undef = .bool false := by simpa using s24
            rw [if_pos (Flow.wanted_none rfl)]
            clear hfr hdep
            go_simp
            exact hK _ _ True.intro hinv (fun d hd => by cases hd; trivial)
          exact True.intro
        case fin =>
          intro a W hfr hfin hsl
          have s25 : a.tmps.getD 25 undef = .bool false := hsl 7 _ 25 rfl rfl
          have t25 : a.tmps[25]?.getD undef = .bool false := by simpa using s25
          have e := Flow.frame hfr [18, 19, 20, 21, 22, 23, 24, 25] (List.range 28) (by kernel_rfl) (by kernel_rfl)
          simp [List.range, List.range.loop] at e
          rw [t25] at e
          rw [e]
          clear e hfr hsl s25 t25
          rename_i K2 hK2
          refine hK2 _ _ ?_
          obtain ⟨⟨c0, c1, c2⟩, f0, f1, f2⟩ := (HR2.out.below hfin HR2.out.lt).c3
          obtain ⟨⟨d0, d1, d2⟩, q0, q1, q2⟩ := (HS2.out.below hfin HS2.out.lt).c3
          have HR3 := Lib.hid (HR2.out.below hfin HR2.out.lt)
          have HG3 := Lib.hid (Gr.trans HG2.out hfin)
          clear hfin
          go_wp2_with fail
          exact bodyPost_ret (results_ly rfl _ _ (w.heap.size + 1) #[.int .i64 N, .int .i64 (logOf N), .int .i64 (grpOf N)] _ rfl rfl rfl (((HR3.out.set 0 _).set 1 _).set 2 _)) rfl ⟨rfl, below_set3 HG3.out (by omega)⟩
      · have HD : Hid (decide (T = S) = false) := Lib.hid (decide_eq_false hs)
        rw [HD.out] at hK
        subst hK
        clear hs
        refine Flow.region (SlO3 N T S) (Gr V) (fun _ _ => True) (by kernel_rfl) (by kernel_rfl) (fun _ _ _ _ h _ => h) ⟨rfl, rfl, rfl, Nat.le_refl _, fun _ _ => rfl⟩ ?steps ?fin
        case steps =>
          refine Flow.Steps.cons (fun a W hfr hinv hdep K hK => ?_) ?_
          · have s6 : a.tmps.getD 6 undef = .bool true := hfr.at 6 (by kernel_rfl)
            have t6 : a.tmps[6]?.getD undef = .bool true := by simpa using s6
            rw [if_pos (Flow.wanted_none rfl)]
            clear hfr hdep
            go_simp
            exact hK _ _ True.intro hinv (fun d hd => by cases hd; trivial)
          refine Flow.Steps.cons (fun a W hfr hinv hdep K hK => ?_) ?_
          · have s18 : a.tmps.getD 18 undef = .bool true := hdep 18 (by kernel_rfl)
            have t18 : a.tmps[18]?.getD undef = .bool true := by simpa using s18
            rw [if_pos (Flow.wanted_none rfl)]
            clear hfr hdep
            go_simp
            exact hK _ _ True.intro hinv (fun d hd => by cases hd; trivial)
          refine Flow.Steps.cons (fun a W hfr hinv hdep K hK => ?_) ?_
          · have s19 : a.tmps.getD 19 undef = .bool false := hdep 19 (by kernel_rfl)
            have t19 : a.tmps[19]?.getD undef = .bool false := by simpa using s19
            rw [if_pos (Flow.wanted_none rfl)]
            clear hfr hdep
            go_simp
            exact hK _ _ True.intro hinv (fun d hd => by cases hd; trivial)
          refine Flow.Steps.cons (fun a W hfr hinv hdep K hK => ?_) ?_
          · have sg : a.tmps.getD 20 undef = .bool false := hdep 20 (by kernel_rfl)
            have s5 : a.tmps.getD 5 undef = .pointer (some ⟨g5, 0, none⟩) := hfr.at 5 (by kernel_rfl)
            have t5 : a.tmps[5]?.getD undef = .pointer (some ⟨g5, 0, none⟩) := by simpa using s5
            obtain ⟨b0, b1, b2⟩ := HS2.out.manyT hinv
            rw [if_pos (Flow.wanted_yes 2 false 20 rfl (by kernel_rfl) sg)]
            clear hfr hdep
            go_simp
            exact hK _ _ True.intro hinv (fun d hd => by cases hd; trivial)
          refine Flow.Steps.cons (fun a W hfr hinv hdep K hK => ?_) ?_
          · have sg : a.tmps.getD 20 undef = .bool false := hdep 20 (by kernel_rfl)
            have s21 : a.tmps.getD 21 undef = .agg #[.int .i64 (N : Int), .int .i64 (logOf (N : Int)), .int .i64 (grpOf (N : Int))] := hdep 21 (by kernel_rfl)
            have t21 : a.tmps[21]?.getD undef = .agg #[.int .i64 (N : Int), .int .i64 (logOf (N : Int)), .int .i64 (grpOf (N : Int))] := by simpa using s21
            rw [if_pos (Flow.wanted_yes 2 false 20 rfl (by kernel_rfl) sg)]
            clear hfr hdep
            go_simp
            refine (HBB.out W).mono ?_
            rintro e W' ⟨rfl, g1⟩
            exact hK _ _ True.intro (Gr.trans hinv g1) (fun d hd => by cases hd; trivial)
          refine Flow.Steps.cons (fun a W hfr hinv hdep K hK => ?_) ?_
          · have sg : a.tmps.getD 20 undef = .bool false := hdep 20 (by kernel_rfl)
            have s1 : a.tmps.getD 1 undef = .pointer (some ⟨w.heap.size, 0, none⟩) := hfr.at 1 (by kernel_rfl)
            have t1 : a.tmps[1]?.getD undef = .pointer (some ⟨w.heap.size, 0, none⟩) := by simpa using s1
            rw [if_pos (Flow.wanted_yes 2 false 20 rfl (by kernel_rfl) sg)]
            clear hfr hdep
            refine wp_load_x (.tmp 1) rfl (HB2.out.below hinv HB2.out.lt) (by simpa [Act.eval] using s1) ?_
            exact hK _ _ True.intro hinv (fun d hd => by cases hd; trivial)
          refine Flow.Steps.cons (fun a W hfr hinv hdep K hK => ?_) ?_
          · have sg : a.tmps.getD 20 undef = .bool false := hdep 20 (by kernel_rfl)
            have s22 : a.tmps.getD 22 undef = .agg (sec T) := hdep 22 (by kernel_rfl)
            have t22 : a.tmps[22]?.getD undef = .agg (sec T) := by simpa using s22
            have s23 : a.tmps.getD 23 undef = .agg (sec S) := hdep 23 (by kernel_rfl)
            have t23 : a.tmps[23]?.getD undef = .agg (sec S) := by simpa using s23
            rw [if_pos (Flow.wanted_yes 2 false 20 rfl (by kernel_rfl) sg)]
            clear hfr hdep
            have hq := eqi_sec
            have hd := HD.out
            go_simp
            exact hK _ _ True.intro hinv (fun d hd => by cases hd; trivial)
          refine Flow.Steps.cons (fun a W hfr hinv hdep K hK => ?_) ?_
          · have s20 : a.tmps.getD 20 undef = .bool false := hdep 20 (by kernel_rfl)
            have t20 : a.tmps[20]?.getD undef = .bool false := by simpa using s20
            have s24 : a.tmps.getD 24 undef = .bool true := hdep 24 (by kernel_rfl)
            have t24 : a.tmps[24]?.getD undef = .bool true := by simpa using s24
            rw [if_pos (Flow.wanted_none rfl)]
            clear hfr hdep
            go_simp
            exact hK _ _ True.intro hinv (fun d hd => by cases hd; trivial)
          exact True.intro
        case fin =>
          intro a W hfr hfin hsl
          have s25 : a.tmps.getD 25 undef = .bool true := hsl 7 _ 25 rfl rfl
          have t25 : a.tmps[25]?.getD undef = .bool true := by simpa using s25
          have e := Flow.frame hfr [18, 19, 20, 21, 22, 23, 24, 25] (List.range 28) (by kernel_rfl) (by kernel_rfl)
          simp [List.range, List.range.loop] at e
          rw [t25] at e
          rw [e]
          clear e hfr hsl s25 t25
          rename_i K2 hK2
          refine hK2 _ _ ?_
          obtain ⟨⟨c0, c1, c2⟩, f0, f1, f2⟩ := (HR2.out.below hfin HR2.out.lt).c3
          have HR3 := Lib.hid (HR2.out.below hfin HR2.out.lt)
          have HG3 := Lib.hid (Gr.trans HG2.out hfin)
          clear hfin
          go_wp2_with fail
          exact bodyPost_ret (results_ly rfl _ _ (w.heap.size + 1) #[.int .i64 0, .int .i64 0, .int .i64 0] _ rfl rfl rfl (((HR3.out.set 0 _).set 1 _).set 2 _)) rfl ⟨rfl, below_set3 HG3.out (by omega)⟩

end Go.Proofs.Ytanajjfcnedaiaa
