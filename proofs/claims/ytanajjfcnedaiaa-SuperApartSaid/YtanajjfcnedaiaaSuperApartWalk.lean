
import Derived.Test.YtanajjfcnedaiaaTurned
import Derived.Test.YtanajjfcnedaiaaKnown4
import Derived.Test.YtanajjfcnedaiaaSuperGroupsWalk
import Derived.Deep.DeepCutAuto
import Derived.Deep.CutBlock
namespace Go.Proofs.Ytanajjfcnedaiaa
open Go.RowKit Cr

set_option maxRecDepth 100000 in
set_option maxHeartbeats 1000000 in
theorem superApart_no (n x i k : Int) (e s t : Nat) (b : Int) (w : World) (hn : okN n = false) : Calls Try.prog 7 #[.int .i64 n, .int .i64 x, .int .i64 i, .int .i64 k, .agg #[.int .u64 e, .int .u64 s, .int .u64 t], .int .i64 b] w (RetB true w) := by
  have hm := make_any n
  rw [show mkE n = 2 by unfold mkE; rw [hn]; rfl] at hm
  have HM := Lib.hid hm
  have HK := Lib.hid known_any
  obtain ⟨m0, e0⟩ : ∃ m, m = mkN n := ⟨_, rfl⟩
  obtain ⟨m1, e1⟩ : ∃ m, m = mkL n := ⟨_, rfl⟩
  obtain ⟨m2, e2⟩ : ∃ m, m = mkG n := ⟨_, rfl⟩
  rw [← e0, ← e1, ← e2] at HM
  clear hm hn e0 e1 e2
  go_enter Try.func7, Try.ntmps7
  go_wp2_with fail
  refine (HM.out _).mono ?_
  rintro e' w1 ⟨rfl, g1⟩
  have hg := grow1 g1
  have HG1 : Hid (Gr w (w1.alloc (.cells #[.int .i64 m0, .int .i64 m1, .int .i64 m2] TY))) := Lib.hid (hg.alloc hg.size _)
  clear g1 hg
  go_wp2_with fail
  refine (num_any _ _).mono ?_
  rintro e' w' ⟨rfl, rfl⟩
  go_wp2_with fail
  refine (HK.out _).mono ?_
  rintro e' w2 ⟨rfl, g2⟩
  go_wp2_with fail
  go_ret
  exact ⟨rfl, Gr.trans HG1.out g2⟩

set_option maxRecDepth 100000 in
set_option maxHeartbeats 100000000 in
theorem superApart_yes (n l g x i k : Int) (e s t : Nat) (b : Int) (w : World) (hm : mayL n l g = true) (x0 : -9223372036854775808 ≤ x ∧ x ≤ 9223372036854775807) (bi : i ≤ 9223372036854775807) (bk : k ≤ 9223372036854775807)
    (h0 : e ≤ 18446744073709551615) (h1 : s ≤ 18446744073709551615) (h2 : t ≤ 18446744073709551615) (hmk : ∀ W, Calls Try.prog 9 #[.int .i64 n] W (RetLy n l g 0 W)) :
    Calls Try.prog 7 #[.int .i64 n, .int .i64 x, .int .i64 i, .int .i64 k, .agg #[.int .u64 e, .int .u64 s, .int .u64 t], .int .i64 b] w (RetB true w) := by
  obtain ⟨i0, i1, i2, i3, i4, i5, i6, i7⟩ := may_in hm
  have HMK := Lib.hid hmk
  have HK := Lib.hid known_any
  have HGR := Lib.hid (group_any n l g)
  have HBL := Lib.hid (block_any n l g x)
  have HIN := Lib.hid (fun j W (h : j ≤ 9223372036854775807) => inode_any n l g j W h)
  have HBY := Lib.hid (bytes_any n l g)
  have HMB := Lib.hid (fun W => maBytes_any e s t W h0 h1 h2)
  have HO1 := Lib.hid (of_self n l g hm)
  have HO2 := Lib.hid (maOf_self e s t h0 h1 h2)
  have HO3 := Lib.hid (of_turned n l g)
  have HO4 := Lib.hid (maOf_turned e s t)
  unfold RetLy at HO1 HO3
  have HLY : Hid (bytesR n l g = lyB n l g) := Lib.hid (by unfold bytesR; rw [if_pos hm])
  rw [hm, HLY.out, err_t] at HBY
  rw [hm] at HBL HGR HIN
  obtain ⟨G, rfl⟩ := Int.eq_ofNat_of_zero_le (show 0 ≤ g by omega)
  have hb0 := Blk.new w TMa #[.int .u64 e, .int .u64 s, .int .u64 t]
  have HB0 := Lib.hid hb0
  clear hmk hm hb0
  go_enter Try.func7, Try.ntmps7
  go_upto_if 50 with fail
  refine (HMK.out _).mono ?_
  rintro e' w1 ⟨rfl, g1⟩
  have hA1 := Blk.new w1 TY #[.int .i64 n, .int .i64 l, .int .i64 G]
  have hB1 := (HB0.out.below g1 HB0.out.lt).alloc (.cells #[.int .i64 n, .int .i64 l, .int .i64 G] TY)
  have hg := grow1 g1
  have hG1 : Gr w (w1.alloc (.cells #[.int .i64 n, .int .i64 l, .int .i64 G] TY)) := hg.alloc hg.size _
  have hne : w.heap.size < w1.heap.size := lt_of_new g1
  obtain ⟨V, hV⟩ : ∃ V, V = w1.alloc (.cells #[.int .i64 n, .int .i64 l, .int .i64 G] TY) := ⟨_, rfl⟩
  obtain ⟨g13, hg13⟩ : ∃ g13, g13 = w1.heap.size := ⟨_, rfl⟩
  rw [← hV] at hA1 hB1 hG1
  rw [← hg13] at hA1 hne
  have HA1 := Lib.hid hA1
  have HB1 := Lib.hid hB1
  have HG1 := Lib.hid hG1
  have HV := Lib.hid hV
  have HG13 := Lib.hid hg13
  clear g1 hg hA1 hB1 hG1 hV hg13 HB0 HMK
  go_upto_if 50 with fail
  rw [← HV.out, ← HG13.out]
  refine (num_any _ _).mono ?_
  rintro e' w' ⟨rfl, rfl⟩
  obtain ⟨⟨c0, c1, c2⟩, _⟩ := HA1.out.c3
  go_upto_region 5 with fail
  go_cut [50] (fun s50 wx => s50 = .bool (decide (0 ≤ x ∧ x < 3)) ∧ V = wx)
  case first => as_aux_lemma =>
    by_cases q0 : 0 ≤ x
    · by_cases q1 : x < 3
      · have eq : decide (0 ≤ x ∧ x < 3) = true := decide_eq_true ⟨q0, q1⟩
        go_wp2_with fail
        go_meet
        exact ⟨by rw [eq], rfl⟩
      · have eq : decide (0 ≤ x ∧ x < 3) = false := decide_eq_false fun h => q1 h.2
        go_wp2_with fail
        go_meet
        exact ⟨by rw [eq], rfl⟩
    · have eq : decide (0 ≤ x ∧ x < 3) = false := decide_eq_false fun h => q0 h.1
      go_wp2_with fail
      go_meet
      exact ⟨by rw [eq], rfl⟩
  case rest => as_aux_lemma =>
    obtain ⟨rfl, rfl⟩ := hcut
    clear c0 c1 c2
    go_upto_if 50 with fail
    go_cut [15] (fun s15 wx => s15 = .int .i64 (use0 x) ∧ V = wx)
    case first => as_aux_lemma =>
      by_cases q : 0 ≤ x ∧ x < 3
      · have eq : decide (0 ≤ x ∧ x < 3) = true := decide_eq_true q
        have ev : Hid (use0 x = 1) := Lib.hid (by unfold use0; rw [if_pos q])
        rw [eq]
        go_wp2_with fail
        go_meet
        exact ⟨by rw [ev.out], rfl⟩
      · have eq : decide (0 ≤ x ∧ x < 3) = false := decide_eq_false q
        have ev : Hid (use0 x = 0) := Lib.hid (by unfold use0; rw [if_neg q])
        rw [eq]
        go_wp2_with fail
        go_meet
        exact ⟨by rw [ev.out], rfl⟩
    case rest => as_aux_lemma =>
      obtain ⟨rfl, rfl⟩ := hcut
      have u0 : use0 x ≤ 1 := by unfold use0; split <;> omega
      have u1 : 0 ≤ use0 x := by unfold use0; split <;> omega
      obtain ⟨⟨c0, c1, c2⟩, _⟩ := HA1.out.c3
      go_upto_region 7 with fail
      go_cut [61] (fun s61 wx => s61 = .bool (decide (3 ≤ x ∧ x < 3 + l)) ∧ V = wx)
      case first => as_aux_lemma =>
        by_cases q0 : 3 ≤ x
        · by_cases q1 : x < 3 + l
          · have eq : decide (3 ≤ x ∧ x < 3 + l) = true := decide_eq_true ⟨q0, q1⟩
            go_wp2_with fail
            go_meet
            exact ⟨by rw [eq], rfl⟩
          · have eq : decide (3 ≤ x ∧ x < 3 + l) = false := decide_eq_false fun h => q1 h.2
            go_wp2_with fail
            go_meet
            exact ⟨by rw [eq], rfl⟩
        · have eq : decide (3 ≤ x ∧ x < 3 + l) = false := decide_eq_false fun h => q0 h.1
          go_wp2_with fail
          go_meet
          exact ⟨by rw [eq], rfl⟩
      case rest => as_aux_lemma =>
        obtain ⟨rfl, rfl⟩ := hcut
        clear c0 c1 c2
        go_upto_if 61 with fail
        go_cut [15] (fun s15 wx => s15 = .int .i64 (use0 x + use1 l x) ∧ V = wx)
        case first => as_aux_lemma =>
          by_cases q : 3 ≤ x ∧ x < 3 + l
          · have eq : decide (3 ≤ x ∧ x < 3 + l) = true := decide_eq_true q
            have ev : Hid (use1 l x = 1) := Lib.hid (by unfold use1; rw [if_pos q])
            rw [eq]
            go_wp2_with fail
            go_meet
            exact ⟨by rw [ev.out], rfl⟩
          · have eq : decide (3 ≤ x ∧ x < 3 + l) = false := decide_eq_false q
            have ev : Hid (use1 l x = 0) := Lib.hid (by unfold use1; rw [if_neg q])
            rw [eq]
            go_wp2_with fail
            go_meet
            exact ⟨by rw [ev.out, Int.add_zero], rfl⟩
        case rest => as_aux_lemma =>
          obtain ⟨rfl, rfl⟩ := hcut
          obtain ⟨U, hU⟩ : ∃ U, U = use0 x + use1 l x := ⟨_, rfl⟩
          have ub : 0 ≤ U ∧ U ≤ 2 := by rw [hU]; unfold use0 use1; split <;> split <;> omega
          have HU := Lib.hid hU
          rw [← hU]
          clear hU u0 u1
          obtain ⟨ub0, ub1⟩ := ub
          go_wp2_with fail
          go_loopw [15, 16] (fun u j wr => ∃ m : Nat, m ≤ G ∧ j = .int .i64 m ∧ u = .int .i64 (U + use2 l x m) ∧ Hid (Gr V wr)) (fun _ j _ => G - (intOf j).toNat)
          case atStart => exact ⟨0, Nat.zero_le _, rfl, by rw [show ((0 : Nat) : Int) = 0 from rfl, use2_zero, Int.add_zero], Lib.hid (Gr.refl _)⟩
          case round => as_aux_lemma =>
            obtain ⟨m, hm, rfl, rfl, hg⟩ := hrel
            obtain ⟨⟨c0, c1, c2⟩, _⟩ := (HA1.out.below hg.out HA1.out.lt).c3
            have hu2 : 0 ≤ use2 l x m ∧ use2 l x m ≤ 1 := by unfold use2; split <;> omega
            have HS := Lib.hid (use2_succ l x m)
            obtain ⟨Q, hQ⟩ : ∃ Q, Q = use2 l x m := ⟨_, rfl⟩
            rw [← hQ] at hu2 HS ⊢
            obtain ⟨hu2, hu3⟩ := hu2
            by_cases hlt : m < G
            · -- done
              have hC := HGR.out m
              rw [show (true && (decide (0 ≤ (m : Int)) && decide ((m : Int) < (G : Int)))) = true by rw [decide_eq_true (show (0 : Int) ≤ m by omega), decide_eq_true (show (m : Int) < G by omega)]; rfl, only_t, only_t, err_t] at hC
              have HC := Lib.hid hC
              have hm100 : (m : Int) < 100 := by omega
              obtain ⟨A, hA⟩ : ∃ A, A = 3 + l + 64 * (m : Int) := ⟨_, rfl⟩
              obtain ⟨B, hB⟩ : ∃ B, B = min 64 (n - A) := ⟨_, rfl⟩
              rw [← hA, ← hB] at HC
              rw [← hA] at HS
              have a0 : 0 ≤ A := by omega
              have a1 : A ≤ 5000 := by omega
              have b0 : 8 ≤ B := by omega
              have b1 : B ≤ 64 := by omega
              have b2 : A + B ≤ n := by omega
              clear hC hQ hA hB
              go_wp2_with fail
              refine (HC.out _).mono ?_
              rintro e' w2 ⟨rfl, g2⟩
              have G2 := Lib.hid (Gr.trans hg.out g2)
              clear g2 c0 c1 c2 hg
              go_wp2_with fail
              refine (num_any _ _).mono ?_
              rintro e' w' ⟨rfl, rfl⟩
              by_cases q0 : A ≤ x
              · by_cases q1 : x < A + 5
                · have ev : Hid (use2 l x ((m + 1 : Nat) : Int) = Q + 1) := Lib.hid (by rw [HS.out, if_pos ⟨q0, q1⟩])
                  go_wp2_with fail
                  go_roundw
                  case rel => exact ⟨m + 1, by omega, by go_num, congrArg (Value.int .i64) (by rw [ev.out]; omega), G2⟩
                  case measure => simp [intOf]; omega
                · have ev : Hid (use2 l x ((m + 1 : Nat) : Int) = Q) := Lib.hid (by rw [HS.out, if_neg (fun h => q1 h.2), Int.add_zero])
                  go_wp2_with fail
                  go_roundw
                  case rel => exact ⟨m + 1, by omega, by go_num, congrArg (Value.int .i64) (by rw [ev.out]), G2⟩
                  case measure => simp [intOf]; omega
              · have ev : Hid (use2 l x ((m + 1 : Nat) : Int) = Q) := Lib.hid (by rw [HS.out, if_neg (fun h => q0 h.1), Int.add_zero])
                go_wp2_with fail
                go_roundw
                case rel => exact ⟨m + 1, by omega, by go_num, congrArg (Value.int .i64) (by rw [ev.out]), G2⟩
                case measure => simp [intOf]; omega
            · have emG : m = G := by omega
              subst emG
              have HG2 : Hid (Gr w wr) := Lib.hid (Gr.trans HG1.out hg.out)
              have HA2 := Lib.hid (HA1.out.below hg.out HA1.out.lt)
              have HB2 := Lib.hid (HB1.out.below hg.out HB1.out.lt)
              have hbl := HBL.out
              rw [Bool.true_and] at hbl
              obtain ⟨D, hD⟩ : ∃ D, D = blkB n l m x := ⟨_, rfl⟩
              obtain ⟨P0, hP0⟩ : ∃ P, P = only D ((x - (3 + l)) / 64) := ⟨_, rfl⟩
              obtain ⟨P1, hP1⟩ : ∃ P, P = only D ((x - (3 + l)) % 64) := ⟨_, rfl⟩
              have HT : Hid (0 ≤ U + Q + (if D then 1 else 0) ∧ U + Q + (if D then 1 else 0) ≤ 1) := Lib.hid (by
                rw [HU.out, hQ, hD]
                exact uses_le i2 i7)
              rw [← hD, ← hP0, ← hP1] at hbl
              have HBL2 := Lib.hid hbl
              clear hg hbl hD hP0 hP1 hQ HS HU HBL HGR HA1 HB1 HG1 hlt
              go_upto_if 119 with fail
              refine (HBL2.out _).mono ?_
              rintro e' w2 ⟨rfl, g2⟩
              have HG3 : Hid (Gr w w2) := Lib.hid (Gr.trans HG2.out g2)
              have HA3 := Lib.hid (HA2.out.below g2 HA2.out.lt)
              have HB3 := Lib.hid (HB2.out.below g2 HB2.out.lt)
              clear g2 c0 c1 c2 HA2 HB2 HG2 HBL2
              go_upto_if 119 with fail
              refine (num_any _ _).mono ?_
              rintro e' w' ⟨rfl, rfl⟩
              go_upto_if 119 with fail
              go_cut [15] (fun s15 wx => s15 = .int .i64 (U + Q + (if D then 1 else 0)) ∧ w2 = wx)
              case first => as_aux_lemma =>
                cases D
                · rw [err_f]
                  go_wp2_with fail
                  go_meet
                  exact ⟨congrArg (Value.int .i64) (by simp), rfl⟩
                · rw [err_t]
                  go_wp2_with fail
                  go_meet
                  exact ⟨congrArg (Value.int .i64) (by simp), rfl⟩
              case rest => as_aux_lemma =>
                obtain ⟨rfl, rfl⟩ := hcut
                obtain ⟨T, hT⟩ : ∃ T, T = U + Q + (if D then 1 else 0) := ⟨_, rfl⟩
                rw [← hT] at HT ⊢
                obtain ⟨t0, t1⟩ := HT.out
                clear hT HT ub0 ub1 hu2 hu3
                obtain ⟨⟨c0, c1, c2⟩, _⟩ := HA3.out.c3
                have hin := HIN.out i
                have hkn := HIN.out k
                rw [Bool.true_and] at hin hkn
                obtain ⟨I, hI⟩ : ∃ I, I = (decide (1 ≤ i) && decide (i ≤ (m : Int) * 16)) := ⟨_, rfl⟩
                obtain ⟨J, hJ⟩ : ∃ J, J = (decide (1 ≤ k) && decide (k ≤ (m : Int) * 16)) := ⟨_, rfl⟩
                obtain ⟨a, ha⟩ : ∃ a, a = 3 + l + (i - 1) / 16 * 64 + 1 + (i - 1) % 16 / 4 := ⟨_, rfl⟩
                obtain ⟨c, hc⟩ : ∃ a, a = 3 + l + (k - 1) / 16 * 64 + 1 + (k - 1) % 16 / 4 := ⟨_, rfl⟩
                obtain ⟨y, hy⟩ : ∃ a, a = (i - 1) % 4 * 62 := ⟨_, rfl⟩
                obtain ⟨z, hz⟩ : ∃ a, a = (k - 1) % 4 * 62 := ⟨_, rfl⟩
                have HYZ : (0 ≤ y ∧ y ≤ 186) ∧ (0 ≤ z ∧ z ≤ 186) := by omega
                have HIJ : Hid (I = true → J = true → i ≠ k → a = c → y < z + 62 → ¬ z < y + 62) := Lib.hid fun h1 h2 h3 h4 h5 => by
                  rw [hI, Bool.and_eq_true, decide_eq_true_eq, decide_eq_true_eq] at h1
                  rw [hJ, Bool.and_eq_true, decide_eq_true_eq, decide_eq_true_eq] at h2
                  rw [ha, hc] at h4
                  rw [hy, hz] at h5 ⊢
                  exact inodes_apart h1.1 h2.1 h3 h4 h5
                rw [← hI, ← ha, ← hy] at hin
                rw [← hJ, ← hc, ← hz] at hkn
                have HI1 := Lib.hid (fun W => hin W bi)
                have HK1 := Lib.hid (fun W => hkn W bk)
                obtain ⟨⟨y0, y1⟩, z0, z1⟩ := HYZ
                clear hin hkn hI hJ ha hc hy hz HIN
                go_upto_region 22 with fail
                refine (HI1.out _).mono ?_
                rintro e' w3 ⟨rfl, g3⟩
                have HG4 : Hid (Gr w w3) := Lib.hid (Gr.trans HG3.out g3)
                have HA4 := Lib.hid (HA3.out.below g3 HA3.out.lt)
                have HB4 := Lib.hid (HB3.out.below g3 HB3.out.lt)
                clear g3 c0 c1 c2 HA3 HB3 HG3 HI1
                obtain ⟨⟨c0, c1, c2⟩, _⟩ := HA4.out.c3
                go_upto_region 22 with fail
                refine (HK1.out _).mono ?_
                rintro e' w4 ⟨rfl, g4⟩
                have HG5 : Hid (Gr w w4) := Lib.hid (Gr.trans HG4.out g4)
                have HA5 := Lib.hid (HA4.out.below g4 HA4.out.lt)
                have HB5 := Lib.hid (HB4.out.below g4 HB4.out.lt)
                clear g4 c0 c1 c2 HA4 HB4 HG4 HK1
                go_upto_region 22 with fail
                go_cut [167] (fun s167 wx => s167 = .bool false ∧ w4 = wx)
                case first => as_aux_lemma =>
                  have ht : ¬ 1 < T := by omega
                  cases I
                  · cases J
                    · simp only [only_f, err_f]
                      go_wp2_with (go_at_call 11; refine (num_any _ _).mono ?_; rintro e' w' ⟨rfl, rfl⟩)
                      go_meet
                      exact ⟨rfl, rfl⟩
                    · simp only [only_f, only_t, err_f, err_t]
                      go_wp2_with (go_at_call 11; refine (num_any _ _).mono ?_; rintro e' w' ⟨rfl, rfl⟩)
                      go_meet
                      exact ⟨rfl, rfl⟩
                  · cases J
                    · simp only [only_f, only_t, err_f, err_t]
                      go_wp2_with (go_at_call 11; refine (num_any _ _).mono ?_; rintro e' w' ⟨rfl, rfl⟩)
                      go_meet
                      exact ⟨rfl, rfl⟩
                    · simp only [only_t, err_t]
                      have hij := HIJ.out rfl rfl
                      by_cases q0 : i = k
                      · subst q0
                        clear hij
                        go_wp2_with (go_at_call 11; refine (num_any _ _).mono ?_; rintro e' w' ⟨rfl, rfl⟩)
                        go_meet
                        exact ⟨rfl, rfl⟩
                      · by_cases q1 : a = c
                        · subst q1
                          by_cases q2 : y < z + 62
                          · have q3 := hij q0 rfl q2
                            clear hij
                            go_wp2_with (go_at_call 11; refine (num_any _ _).mono ?_; rintro e' w' ⟨rfl, rfl⟩)
                            go_meet
                            exact ⟨congrArg Value.bool (by first | rfl | (simp; intros; omega) | simp_all), rfl⟩
                          · clear hij
                            go_wp2_with (go_at_call 11; refine (num_any _ _).mono ?_; rintro e' w' ⟨rfl, rfl⟩)
                            go_meet
                            exact ⟨congrArg Value.bool (by first | rfl | (simp; intros; omega) | simp_all), rfl⟩
                        · clear hij
                          go_wp2_with (go_at_call 11; refine (num_any _ _).mono ?_; rintro e' w' ⟨rfl, rfl⟩)
                          go_meet
                          exact ⟨congrArg Value.bool (by first | rfl | (simp; intros; omega) | simp_all), rfl⟩
                case rest => as_aux_lemma =>
                  obtain ⟨rfl, rfl⟩ := hcut
                  clear HIJ y0 y1 z0 z1 t0 t1
                  obtain ⟨⟨c0, c1, c2⟩, _⟩ := HA5.out.c3
                  obtain ⟨⟨d0, d1, d2⟩, _⟩ := HB5.out.c3
                  have hz := zero_sec
                  rw [← Sx_zero] at hz
                  obtain ⟨Z, hZ⟩ : ∃ Z, Z = List.replicate 256 (0 : Int) := ⟨_, rfl⟩
                  rw [← hZ] at hz
                  clear hZ
                  go_wp2_with fail
                  refine (HBY.out _).mono ?_
                  rintro e' w5 ⟨rfl, g5⟩
                  have HG6 := Lib.hid (gr_past (Gr.trans HG5.out g5) (.cells (sec (Sx Z)) TS) (sec (Sx (lyB n l m))))
                  have HA6 := Lib.hid ((HA5.out.below g5 HA5.out.lt).past (.cells (sec (Sx Z)) TS) (sec (Sx (lyB n l m))))
                  have HB6 := Lib.hid ((HB5.out.below g5 HB5.out.lt).past (.cells (sec (Sx Z)) TS) (sec (Sx (lyB n l m))))
                  have HC6 := Lib.hid ((Blk.new w5 TS (sec (Sx Z))).row (sec (Sx (lyB n l m))))
                  have HN5 := Lib.hid (Blk.new w5 TS (sec (Sx Z)))
                  obtain ⟨V6, hV6⟩ : ∃ V6, V6 = (w5.alloc (.cells (sec (Sx Z)) TS)).setRow w5.heap.size (sec (Sx (lyB n l m))) := ⟨_, rfl⟩
                  obtain ⟨g29, hg29⟩ : ∃ g29, g29 = w5.heap.size := ⟨_, rfl⟩
                  rw [← hV6] at HG6 HA6 HB6 HC6
                  rw [← hg29] at HC6
                  have HV6 := Lib.hid hV6
                  have HG29 := Lib.hid hg29
                  have HL29 : Hid (w.heap.size ≤ g29) := Lib.hid (by rw [hg29]; exact (Gr.trans HG5.out g5).size)
                  clear g5 hV6 hg29 c0 c1 c2 d0 d1 d2 HA5 HB5 HG5 HBY
                  obtain ⟨⟨d0, d1, d2⟩, _⟩ := HB6.out.c3
                  go_wp2_with (refine wpList_store_x rfl _ _ rfl HN5.out rfl rfl ?_; rw [← HV6.out, ← HG29.out])
                  refine (HMB.out _).mono ?_
                  rintro e' w6 ⟨rfl, g6⟩
                  have HG7 := Lib.hid (gr_past (Gr.trans HG6.out g6) (.cells (sec (Sx Z)) TS) (sec (Sx (maB e s t))))
                  have HA7 := Lib.hid ((HA6.out.below g6 HA6.out.lt).past (.cells (sec (Sx Z)) TS) (sec (Sx (maB e s t))))
                  have HB7 := Lib.hid ((HB6.out.below g6 HB6.out.lt).past (.cells (sec (Sx Z)) TS) (sec (Sx (maB e s t))))
                  have HC7 := Lib.hid ((HC6.out.below g6 HC6.out.lt).past (.cells (sec (Sx Z)) TS) (sec (Sx (maB e s t))))
                  have HD7 := Lib.hid ((Blk.new w6 TS (sec (Sx Z))).row (sec (Sx (maB e s t))))
                  have HN6 := Lib.hid (Blk.new w6 TS (sec (Sx Z)))
                  obtain ⟨V7, hV7⟩ : ∃ V7, V7 = (w6.alloc (.cells (sec (Sx Z)) TS)).setRow w6.heap.size (sec (Sx (maB e s t))) := ⟨_, rfl⟩
                  obtain ⟨g31, hg31⟩ : ∃ g31, g31 = w6.heap.size := ⟨_, rfl⟩
                  rw [← hV7] at HG7 HA7 HB7 HC7 HD7
                  rw [← hg31] at HD7
                  have HV7 := Lib.hid hV7
                  have HG31 := Lib.hid hg31
                  have HL31 : Hid (w.heap.size ≤ g31) := Lib.hid (by rw [hg31]; exact (Gr.trans HG6.out g6).size)
                  have HNE : Hid (g29 ≠ g31) := Lib.hid (by have h1 := HC6.out.lt; have h2 := g6.size; rw [hg31]; omega)
                  clear g6 hV7 hg31 d0 d1 d2 HA6 HB6 HG6 HC6 HMB HN5 HV6 HG29
                  go_wp2_with (first | (refine wpList_store_x rfl _ _ rfl HN6.out rfl rfl ?_; rw [← HV7.out, ← HG31.out]) | (refine wpList_load_x rfl _ rfl HC7.out rfl ?_))
                  refine (HO1.out _).mono ?_
                  rintro e' w7 ⟨rfl, g7⟩
                  have hg8 := Gr.trans HG7.out g7
                  have HG8 : Hid (Gr w (w7.alloc (.cells #[.int .i64 n, .int .i64 l, .int .i64 m] TY))) := Lib.hid (hg8.alloc hg8.size _)
                  have HA8 := Lib.hid ((HA7.out.below g7 HA7.out.lt).alloc (.cells #[.int .i64 n, .int .i64 l, .int .i64 m] TY))
                  have HB8 := Lib.hid ((HB7.out.below g7 HB7.out.lt).alloc (.cells #[.int .i64 n, .int .i64 l, .int .i64 m] TY))
                  have HC8 := Lib.hid ((HC7.out.below g7 HC7.out.lt).alloc (.cells #[.int .i64 n, .int .i64 l, .int .i64 m] TY))
                  have HD8 := Lib.hid ((HD7.out.below g7 HD7.out.lt).alloc (.cells #[.int .i64 n, .int .i64 l, .int .i64 m] TY))
                  have HE8 := Lib.hid (Blk.new w7 TY #[.int .i64 n, .int .i64 l, .int .i64 m])
                  clear g7 hg8 HG7 HA7 HB7 HC7 HD7 HN6 HV7 HG31 hz
                  go_wp2_with (refine wpList_load_x rfl _ rfl HD8.out rfl ?_)
                  refine (HO2.out _).mono ?_
                  rintro e' w8 ⟨rfl, g8⟩
                  have hg9 := Gr.trans HG8.out g8
                  have HG9 : Hid (Gr w (w8.alloc (.cells #[.int .u64 e, .int .u64 s, .int .u64 t] TMa))) := Lib.hid (hg9.alloc hg9.size _)
                  have HA9 := Lib.hid ((HA8.out.below g8 HA8.out.lt).alloc (.cells #[.int .u64 e, .int .u64 s, .int .u64 t] TMa))
                  have HB9 := Lib.hid ((HB8.out.below g8 HB8.out.lt).alloc (.cells #[.int .u64 e, .int .u64 s, .int .u64 t] TMa))
                  have HC9 := Lib.hid ((HC8.out.below g8 HC8.out.lt).alloc (.cells #[.int .u64 e, .int .u64 s, .int .u64 t] TMa))
                  have HD9 := Lib.hid ((HD8.out.below g8 HD8.out.lt).alloc (.cells #[.int .u64 e, .int .u64 s, .int .u64 t] TMa))
                  have HE9 := Lib.hid ((HE8.out.below g8 HE8.out.lt).alloc (.cells #[.int .u64 e, .int .u64 s, .int .u64 t] TMa))
                  have HF9 := Lib.hid (Blk.new w8 TMa #[.int .u64 e, .int .u64 s, .int .u64 t])
                  obtain ⟨V9, hV9⟩ : ∃ V9, V9 = w8.alloc (.cells #[.int .u64 e, .int .u64 s, .int .u64 t] TMa) := ⟨_, rfl⟩
                  rw [← hV9] at HG9 HA9 HB9 HC9 HD9 HE9 HF9
                  have HV9 := Lib.hid hV9
                  clear g8 hg9 hV9 HG8 HA8 HB8 HC8 HD8 HE8
                  go_upto_region 28 with fail
                  rw [← HV9.out]
                  obtain ⟨⟨c0, c1, c2⟩, _⟩ := HA9.out.c3
                  obtain ⟨⟨d0, d1, d2⟩, _⟩ := HB9.out.c3
                  obtain ⟨⟨j0, j1, j2⟩, _⟩ := HE9.out.c3
                  obtain ⟨⟨k0, k1, k2⟩, _⟩ := HF9.out.c3
                  clear HV9
                  by_cases hb0 : b < 0
                  · -- done
                    as_aux_lemma =>
                      clear HC9 HD9 HO3 HO4
                      go_wp2_with (first | (go_at_call 11; refine (num_any _ _).mono ?_; rintro e' w' ⟨rfl, rfl⟩) | (go_at_call 14; refine (HK.out _).mono ?_; rintro e' w9 ⟨rfl, g9⟩))
                      go_ret
                      exact ⟨rfl, Gr.trans HG9.out g9⟩
                  · by_cases hb1 : 2048 ≤ b
                    · -- done
                      as_aux_lemma =>
                        clear HC9 HD9 HO3 HO4
                        go_wp2_with (first | (go_at_call 11; refine (num_any _ _).mono ?_; rintro e' w' ⟨rfl, rfl⟩) | (go_at_call 14; refine (HK.out _).mono ?_; rintro e' w9 ⟨rfl, g9⟩))
                        go_ret
                        exact ⟨rfl, Gr.trans HG9.out g9⟩
                    · obtain ⟨β, rfl⟩ := Int.eq_ofNat_of_zero_le (show 0 ≤ b by omega)
                      obtain ⟨P, hP⟩ : ∃ P, P = β / 8 := ⟨_, rfl⟩
                      obtain ⟨R, hR⟩ : ∃ R, R = β % 8 := ⟨_, rfl⟩
                      have hP2 : (β : Int) / 8 = (P : Int) := by omega
                      have hR2 : (β : Int) % 8 = (R : Int) := by omega
                      have p0 : P < 256 := by omega
                      have r0 : R < 8 := by omega
                      clear hP hR
                      obtain ⟨x1, hx1⟩ := HC9.out.byte (lyB_sec n l m) P p0
                      obtain ⟨x2, hx2⟩ := HD9.out.byte (maB_sec e s t) P p0
                      obtain ⟨A1, hA1⟩ : ∃ A, A = (lyB n l m).getD P 0 := ⟨_, rfl⟩
                      obtain ⟨A2, hA2⟩ : ∃ A, A = (maB e s t).getD P 0 := ⟨_, rfl⟩
                      have ab1 : 0 ≤ A1 ∧ A1 < 256 := by rw [hA1]; exact (lyB_sec n l m).small.getD P
                      have ab2 : 0 ≤ A2 ∧ A2 < 256 := by rw [hA2]; exact (maB_sec e s t).small.getD P
                      rw [← hA1] at x1
                      rw [← hA2] at x2
                      have HA1e := Lib.hid hA1
                      have HA2e := Lib.hid hA2
                      obtain ⟨ab1, ab1'⟩ := ab1
                      obtain ⟨ab2, ab2'⟩ := ab2
                      clear hA1 hA2
                      go_upto_if 203 with (go_at_call 11; refine (num_any _ _).mono ?_; rintro e' w' ⟨rfl, rfl⟩)
                      go_upto_if 209 with fail
                      go_upto_region 33 with fail
                      first | rw [bits_flip A1 R ab1 ab1' r0] | rw [bits_flip2 A1 R ab1 ab1' r0]
                      obtain ⟨v0, v1, _⟩ := two_pow R r0
                      have hC10 := HC9.out.turn (lyB_sec n l m) P (2 ^ R) v1
                      rw [← HA1e.out] at hC10
                      have hD10 := HD9.out.far (p := ⟨g29, P, none⟩) (fun h => HNE.out h.symm) (.int .u8 (Cr.flip A1 (2 ^ R)))
                      have hG10 : Gr w (V9.setCell ⟨g29, P, none⟩ (.int .u8 (Cr.flip A1 (2 ^ R)))) := HG9.out.setCell HL29.out _
                      obtain ⟨W1, hW1⟩ : ∃ W1, W1 = V9.setCell ⟨g29, P, none⟩ (.int .u8 (Cr.flip A1 (2 ^ R))) := ⟨_, rfl⟩
                      rw [← hW1] at hC10 hD10 hG10
                      rw [← hW1]
                      have HC10 := Lib.hid hC10
                      have HD10 := Lib.hid hD10
                      have HG10 := Lib.hid hG10
                      clear hW1 hC10 hD10 hG10 x1 x2 hx1 hx2 c0 c1 c2 d0 d1 d2 j0 j1 j2 k0 k1 k2 HC9 HD9 HG9
                      obtain ⟨x3, hx3⟩ := HD10.out.byte (maB_sec e s t) P p0
                      rw [← HA2e.out] at x3
                      go_upto_region 34 with fail
                      first | rw [bits_flip A2 R ab2 ab2' r0] | rw [bits_flip2 A2 R ab2 ab2' r0]
                      have hD11 := HD10.out.turn (maB_sec e s t) P (2 ^ R) v1
                      rw [← HA2e.out] at hD11
                      have hC11 := HC10.out.far (p := ⟨g31, P, none⟩) HNE.out (.int .u8 (Cr.flip A2 (2 ^ R)))
                      have hG11 : Gr w (W1.setCell ⟨g31, P, none⟩ (.int .u8 (Cr.flip A2 (2 ^ R)))) := HG10.out.setCell HL31.out _
                      obtain ⟨W2, hW2⟩ : ∃ W2, W2 = W1.setCell ⟨g31, P, none⟩ (.int .u8 (Cr.flip A2 (2 ^ R))) := ⟨_, rfl⟩
                      rw [← hW2] at hC11 hD11 hG11
                      rw [← hW2]
                      have HC11 := Lib.hid hC11
                      have HD11 := Lib.hid hD11
                      have HG11 := Lib.hid hG11
                      clear hW2 hC11 hD11 hG11 x3 hx3 HC10 HD10 HG10
                      have HO5 := Lib.hid (HO3.out P (2 ^ R) p0 v0 v1)
                      have HO6 := Lib.hid (HO4.out P (2 ^ R) p0 v0 v1)
                      go_wp2_with (refine wpList_load_x rfl _ rfl HC11.out rfl ?_)
                      refine (HO5.out _).mono ?_
                      rintro e' w9 ⟨rfl, g9⟩
                      have HG12 := Lib.hid (Gr.trans HG11.out g9)
                      have HD12 := Lib.hid (HD11.out.below g9 HD11.out.lt)
                      clear g9
                      go_wp2_with (refine wpList_load_x rfl _ rfl HD12.out rfl ?_)
                      refine (HO6.out _).mono ?_
                      rintro e' w10 ⟨rfl, g10⟩
                      have HG13 := Lib.hid (Gr.trans HG12.out g10)
                      clear g10
                      go_wp2_with (first | (go_at_call 11; refine (num_any _ _).mono ?_; rintro e' w' ⟨rfl, rfl⟩) | (go_at_call 14; refine (HK.out _).mono ?_; rintro e' w11 ⟨rfl, g11⟩))
                      go_ret
                      exact ⟨rfl, Gr.trans HG13.out g11⟩

theorem superApart_walk (n x i k : Int) (e s t : Nat) (b : Int) (w : World) (_ : -9223372036854775808 ≤ n ∧ n ≤ 9223372036854775807) (x0 : -9223372036854775808 ≤ x ∧ x ≤ 9223372036854775807) (bi : -9223372036854775808 ≤ i ∧ i ≤ 9223372036854775807) (bk : -9223372036854775808 ≤ k ∧ k ≤ 9223372036854775807)
    (h0 : e ≤ 18446744073709551615) (h1 : s ≤ 18446744073709551615) (h2 : t ≤ 18446744073709551615) (_ : -9223372036854775808 ≤ b ∧ b ≤ 9223372036854775807) :
    Calls Try.prog 7 #[.int .i64 n, .int .i64 x, .int .i64 i, .int .i64 k, .agg #[.int .u64 e, .int .u64 s, .int .u64 t], .int .i64 b] w (RetB true w) := by
  by_cases h : okN n = true
  · have hb := okN_iff.1 h
    have hm : mayL n (logOf n) (grpOf n) = true := by unfold mayL; rw [h]; simp
    exact superApart_yes n (logOf n) (grpOf n) x i k e s t b w hm x0 bi.2 bk.2 h0 h1 h2 (fun W => make_yes n W hb.1 hb.2)
  · exact superApart_no n x i k e s t b w (by simpa using h)

end Go.Proofs.Ytanajjfcnedaiaa
