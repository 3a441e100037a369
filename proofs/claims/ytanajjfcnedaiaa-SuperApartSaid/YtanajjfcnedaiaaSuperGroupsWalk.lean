
import Derived.Test.YtanajjfcnedaiaaKnown4
import Derived.Deep.DeepCutAuto
import Derived.Deep.CutBlock
namespace Go.Proofs.Ytanajjfcnedaiaa
open Go.RowKit

theorem only_t (a : Int) : only true a = a := rfl
theorem only_f (a : Int) : only false a = 0 := rfl
theorem err_t : err true = 0 := rfl
theorem err_f : err false = 2 := rfl

set_option maxRecDepth 100000 in
set_option maxHeartbeats 1000000 in
theorem superGroups_no (n l g x k : Int) (w : World) (hY : (mayL n l g && (decide (0 ≤ x) && decide (x < g))) = false) : Calls Try.prog 8 #[.agg #[.int .i64 n, .int .i64 l, .int .i64 g], .int .i64 x, .int .i64 k] w (RetB true w) := by
  have H1 := group_any n l g x
  have H2 := hasGroup_any n l g x
  rw [hY, only_f, only_f, err_f] at H1
  rw [hY] at H2
  have H1 := Lib.hid H1
  have H2 := Lib.hid H2
  have KK := Lib.hid known_any
  have B0 := Lib.hid (Blk.new w TY #[.int .i64 n, .int .i64 l, .int .i64 g])
  clear hY
  go_enter Try.func8, Try.ntmps8
  go_wp2_with fail
  refine (H1.out _).mono ?_
  rintro e w1 ⟨rfl, g1⟩
  have B1 := Lib.hid (B0.out.below g1 B0.out.lt)
  have G1 := Lib.hid (grow1 g1)
  obtain ⟨⟨c0, c1, c2⟩, _⟩ := B1.out.c3
  clear g1
  go_wp2_with fail
  refine (num_any _ _).mono ?_
  rintro e w' ⟨rfl, rfl⟩
  go_wp2_with fail
  refine (H2.out _).mono ?_
  rintro e w2 ⟨rfl, g2⟩
  have G2 := Lib.hid (Gr.trans G1.out g2)
  clear g2 c0 c1 c2 B1 G1
  go_wp2_with fail
  refine (KK.out _).mono ?_
  rintro e w3 ⟨rfl, g3⟩
  go_wp2_with fail
  go_ret
  exact ⟨rfl, Gr.trans G2.out g3⟩

set_option maxRecDepth 100000 in
set_option maxHeartbeats 4000000 in
theorem superGroups_yes (n l g x k : Int) (w : World) (hm : mayL n l g = true) (hx0 : 0 ≤ x) (hx1 : x < g) : Calls Try.prog 8 #[.agg #[.int .i64 n, .int .i64 l, .int .i64 g], .int .i64 x, .int .i64 k] w (RetB true w) := by
  obtain ⟨i0, i1, i2, i3, i4, i5, i6, i7⟩ := may_in hm
  have H1 := group_any n l g x
  rw [show (mayL n l g && (decide (0 ≤ x) && decide (x < g))) = true by rw [hm, decide_eq_true hx0, decide_eq_true hx1]; rfl, only_t, only_t, err_t] at H1
  obtain ⟨A, hA⟩ : ∃ A, A = 3 + l + 64 * x := ⟨_, rfl⟩
  obtain ⟨B, hB⟩ : ∃ B, B = min 64 (n - A) := ⟨_, rfl⟩
  rw [← hA, ← hB] at H1
  have H1 := Lib.hid H1
  have a0 : 0 ≤ A := by omega
  have a1 : A ≤ 5000 := by omega
  have H2 : Hid (x + 1 < g → B = 64 ∧ ∀ W, Calls Try.prog 15 #[.agg #[.int .i64 n, .int .i64 l, .int .i64 g], .int .i64 (x + 1)] W (Ret3 (A + 64) (min 64 (n - (A + 64))) 0 W)) := Lib.hid fun h => ⟨by omega, fun W => by
    have h1 := group_any n l g (x + 1) W
    rw [show (mayL n l g && (decide (0 ≤ x + 1) && decide (x + 1 < g))) = true by rw [hm, decide_eq_true (show 0 ≤ x + 1 by omega), decide_eq_true h]; rfl, only_t, only_t, err_t, show 3 + l + 64 * (x + 1) = A + 64 by omega] at h1
    exact h1⟩
  have H3 : Hid (0 ≤ k → k < B → k < 64 ∧ ∀ W, Calls Try.prog 21 #[.agg #[.int .i64 n, .int .i64 l, .int .i64 g], .int .i64 (A + k)] W (Ret3 (only (decide (5 ≤ k)) x) (only (decide (5 ≤ k)) k) (err (decide (5 ≤ k))) W)) := Lib.hid fun h0 h1 => ⟨by omega, fun W => by
    have h2 := block_any n l g (A + k) W
    rw [show (mayL n l g && blkB n l g (A + k)) = decide (5 ≤ k) by rw [hm]; unfold blkB; rw [Bool.true_and, decide_eq_decide]; omega, show (A + k - (3 + l)) / 64 = x by omega, show (A + k - (3 + l)) % 64 = k by omega] at h2
    exact h2⟩
  have H4 : Hid (∀ i : Nat, 1 ≤ i → i ≤ 16 → ∀ W, Calls Try.prog 18 #[.agg #[.int .i64 n, .int .i64 l, .int .i64 g], .int .i64 (16 * x + i)] W (Ret3 (A + 1 + ((i : Int) - 1) / 4) (((i : Int) - 1) % 4 * 62) 0 W)) := Lib.hid fun i h0 h1 W => by
    have h2 := inode_any n l g (16 * x + i) W (by omega)
    rw [show (mayL n l g && (decide (1 ≤ 16 * x + (i : Int)) && decide (16 * x + (i : Int) ≤ g * 16))) = true by rw [hm, decide_eq_true (show 1 ≤ 16 * x + (i : Int) by omega), decide_eq_true (show 16 * x + (i : Int) ≤ g * 16 by omega)]; rfl, only_t, only_t, err_t,
      show 3 + l + (16 * x + (i : Int) - 1) / 16 * 64 + 1 + (16 * x + (i : Int) - 1) % 16 / 4 = A + 1 + ((i : Int) - 1) / 4 by omega, show (16 * x + (i : Int) - 1) % 4 * 62 = ((i : Int) - 1) % 4 * 62 by omega] at h2
    exact h2
  have KK := Lib.hid known_any
  have B0 := Lib.hid (Blk.new w TY #[.int .i64 n, .int .i64 l, .int .i64 g])
  clear hm hA hB i6 i7
  go_enter Try.func8, Try.ntmps8
  go_upto_if 41 with fail
  refine (H1.out _).mono ?_
  rintro e w1 ⟨rfl, g1⟩
  have B1 := Lib.hid (B0.out.below g1 B0.out.lt)
  have G1 := Lib.hid (grow1 g1)
  obtain ⟨⟨c0, c1, c2⟩, _⟩ := B1.out.c3
  clear g1 H1
  go_upto_if 41 with fail
  refine (num_any _ _).mono ?_
  rintro e w' ⟨rfl, rfl⟩
  go_upto_if 41 with fail
  clear c0 c1 c2
  go_cut [8] (fun s8 wx => s8 = .int .i64 B ∧ Hid (Gr w1 wx))
  case first =>
    by_cases hn : x + 1 < g
    · have hb : B = 64 := (H2.out hn).1
      have HBB := Lib.hid hb
      have HC := Lib.hid (H2.out hn).2
      obtain ⟨⟨c0, c1, c2⟩, _⟩ := B1.out.c3
      go_wp2_with fail
      refine (HC.out _).mono ?_
      rintro e w2 ⟨rfl, g2⟩
      clear c0 c1 c2
      go_wp2_with (refine (num_any _ _).mono ?_; rintro e w' ⟨rfl, rfl⟩)
      go_meet
      exact ⟨by rw [HBB.out], Lib.hid g2⟩
    · go_wp2_with fail
      go_meet
      exact ⟨rfl, Lib.hid (Gr.refl _)⟩
  case rest =>
    obtain ⟨rfl, hcut⟩ := hcut
    have B2 := Lib.hid (B1.out.below hcut.out B1.out.lt)
    have G2 := Lib.hid (Gr.trans G1.out hcut.out)
    rename_i wc
    clear hcut H2 B1 G1
    go_upto_region 8 with fail
    go_cut [69] (fun s69 wx => s69 = .bool (decide (0 ≤ k ∧ k < B)) ∧ wc = wx)
    case first =>
      by_cases h0 : 0 ≤ k
      · by_cases h1 : k < B
        · have e : decide (0 ≤ k ∧ k < B) = true := decide_eq_true ⟨h0, h1⟩
          go_wp2_with fail
          go_meet
          exact ⟨by rw [e], rfl⟩
        · have e : decide (0 ≤ k ∧ k < B) = false := decide_eq_false fun h => h1 h.2
          go_wp2_with fail
          go_meet
          exact ⟨by rw [e], rfl⟩
      · have e : decide (0 ≤ k ∧ k < B) = false := decide_eq_false fun h => h0 h.1
        go_wp2_with fail
        go_meet
        exact ⟨by rw [e], rfl⟩
    case rest =>
      obtain ⟨rfl, rfl⟩ := hcut
      rename_i wc
      have HT : Hid (decide (0 ≤ k ∧ k < B) = true → k < 64 ∧ ∀ W, Calls Try.prog 21 #[.agg #[.int .i64 n, .int .i64 l, .int .i64 g], .int .i64 (A + k)] W (Ret3 (only (decide (5 ≤ k)) x) (only (decide (5 ≤ k)) k) (err (decide (5 ≤ k))) W)) := Lib.hid fun h => by
        have h := of_decide_eq_true h
        exact H3.out h.1 h.2
      have HK : Hid (decide (0 ≤ k ∧ k < B) = true → 0 ≤ k) := Lib.hid fun h => (of_decide_eq_true h).1
      obtain ⟨T, hT⟩ : ∃ T, T = decide (0 ≤ k ∧ k < B) := ⟨_, rfl⟩
      rw [← hT] at HT HK ⊢
      clear hT H3
      go_upto_if 69 with fail
      go_cut [] (fun wx => Hid (Gr wc wx))
      case first =>
        cases T
        · go_wp2_with fail
          go_meet
          exact Lib.hid (Gr.refl _)
        · obtain ⟨k64, hC⟩ := HT.out (by first | rfl | trivial)
          have k0 := HK.out (by first | rfl | trivial)
          have HC := Lib.hid hC
          clear hC
          obtain ⟨⟨c0, c1, c2⟩, _⟩ := B2.out.c3
          by_cases h5 : 5 ≤ k
          · have e : decide (5 ≤ k) = true := decide_eq_true h5
            rw [e, only_t, only_t, err_t] at HC
            clear e
            go_wp2_with fail
            refine (HC.out _).mono ?_
            rintro e w2 ⟨rfl, g2⟩
            clear c0 c1 c2
            go_wp2_with (refine (num_any _ _).mono ?_; rintro e w' ⟨rfl, rfl⟩)
            go_meet
            exact Lib.hid g2
          · have e : decide (5 ≤ k) = false := decide_eq_false h5
            rw [e, only_f, only_f, err_f] at HC
            clear e
            go_wp2_with fail
            refine (HC.out _).mono ?_
            rintro e w2 ⟨rfl, g2⟩
            clear c0 c1 c2
            go_wp2_with (refine (num_any _ _).mono ?_; rintro e w' ⟨rfl, rfl⟩)
            go_meet
            exact Lib.hid g2
      case rest =>
        have B3 := Lib.hid (B2.out.below hcut.out B2.out.lt)
        have G3 := Lib.hid (Gr.trans G2.out hcut.out)
        clear hcut B2 G2 HT HK
        go_wp2_with fail
        go_loopw [16] (fun i wr => ∃ j : Nat, 1 ≤ j ∧ j ≤ 17 ∧ i = .int .i64 j ∧ Hid (Gr wc wr)) (fun i _ => 17 - (intOf i).toNat)
        case atStart => exact ⟨1, by omega, by omega, rfl, Lib.hid (Gr.refl _)⟩
        case round =>
          obtain ⟨j, hj1, hj2, rfl, hg⟩ := hrel
          obtain ⟨⟨c0, c1, c2⟩, _⟩ := (B3.out.below hg.out B3.out.lt).c3
          by_cases hlt : j ≤ 16
          · have HC := Lib.hid (H4.out j hj1 hlt)
            obtain ⟨O, hO⟩ : ∃ O, O = ((j : Int) - 1) % 4 * 62 := ⟨_, rfl⟩
            obtain ⟨S, hS⟩ : ∃ S, S = A + 1 + ((j : Int) - 1) / 4 := ⟨_, rfl⟩
            rw [← hO, ← hS] at HC
            have o0 : 0 ≤ O := by omega
            have o1 : O ≤ 186 := by omega
            have s0 : A + 1 ≤ S := by omega
            have s1 : S ≤ A + 4 := by omega
            clear hO hS
            go_wp2_with fail
            refine (HC.out _).mono ?_
            rintro e w2 ⟨rfl, g2⟩
            have G := Lib.hid (Gr.trans hg.out g2)
            clear c0 c1 c2 g2
            go_wp2_with (refine (num_any _ _).mono ?_; rintro e w' ⟨rfl, rfl⟩)
            go_roundw
            case rel => exact ⟨j + 1, by omega, by omega, by go_num, G⟩
            case measure => simp [intOf]; omega
          · clear c0 c1 c2
            go_wp2_with fail
            refine (KK.out _).mono ?_
            rintro e w2 ⟨rfl, g2⟩
            go_wp2_with fail
            go_ret
            exact ⟨rfl, Gr.trans (Gr.trans G3.out hg.out) g2⟩

theorem superGroups_walk (n l g x k : Int) (w : World) (_ : -9223372036854775808 ≤ x ∧ x ≤ 9223372036854775807) (_ : -9223372036854775808 ≤ k ∧ k ≤ 9223372036854775807) : Calls Try.prog 8 #[.agg #[.int .i64 n, .int .i64 l, .int .i64 g], .int .i64 x, .int .i64 k] w (RetB true w) := by
  by_cases h : (mayL n l g && (decide (0 ≤ x) && decide (x < g))) = true
  · have h' := h
    simp only [Bool.and_eq_true, decide_eq_true_eq] at h'
    exact superGroups_yes n l g x k w h'.1 h'.2.1 h'.2.2
  · exact superGroups_no n l g x k w (by simpa using h)

end Go.Proofs.Ytanajjfcnedaiaa
