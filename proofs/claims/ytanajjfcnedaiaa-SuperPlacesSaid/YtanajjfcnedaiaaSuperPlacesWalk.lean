
import Derived.Test.YtanajjfcnedaiaaKnown4
import Derived.Deep.DeepCutAuto
import Derived.Deep.CutBlock
namespace Go.Proofs.Ytanajjfcnedaiaa
open Go.RowKit

set_option maxRecDepth 100000 in
set_option maxHeartbeats 4000000 in
theorem superPlaces_walk (n l g i : Int) (w : World) (hlo : -9223372036854775808 ≤ i) (hhi : i ≤ 9223372036854775807) : Calls Try.prog 4 #[.agg #[.int .i64 n, .int .i64 l, .int .i64 g], .int .i64 i] w (RetB true w) := by
  have H1 := Lib.hid (group_any n l g i)
  have H2 := Lib.hid (hasGroup_any n l g i)
  have H3 : Hid ((mayL n l g && (decide (0 ≤ i) && decide (i < g))) = true → ∀ W, Calls Try.prog 17 #[.agg #[.int .i64 n, .int .i64 l, .int .i64 g], .int .i64 i] W (RetII (3 + l + 64 * i) (min 64 (n - (3 + l + 64 * i))) W)) := Lib.hid fun h W => by
    simp only [Bool.and_eq_true, decide_eq_true_eq] at h
    exact refGroup_any n l g i W h.1 h.2.1 h.2.2
  obtain ⟨A, hA⟩ : ∃ x, x = 3 + l + 64 * i := ⟨_, rfl⟩
  obtain ⟨B, hB⟩ : ∃ x, x = min 64 (n - A) := ⟨_, rfl⟩
  obtain ⟨Y, hY⟩ : ∃ x, x = (mayL n l g && (decide (0 ≤ i) && decide (i < g))) := ⟨_, rfl⟩
  rw [← hA, ← hB, ← hY] at H1 H3
  rw [← hY] at H2
  clear hA hB hY
  have I1 := Lib.hid (fun W => inode_any n l g i W hhi)
  have I2 := Lib.hid (hasInode_any n l g i)
  have I3 : Hid ((mayL n l g && (decide (1 ≤ i) && decide (i ≤ g * 16))) = true → ∀ W, Calls Try.prog 20 #[.agg #[.int .i64 n, .int .i64 l, .int .i64 g], .int .i64 i] W (RetII (3 + l + (i - 1) / 16 * 64 + 1 + (i - 1) % 16 / 4) ((i - 1) % 4 * 62) W)) := Lib.hid fun h W => by
    simp only [Bool.and_eq_true, decide_eq_true_eq] at h
    exact refInode_any n l g i W h.1 h.2.1 h.2.2
  obtain ⟨C, hC⟩ : ∃ x, x = 3 + l + (i - 1) / 16 * 64 + 1 + (i - 1) % 16 / 4 := ⟨_, rfl⟩
  obtain ⟨D, hD⟩ : ∃ x, x = (i - 1) % 4 * 62 := ⟨_, rfl⟩
  obtain ⟨Z, hZ⟩ : ∃ x, x = (mayL n l g && (decide (1 ≤ i) && decide (i ≤ g * 16))) := ⟨_, rfl⟩
  rw [← hC, ← hD, ← hZ] at I1 I3
  rw [← hZ] at I2
  clear hC hD hZ
  have J1 := Lib.hid (block_any n l g i)
  have J2 := Lib.hid (refBlock_any n l g i)
  obtain ⟨E, hE⟩ : ∃ x, x = only (mayL n l g && blkB n l g i) ((i - (3 + l)) / 64) := ⟨_, rfl⟩
  obtain ⟨F, hF⟩ : ∃ x, x = only (mayL n l g && blkB n l g i) ((i - (3 + l)) % 64) := ⟨_, rfl⟩
  obtain ⟨X, hX⟩ : ∃ x, x = (mayL n l g && blkB n l g i) := ⟨_, rfl⟩
  rw [← hE, ← hF, ← hX] at J1 J2
  clear hE hF hX
  have K1 := Lib.hid (logAt_any n l g i)
  have K2 := Lib.hid (refMay_any n l g)
  have KK := Lib.hid known_any
  have KB : Hid (mayL n l g = true → l ≤ 256) := Lib.hid fun h => by have := may_in h; omega
  obtain ⟨M, hM⟩ : ∃ x, x = mayL n l g := ⟨_, rfl⟩
  rw [← hM] at K1 K2 KB
  clear hM
  have B0 := Lib.hid (Blk.new w TY #[.int .i64 n, .int .i64 l, .int .i64 g])
  go_enter Try.func4, Try.ntmps4
  go_upto_if 32 with fail
  refine (H1.out _).mono ?_
  rintro e w1 ⟨rfl, g1⟩
  have B1 := Lib.hid (B0.out.below g1 B0.out.lt)
  have G1 := Lib.hid (grow1 g1)
  obtain ⟨⟨c0, c1, c2⟩, _⟩ := B1.out.c3
  clear g1
  go_upto_if 32 with fail
  refine (H2.out _).mono ?_
  rintro e w2 ⟨rfl, g2⟩
  have B2 := Lib.hid (B1.out.below g2 B1.out.lt)
  have G2 := Lib.hid (Gr.trans G1.out g2)
  clear g2 c0 c1 c2 B1 G1
  go_upto_if 32 with fail
  go_cut [] (fun wx => Hid (Gr w2 wx))
  case first =>
    obtain ⟨⟨c0, c1, c2⟩, _⟩ := B2.out.c3
    cases Y
    · have e1 : only false A = 0 := rfl
      have e2 : only false B = 0 := rfl
      have e3 : err false = 2 := rfl
      rw [e1, e2, e3]
      clear e1 e2 e3
      go_wp2_with (refine (num_any _ _).mono ?_; rintro e w' ⟨rfl, rfl⟩)
      go_meet
      exact Lib.hid (Gr.refl _)
    · have e1 : only true A = A := rfl
      have e2 : only true B = B := rfl
      have e3 : err true = 0 := rfl
      rw [e1, e2, e3]
      clear e1 e2 e3
      go_wp2_with fail
      refine (H3.out (by first | rfl | trivial) _).mono ?_
      rintro e w3 ⟨rfl, g3⟩
      clear c0 c1 c2
      go_wp2_with (refine (num_any _ _).mono ?_; rintro e w' ⟨rfl, rfl⟩)
      go_meet
      exact Lib.hid g3
  case rest =>
    have B3 := Lib.hid (B2.out.below hcut.out B2.out.lt)
    have G3 := Lib.hid (Gr.trans G2.out hcut.out)
    obtain ⟨⟨c0, c1, c2⟩, _⟩ := B3.out.c3
    clear hcut H1 H2 H3 B2 G2
    go_upto_if 72 with fail
    refine (I1.out _).mono ?_
    rintro e w3 ⟨rfl, g3⟩
    have B4 := Lib.hid (B3.out.below g3 B3.out.lt)
    have G4 := Lib.hid (Gr.trans G3.out g3)
    clear c0 c1 c2 g3 B3 G3
    obtain ⟨⟨c0, c1, c2⟩, _⟩ := B4.out.c3
    go_upto_if 72 with fail
    refine (I2.out _).mono ?_
    rintro e w4 ⟨rfl, g4⟩
    have B5 := Lib.hid (B4.out.below g4 B4.out.lt)
    have G5 := Lib.hid (Gr.trans G4.out g4)
    clear g4 c0 c1 c2 B4 G4
    go_upto_if 72 with fail
    go_cut [] (fun wx => Hid (Gr w4 wx))
    case first =>
      obtain ⟨⟨c0, c1, c2⟩, _⟩ := B5.out.c3
      cases Z
      · have e1 : only false C = 0 := rfl
        have e2 : only false D = 0 := rfl
        have e3 : err false = 2 := rfl
        rw [e1, e2, e3]
        clear e1 e2 e3
        go_wp2_with (refine (num_any _ _).mono ?_; rintro e w' ⟨rfl, rfl⟩)
        go_meet
        exact Lib.hid (Gr.refl _)
      · have e1 : only true C = C := rfl
        have e2 : only true D = D := rfl
        have e3 : err true = 0 := rfl
        rw [e1, e2, e3]
        clear e1 e2 e3
        go_wp2_with fail
        refine (I3.out (by first | rfl | trivial) _).mono ?_
        rintro e w5 ⟨rfl, g5⟩
        clear c0 c1 c2
        go_wp2_with (refine (num_any _ _).mono ?_; rintro e w' ⟨rfl, rfl⟩)
        go_meet
        exact Lib.hid g5
    case rest =>
      have B6 := Lib.hid (B5.out.below hcut.out B5.out.lt)
      have G6 := Lib.hid (Gr.trans G5.out hcut.out)
      obtain ⟨⟨c0, c1, c2⟩, _⟩ := B6.out.c3
      clear hcut I1 I2 I3 B5 G5
      go_upto_region 17 with fail
      refine (J1.out _).mono ?_
      rintro e w5 ⟨rfl, g5⟩
      have B7 := Lib.hid (B6.out.below g5 B6.out.lt)
      have G7 := Lib.hid (Gr.trans G6.out g5)
      clear c0 c1 c2 g5 B6 G6
      obtain ⟨⟨c0, c1, c2⟩, _⟩ := B7.out.c3
      go_upto_region 17 with fail
      refine (J2.out _).mono ?_
      rintro e w6 ⟨rfl, g6⟩
      have B8 := Lib.hid (B7.out.below g6 B7.out.lt)
      have G8 := Lib.hid (Gr.trans G7.out g6)
      clear g6 c0 c1 c2 B7 G7
      go_upto_region 17 with fail
      go_cut [140] (fun s140 wx => s140 = .bool false ∧ w6 = wx)
      case first =>
        cases X
        · have e3 : err false = 2 := rfl
          rw [e3]
          clear e3
          go_wp2_with (refine (num_any _ _).mono ?_; rintro e w' ⟨rfl, rfl⟩)
          go_meet
          exact ⟨rfl, rfl⟩
        · have e3 : err true = 0 := rfl
          rw [e3]
          clear e3
          go_wp2_with (refine (num_any _ _).mono ?_; rintro e w' ⟨rfl, rfl⟩)
          go_meet
          exact ⟨rfl, rfl⟩
      case rest =>
        obtain ⟨rfl, rfl⟩ := hcut
        clear J1 J2
        obtain ⟨⟨c0, c1, c2⟩, _⟩ := B8.out.c3
        go_wp2_with fail
        refine (K1.out _).mono ?_
        rintro e w7 ⟨rfl, g7⟩
        have B9 := Lib.hid (B8.out.below g7 B8.out.lt)
        have G9 := Lib.hid (Gr.trans G8.out g7)
        clear c0 c1 c2 g7 B8 G8
        obtain ⟨⟨c0, c1, c2⟩, _⟩ := B9.out.c3
        go_wp2_with fail
        refine (K2.out _).mono ?_
        rintro e w8 ⟨rfl, g8⟩
        have B10 := Lib.hid (B9.out.below g8 B9.out.lt)
        have G10 := Lib.hid (Gr.trans G9.out g8)
        clear c0 c1 c2 g8 B9 G9
        obtain ⟨⟨c0, c1, c2⟩, _⟩ := B10.out.c3
        cases M
        · have e1 : only (false && (decide (0 ≤ i) && decide (i < l))) (3 + i) = 0 := rfl
          have e2 : err (false && (decide (0 ≤ i) && decide (i < l))) = 2 := rfl
          rw [e1, e2]
          clear e1 e2
          go_wp2_with (first | (refine (num_any _ _).mono ?_; rintro e w' ⟨rfl, rfl⟩) | (refine (KK.out _).mono ?_; rintro e w9 ⟨rfl, g9⟩))
          go_ret
          exact ⟨rfl, Gr.trans G10.out g9⟩
        · by_cases h0 : 0 ≤ i
          · by_cases h1 : i < l
            · have e1 : only (true && (decide (0 ≤ i) && decide (i < l))) (3 + i) = 3 + i := by simp [only, h0, h1]
              have e2 : err (true && (decide (0 ≤ i) && decide (i < l))) = 0 := by simp [err, h0, h1]
              have e4 : 3 + i ≤ 9223372036854775807 := by have := KB.out (by first | rfl | trivial); omega
              rw [e1, e2]
              clear e1 e2
              go_wp2_with (first | (refine (num_any _ _).mono ?_; rintro e w' ⟨rfl, rfl⟩) | (refine (KK.out _).mono ?_; rintro e w9 ⟨rfl, g9⟩))
              go_ret
              exact ⟨rfl, Gr.trans G10.out g9⟩
            · have e1 : only (true && (decide (0 ≤ i) && decide (i < l))) (3 + i) = 0 := by simp [only, h1]
              have e2 : err (true && (decide (0 ≤ i) && decide (i < l))) = 2 := by simp [err, h1]
              rw [e1, e2]
              clear e1 e2
              go_wp2_with (first | (refine (num_any _ _).mono ?_; rintro e w' ⟨rfl, rfl⟩) | (refine (KK.out _).mono ?_; rintro e w9 ⟨rfl, g9⟩))
              go_ret
              exact ⟨rfl, Gr.trans G10.out g9⟩
          · have e1 : only (true && (decide (0 ≤ i) && decide (i < l))) (3 + i) = 0 := by simp [only, h0]
            have e2 : err (true && (decide (0 ≤ i) && decide (i < l))) = 2 := by simp [err, h0]
            rw [e1, e2]
            clear e1 e2
            go_wp2_with (first | (refine (num_any _ _).mono ?_; rintro e w' ⟨rfl, rfl⟩) | (refine (KK.out _).mono ?_; rintro e w9 ⟨rfl, g9⟩))
            go_ret
            exact ⟨rfl, Gr.trans G10.out g9⟩

end Go.Proofs.Ytanajjfcnedaiaa
