
/-
  Where groups, inodes, blocks and the log's sectors lie: the program's functions, and the document's.
-/
import Derived.Test.YtanajjfcnedaiaaBlock
namespace Go.Proofs.Ytanajjfcnedaiaa
open Go.RowKit

set_option maxRecDepth 100000 in
theorem group_any (n l g i : Int) (w : World) : Calls Try.prog 15 #[.agg #[.int .i64 n, .int .i64 l, .int .i64 g], .int .i64 i] w (Ret3 (only (mayL n l g && (decide (0 ≤ i) && decide (i < g))) (3 + l + 64 * i)) (only (mayL n l g && (decide (0 ≤ i) && decide (i < g))) (min 64 (n - (3 + l + 64 * i)))) (err (mayL n l g && (decide (0 ≤ i) && decide (i < g)))) w) := by
  have B0 := Lib.hid (Blk.new w TY #[.int .i64 n, .int .i64 l, .int .i64 g])
  go_enter Try.func15, Try.ntmps15
  go_wp2_with fail
  refine (asking_mk _ _ _ _ _ _).mono ?_
  rintro e w1 ⟨rfl, hb, hc, g1⟩
  simp only [World.size_alloc] at hb hc
  have B1 := Lib.hid (B0.out.below g1 B0.out.lt)
  have HA := Lib.hid (asking_group n l g i _ _ _ _ _ _ w1 hb hc fun hm W gW => group1_any n l g i w.heap.size W (B1.out.below gW B1.out.lt) hm)
  have G1 := Lib.hid (grow1 g1)
  clear hb hc g1
  go_wp2_with fail
  refine HA.out.mono ?_
  rintro e w2 ⟨rfl, g2⟩
  have G2 := Lib.hid (Gr.trans G1.out g2)
  clear g2
  go_wp2_with fail
  go_returns
  exact ⟨rfl, G2.out⟩

set_option maxRecDepth 100000 in
theorem inode_any (n l g i : Int) (w : World) (hbig : i ≤ 9223372036854775807) : Calls Try.prog 18 #[.agg #[.int .i64 n, .int .i64 l, .int .i64 g], .int .i64 i] w (Ret3 (only (mayL n l g && (decide (1 ≤ i) && decide (i ≤ g * 16))) (3 + l + (i - 1) / 16 * 64 + 1 + (i - 1) % 16 / 4)) (only (mayL n l g && (decide (1 ≤ i) && decide (i ≤ g * 16))) ((i - 1) % 4 * 62)) (err (mayL n l g && (decide (1 ≤ i) && decide (i ≤ g * 16)))) w) := by
  have B0 := Lib.hid (Blk.new w TY #[.int .i64 n, .int .i64 l, .int .i64 g])
  go_enter Try.func18, Try.ntmps18
  go_wp2_with fail
  refine (asking_mk _ _ _ _ _ _).mono ?_
  rintro e w1 ⟨rfl, hb, hc, g1⟩
  simp only [World.size_alloc] at hb hc
  have B1 := Lib.hid (B0.out.below g1 B0.out.lt)
  have HA := Lib.hid (asking_inode n l g i _ _ _ _ _ _ w1 hb hc fun hm W gW => inode1_any n l g i w.heap.size W (B1.out.below gW B1.out.lt) hm hbig)
  have G1 := Lib.hid (grow1 g1)
  clear hb hc g1
  go_wp2_with fail
  refine HA.out.mono ?_
  rintro e w2 ⟨rfl, g2⟩
  have G2 := Lib.hid (Gr.trans G1.out g2)
  clear g2
  go_wp2_with fail
  go_returns
  exact ⟨rfl, G2.out⟩

set_option maxRecDepth 100000 in
theorem block_any (n l g i : Int) (w : World) : Calls Try.prog 21 #[.agg #[.int .i64 n, .int .i64 l, .int .i64 g], .int .i64 i] w (Ret3 (only (mayL n l g && blkB n l g i) ((i - (3 + l)) / 64)) (only (mayL n l g && blkB n l g i) ((i - (3 + l)) % 64)) (err (mayL n l g && blkB n l g i)) w) := by
  have B0 := Lib.hid (Blk.new w TY #[.int .i64 n, .int .i64 l, .int .i64 g])
  go_enter Try.func21, Try.ntmps21
  go_wp2_with fail
  refine (asking_mk _ _ _ _ _ _).mono ?_
  rintro e w1 ⟨rfl, hb, hc, g1⟩
  simp only [World.size_alloc] at hb hc
  have B1 := Lib.hid (B0.out.below g1 B0.out.lt)
  have HA := Lib.hid (asking_block n l g i _ _ _ _ _ _ w1 hb hc fun hm W gW => block1_any n l g i w.heap.size W (B1.out.below gW B1.out.lt) hm)
  have G1 := Lib.hid (grow1 g1)
  clear hb hc g1
  go_wp2_with fail
  refine HA.out.mono ?_
  rintro e w2 ⟨rfl, g2⟩
  have G2 := Lib.hid (Gr.trans G1.out g2)
  clear g2
  go_wp2_with fail
  go_returns
  exact ⟨rfl, G2.out⟩

set_option maxRecDepth 100000 in
theorem logAt_any (n l g i : Int) (w : World) : Calls Try.prog 23 #[.agg #[.int .i64 n, .int .i64 l, .int .i64 g], .int .i64 i] w (Ret2 (only (mayL n l g && (decide (0 ≤ i) && decide (i < l))) (3 + i)) (err (mayL n l g && (decide (0 ≤ i) && decide (i < l)))) w) := by
  have B0 := Lib.hid (Blk.new w TY #[.int .i64 n, .int .i64 l, .int .i64 g])
  go_enter Try.func23, Try.ntmps23
  go_wp2_with fail
  refine (asking_mk _ _ _ _ _ _).mono ?_
  rintro e w1 ⟨rfl, hb, hc, g1⟩
  simp only [World.size_alloc] at hb hc
  have B1 := Lib.hid (B0.out.below g1 B0.out.lt)
  have HA := Lib.hid (asking_log n l g i _ _ _ _ _ _ w1 hb hc fun hm W gW => log1_any n l g i w.heap.size W (B1.out.below gW B1.out.lt) hm)
  have G1 := Lib.hid (grow1 g1)
  clear hb hc g1
  go_wp2_with fail
  refine HA.out.mono ?_
  rintro e w2 ⟨rfl, g2⟩
  have G2 := Lib.hid (Gr.trans G1.out g2)
  clear g2
  go_wp2_with fail
  go_returns
  exact ⟨rfl, G2.out⟩

/-- The document's answers. -/
def RetII (a b : Int) (w : World) (en : Ending) (w' : World) : Prop := en = .returned (.tuple #[.int .i64 a, .int .i64 b]) ∧ Gr w w'

set_option maxRecDepth 100000 in
theorem hasGroup_any (n l g i : Int) (w : World) : Calls Try.prog 16 #[.agg #[.int .i64 n, .int .i64 l, .int .i64 g], .int .i64 i] w (RetB (mayL n l g && (decide (0 ≤ i) && decide (i < g))) w) := by
  have HM := Lib.hid (refMayS_any n l g)
  have HI := Lib.hid (fun h => may_in (n := n) (l := l) (g := g) h)
  obtain ⟨M, hM⟩ : ∃ M, M = mayL n l g := ⟨_, rfl⟩
  rw [← hM] at HM HI ⊢
  clear hM
  cases M
  · go_enter Try.func16, Try.ntmps16
    go_wp2_with fail
    refine (HM.out _).mono ?_
    rintro e w1 ⟨rfl, g1⟩
    have G1 := Lib.hid (grow1 g1)
    clear g1
    go_wp2_with fail
    go_ret
    exact ⟨rfl, G1.out⟩
  · by_cases h0 : 0 ≤ i
    all_goals
      go_enter Try.func16, Try.ntmps16
      go_wp2_with fail
      refine (HM.out _).mono ?_
      rintro e w1 ⟨rfl, g1⟩
      obtain ⟨⟨c0, c1, c2⟩, f0, f1, f2⟩ := ((Blk.new w 23 _).below g1 (by go_size)).c3
      have G1 := Lib.hid (grow1 g1)
      clear g1
      go_wp2_with fail
      go_ret
      exact ⟨ret_b (by have hi := HI.out (by simp); first | (simp; done) | (simp; omega) | (simp [h0]; done) | (simp [h0]; unfold wrap64; omega)), G1.out⟩

set_option maxRecDepth 100000 in
theorem refGroup_any (n l g i : Int) (w : World) (hm : mayL n l g = true) (h0 : 0 ≤ i) (h1 : i < g) : Calls Try.prog 17 #[.agg #[.int .i64 n, .int .i64 l, .int .i64 g], .int .i64 i] w (RetII (3 + l + 64 * i) (min 64 (n - (3 + l + 64 * i))) w) := by
  have hi := may_in hm
  obtain ⟨i0, i1, i2, i3, i4, i5, i6, i7⟩ := hi
  have HG := Lib.hid ((Gr.refl w).alloc (Nat.le_refl _) (.cells #[.int .i64 n, .int .i64 l, .int .i64 g] TY))
  clear hm
  by_cases hc : 64 < n - (3 + l + 64 * i)
  · have HE : Hid (min 64 (n - (3 + l + 64 * i)) = 64) := Lib.hid (by omega)
    rw [HE.out]
    go_enter Try.func17, Try.ntmps17
    go_wp2
    go_returns
    exact ⟨rfl, HG.out⟩
  · have HE : Hid (min 64 (n - (3 + l + 64 * i)) = n - (3 + l + 64 * i)) := Lib.hid (by omega)
    rw [HE.out]
    go_enter Try.func17, Try.ntmps17
    go_wp2
    go_returns
    exact ⟨rfl, HG.out⟩

set_option maxRecDepth 100000 in
theorem refInode_any (n l g i : Int) (w : World) (hm : mayL n l g = true) (h0 : 1 ≤ i) (h1 : i ≤ g * 16) : Calls Try.prog 20 #[.agg #[.int .i64 n, .int .i64 l, .int .i64 g], .int .i64 i] w (RetII (3 + l + (i - 1) / 16 * 64 + 1 + (i - 1) % 16 / 4) ((i - 1) % 4 * 62) w) := by
  have hi := may_in hm
  obtain ⟨i0, i1, i2, i3, i4, i5, i6, i7⟩ := hi
  have HR := Lib.hid (fun w => refGroup_any n l g ((i - 1) / 16) w hm (by omega) (by omega))
  clear hm
  have HX : Hid (3 + l + 64 * ((i - 1) / 16) + 1 + (i - 1) % 16 / 4 = 3 + l + (i - 1) / 16 * 64 + 1 + (i - 1) % 16 / 4) := Lib.hid (by omega)
  have HY : Hid (62 * ((i - 1) % 4) = (i - 1) % 4 * 62) := Lib.hid (by omega)
  rw [← HX.out, ← HY.out]
  go_enter Try.func20, Try.ntmps20
  go_wp2_with fail
  refine (HR.out _).mono ?_
  rintro e w1 ⟨rfl, g1⟩
  have G1 := Lib.hid (grow1 g1)
  clear g1
  go_wp2_with fail
  go_returns
  exact ⟨rfl, G1.out⟩

set_option maxRecDepth 100000 in
theorem hasInode_any (n l g i : Int) (w : World) : Calls Try.prog 19 #[.agg #[.int .i64 n, .int .i64 l, .int .i64 g], .int .i64 i] w (RetB (mayL n l g && (decide (1 ≤ i) && decide (i ≤ g * 16))) w) := by
  have HM := Lib.hid (refMayS_any n l g)
  have HI := Lib.hid (fun h => may_in (n := n) (l := l) (g := g) h)
  obtain ⟨M, hM⟩ : ∃ M, M = mayL n l g := ⟨_, rfl⟩
  rw [← hM] at HM HI ⊢
  clear hM
  cases M
  · go_enter Try.func19, Try.ntmps19
    go_wp2_with fail
    refine (HM.out _).mono ?_
    rintro e w1 ⟨rfl, g1⟩
    have G1 := Lib.hid (grow1 g1)
    clear g1
    go_wp2_with fail
    go_ret
    exact ⟨rfl, G1.out⟩
  · by_cases h0 : 1 ≤ i
    all_goals
      go_enter Try.func19, Try.ntmps19
      go_wp2_with fail
      refine (HM.out _).mono ?_
      rintro e w1 ⟨rfl, g1⟩
      obtain ⟨⟨c0, c1, c2⟩, f0, f1, f2⟩ := ((Blk.new w 23 _).below g1 (by go_size)).c3
      have G1 := Lib.hid (grow1 g1)
      clear g1
      go_wp2_with fail
      go_ret
      exact ⟨ret_b (by have hi := HI.out (by simp); first | (simp; done) | (simp; omega) | (simp [h0]; done) | (simp [h0]; unfold wrap64; omega)), G1.out⟩


set_option maxRecDepth 100000 in
theorem refBlock_no (n l g i : Int) (w : World) (h : mayL n l g = false ∨ i < 0 ∨ n ≤ i) : Calls Try.prog 22 #[.agg #[.int .i64 n, .int .i64 l, .int .i64 g], .int .i64 i] w (Ret3B 0 0 false w) := by
  have HM := Lib.hid (refMayS_any n l g)
  obtain ⟨M, hM⟩ : ∃ M, M = mayL n l g := ⟨_, rfl⟩
  rw [← hM] at HM h
  clear hM
  cases M
  · clear h
    go_enter Try.func22, Try.ntmps22
    go_wp2_with fail
    refine (HM.out _).mono ?_
    rintro e w1 ⟨rfl, g1⟩
    have G1 := Lib.hid (grow1 g1)
    clear g1
    go_wp2_with fail
    go_returns
    exact ⟨rfl, G1.out⟩
  · have h : i < 0 ∨ n ≤ i := by simpa using h
    by_cases h0 : i < 0
    · clear h
      go_enter Try.func22, Try.ntmps22
      go_wp2_with fail
      refine (HM.out _).mono ?_
      rintro e w1 ⟨rfl, g1⟩
      have G1 := Lib.hid (grow1 g1)
      clear g1
      go_wp2_with fail
      go_returns
      exact ⟨rfl, G1.out⟩
    · have h2 : n ≤ i := by omega
      clear h
      go_enter Try.func22, Try.ntmps22
      go_wp2_with fail
      refine (HM.out _).mono ?_
      rintro e w1 ⟨rfl, g1⟩
      obtain ⟨⟨c0, c1, c2⟩, f0, f1, f2⟩ := ((Blk.new w 23 _).below g1 (by go_size)).c3
      have G1 := Lib.hid (grow1 g1)
      clear g1
      go_wp2_with fail
      go_returns
      exact ⟨rfl, G1.out⟩

set_option maxRecDepth 100000 in
set_option maxHeartbeats 1000000 in
theorem refBlock_in (n l g i : Int) (w : World) (hm : mayL n l g = true) (h0 : 0 ≤ i) (h1 : i < n) : Calls Try.prog 22 #[.agg #[.int .i64 n, .int .i64 l, .int .i64 g], .int .i64 i] w (Ret3B (only (blkB n l g i) ((i - (3 + l)) / 64)) (only (blkB n l g i) ((i - (3 + l)) % 64)) (blkB n l g i) w) := by
  have HM := Lib.hid (refMayS_any n l g)
  rw [hm] at HM
  have hi := may_in hm
  obtain ⟨i0, i1, i2, i3, i4, i5, i6, i7⟩ := hi
  have HR := Lib.hid (fun k w h0 h1 => refGroup_any n l g k w hm h0 h1)
  have HBL : Hid (blkB n l g i = true ↔ 3 + l ≤ i ∧ i < 3 + l + g * 64 ∧ i < n ∧ 5 ≤ (i - (3 + l)) % 64) := Lib.hid (by simp [blkB])
  clear hm
  obtain ⟨G, rfl⟩ := Int.eq_ofNat_of_zero_le (show 0 ≤ g by omega)
  go_enter Try.func22, Try.ntmps22
  go_wp2_with fail
  refine (HM.out _).mono ?_
  rintro e w1 ⟨rfl, g1⟩
  have B1 := Lib.hid ((Blk.new w 23 _).below g1 (by go_size))
  obtain ⟨⟨c0, c1, c2⟩, f0, f1, f2⟩ := B1.out.c3
  have G1 := Lib.hid (grow1 g1)
  have s1 := lt_of_new g1
  clear g1
  go_wp2_with fail
  clear c0 c1 c2 f0 f1 f2
  go_loopw [7] (fun k wr => ∃ j : Nat, j ≤ G ∧ k = .int .i64 j ∧ Hid (blkB n l G i = true → (j : Int) ≤ (i - (3 + l)) / 64) ∧ Hid (Gr w1 wr)) (fun k _ => G - (intOf k).toNat)
  case atStart => exact ⟨0, Nat.zero_le _, rfl, Lib.hid (fun h => by have := HBL.out.1 h; omega), Lib.hid (Gr.refl _)⟩
  case round =>
    obtain ⟨j, hj, rfl, hk, hg⟩ := hrel
    obtain ⟨⟨c0, c1, c2⟩, _⟩ := (B1.out.below hg.out B1.out.lt).c3
    by_cases hlt : j < G
    · go_wp2_with fail
      refine (HR.out _ _ (by omega) (by omega)).mono ?_
      rintro e w2 ⟨rfl, g2⟩
      have G2 := Lib.hid (Gr.trans hg.out g2)
      clear g2 hg
      by_cases hin : 3 + l + 64 * j + 5 ≤ i ∧ i < 3 + l + 64 * j + min 64 (n - (3 + l + 64 * j))
      · obtain ⟨q0, q1⟩ := hin
        have hb : blkB n l G i = true := HBL.out.2 (by omega)
        have e1 : (i - (3 + l)) / 64 = j := by omega
        have e2 : (i - (3 + l)) % 64 = i - (3 + l + 64 * j) := by omega
        have HE : Hid ((i - (3 + l)) / 64 = j ∧ (i - (3 + l)) % 64 = i - (3 + l + 64 * j) ∧ blkB n l G i = true) := Lib.hid ⟨e1, e2, hb⟩
        clear e1 e2 hb
        go_wp2_with fail
        go_returns
        exact ⟨by rw [HE.out.1, HE.out.2.1, HE.out.2.2]; rfl, Gr.trans G1.out G2.out⟩
      · have hn : Hid (blkB n l G i = true → ((j + 1 : Nat) : Int) ≤ (i - (3 + l)) / 64) := Lib.hid fun h => by
          have h1 := HBL.out.1 h
          have h2 := hk.out h
          omega
        clear hk
        by_cases q0 : 3 + l + 64 * j + 5 ≤ i
        · have q1 : ¬ i < 3 + l + 64 * j + min 64 (n - (3 + l + 64 * j)) := fun h => hin ⟨q0, h⟩
          clear hin
          go_wp2_with fail
          go_roundw
          case rel => exact ⟨j + 1, by omega, by go_num, hn, G2⟩
          case measure => simp [intOf]; omega
        · clear hin
          go_wp2_with fail
          go_roundw
          case rel => exact ⟨j + 1, by omega, by go_num, hn, G2⟩
          case measure => simp [intOf]; omega
    · have HE : Hid (blkB n l G i = false) := Lib.hid (by
        cases hb : blkB n l G i
        · rfl
        · have h1 := HBL.out.1 hb
          have h2 := hk.out hb
          omega)
      clear hk
      go_wp2_with fail
      go_returns
      exact ⟨by rw [HE.out]; rfl, Gr.trans G1.out hg.out⟩

theorem refBlock_any (n l g i : Int) (w : World) : Calls Try.prog 22 #[.agg #[.int .i64 n, .int .i64 l, .int .i64 g], .int .i64 i] w (Ret3B (only (mayL n l g && blkB n l g i) ((i - (3 + l)) / 64)) (only (mayL n l g && blkB n l g i) ((i - (3 + l)) % 64)) (mayL n l g && blkB n l g i) w) := by
  by_cases hm : mayL n l g = true
  · by_cases h : 0 ≤ i ∧ i < n
    · rw [hm]
      exact refBlock_in n l g i w hm h.1 h.2
    · have hb : blkB n l g i = false := by have := may_in hm; unfold blkB; exact decide_eq_false (by omega)
      rw [hb, hm]
      exact refBlock_no n l g i w (by omega)
  · have hm : mayL n l g = false := by simpa using hm
    rw [hm]
    exact refBlock_no n l g i w (.inl hm)

end Go.Proofs.Ytanajjfcnedaiaa
