
/-
  The chapter's rows.
-/
import Derived.Test.YtanajjfcnedaiaaOuter
namespace Go.Proofs.Ytanajjfcnedaiaa
open Go.RowKit

theorem row0 (w : World) : Calls Try.prog 9 #[.int .i64 64] w (RetLy 64 16 1 0 w) := by
  have e : mkN 64 = 64 ∧ mkL 64 = 16 ∧ mkG 64 = 1 ∧ mkE 64 = 0 := by decide
  have h := make_any 64 w
  simp only [e] at h
  exact h

theorem row1 (w : World) : Calls Try.prog 9 #[.int .i64 4096] w (RetLy 4096 256 60 0 w) := by
  have e : mkN 4096 = 4096 ∧ mkL 4096 = 256 ∧ mkG 4096 = 60 ∧ mkE 4096 = 0 := by decide
  have h := make_any 4096 w
  simp only [e] at h
  exact h

theorem row2 (w : World) : Calls Try.prog 9 #[.int .i64 63] w (RetLy 0 0 0 2 w) := by
  have e : mkN 63 = 0 ∧ mkL 63 = 0 ∧ mkG 63 = 0 ∧ mkE 63 = 2 := by decide
  have h := make_any 63 w
  simp only [e] at h
  exact h

theorem row3 (w : World) : Calls Try.prog 15 #[.agg #[.int .i64 64, .int .i64 16, .int .i64 1], .int .i64 0] w (Ret3 19 45 0 w) := by
  have e : only (mayL 64 16 1 && (decide ((0 : Int) ≤ 0) && decide ((0 : Int) < 1))) (3 + 16 + 64 * 0) = 19 ∧ only (mayL 64 16 1 && (decide ((0 : Int) ≤ 0) && decide ((0 : Int) < 1))) (min 64 (64 - (3 + 16 + 64 * 0))) = 45 ∧ err (mayL 64 16 1 && (decide ((0 : Int) ≤ 0) && decide ((0 : Int) < 1))) = 0 := by decide
  have h := group_any 64 16 1 0 w
  simp only [e] at h
  exact h

theorem row4 (w : World) : Calls Try.prog 18 #[.agg #[.int .i64 64, .int .i64 16, .int .i64 1], .int .i64 1] w (Ret3 20 0 0 w) := by
  have e : only (mayL 64 16 1 && (decide ((1 : Int) ≤ 1) && decide ((1 : Int) ≤ 1 * 16))) (3 + 16 + (1 - 1) / 16 * 64 + 1 + (1 - 1) % 16 / 4) = 20 ∧ only (mayL 64 16 1 && (decide ((1 : Int) ≤ 1) && decide ((1 : Int) ≤ 1 * 16))) ((1 - 1) % 4 * 62) = 0 ∧ err (mayL 64 16 1 && (decide ((1 : Int) ≤ 1) && decide ((1 : Int) ≤ 1 * 16))) = 0 := by decide
  have h := (fun w => inode_any 64 16 1 1 w (by decide)) w
  simp only [e] at h
  exact h

theorem row5 (w : World) : Calls Try.prog 18 #[.agg #[.int .i64 64, .int .i64 16, .int .i64 1], .int .i64 16] w (Ret3 23 186 0 w) := by
  have e : only (mayL 64 16 1 && (decide ((1 : Int) ≤ 16) && decide ((16 : Int) ≤ 1 * 16))) (3 + 16 + (16 - 1) / 16 * 64 + 1 + (16 - 1) % 16 / 4) = 23 ∧ only (mayL 64 16 1 && (decide ((1 : Int) ≤ 16) && decide ((16 : Int) ≤ 1 * 16))) ((16 - 1) % 4 * 62) = 186 ∧ err (mayL 64 16 1 && (decide ((1 : Int) ≤ 16) && decide ((16 : Int) ≤ 1 * 16))) = 0 := by decide
  have h := (fun w => inode_any 64 16 1 16 w (by decide)) w
  simp only [e] at h
  exact h

theorem row6 (w : World) : Calls Try.prog 18 #[.agg #[.int .i64 64, .int .i64 16, .int .i64 1], .int .i64 17] w (Ret3 0 0 2 w) := by
  have e : only (mayL 64 16 1 && (decide ((1 : Int) ≤ 17) && decide ((17 : Int) ≤ 1 * 16))) (3 + 16 + (17 - 1) / 16 * 64 + 1 + (17 - 1) % 16 / 4) = 0 ∧ only (mayL 64 16 1 && (decide ((1 : Int) ≤ 17) && decide ((17 : Int) ≤ 1 * 16))) ((17 - 1) % 4 * 62) = 0 ∧ err (mayL 64 16 1 && (decide ((1 : Int) ≤ 17) && decide ((17 : Int) ≤ 1 * 16))) = 2 := by decide
  have h := (fun w => inode_any 64 16 1 17 w (by decide)) w
  simp only [e] at h
  exact h

theorem row7 (w : World) : Calls Try.prog 21 #[.agg #[.int .i64 64, .int .i64 16, .int .i64 1], .int .i64 24] w (Ret3 0 5 0 w) := by
  have e : only (mayL 64 16 1 && blkB 64 16 1 24) ((24 - (3 + 16)) / 64) = 0 ∧ only (mayL 64 16 1 && blkB 64 16 1 24) ((24 - (3 + 16)) % 64) = 5 ∧ err (mayL 64 16 1 && blkB 64 16 1 24) = 0 := by decide
  have h := block_any 64 16 1 24 w
  simp only [e] at h
  exact h

theorem row8 (w : World) : Calls Try.prog 21 #[.agg #[.int .i64 64, .int .i64 16, .int .i64 1], .int .i64 23] w (Ret3 0 0 2 w) := by
  have e : only (mayL 64 16 1 && blkB 64 16 1 23) ((23 - (3 + 16)) / 64) = 0 ∧ only (mayL 64 16 1 && blkB 64 16 1 23) ((23 - (3 + 16)) % 64) = 0 ∧ err (mayL 64 16 1 && blkB 64 16 1 23) = 2 := by decide
  have h := block_any 64 16 1 23 w
  simp only [e] at h
  exact h

set_option maxRecDepth 100000 in
set_option maxHeartbeats 4000000 in
theorem known_any (w : World) : Calls Try.prog 14 #[] w (RetB true w) := by
  go_enter Try.func14, Try.ntmps14
  go_wp2_with fail
  refine (row0 _).mono ?_
  rintro e w0 ⟨rfl, g0⟩
  have G0 := Lib.hid g0
  go_wp2_with fail
  refine (row1 _).mono ?_
  rintro e w1 ⟨rfl, g1⟩
  have G1 := Lib.hid (Gr.trans G0.out (grow1 g1))
  have B1 := Lib.hid ((Blk.new w0 TY #[.int .i64 64, .int .i64 16, .int .i64 1]).below g1 (by go_size))
  have s1 := lt_of_new g1
  clear g1
  go_wp2_with fail
  refine (row2 _).mono ?_
  rintro e w2 ⟨rfl, g2⟩
  have G2 := Lib.hid (Gr.trans G1.out (grow1 g2))
  have B2 := Lib.hid ((Blk.new w1 TY #[.int .i64 4096, .int .i64 256, .int .i64 60]).below g2 (by go_size))
  have s2 := lt_of_new g2
  have B1 := Lib.hid ((B1.out.alloc _).below g2 (by go_size))
  clear g2
  obtain ⟨⟨c0, c1, c2⟩, _⟩ := B1.out.c3
  have s2b : w0.heap.size < w2.heap.size := by omega
  go_wp2_with fail
  refine (row3 _).mono ?_
  rintro e w3 ⟨rfl, g3⟩
  have G3 := Lib.hid (Gr.trans G2.out (grow1 g3))
  have B1 := Lib.hid ((B1.out.alloc _).below g3 (by go_size))
  have B2 := Lib.hid ((B2.out.alloc _).below g3 (by go_size))
  clear c0 c1 c2 s1 s2 s2b g3
  obtain ⟨⟨c0, c1, c2⟩, _⟩ := B1.out.c3
  obtain ⟨⟨d0, d1, d2⟩, _⟩ := B2.out.c3
  go_wp2_with fail
  refine (row4 _).mono ?_
  rintro e w4 ⟨rfl, g4⟩
  have G4 := Lib.hid (Gr.trans G3.out g4)
  have B1 := Lib.hid (B1.out.below g4 B1.out.lt)
  have B2 := Lib.hid (B2.out.below g4 B2.out.lt)
  clear c0 c1 c2 d0 d1 d2 g4
  obtain ⟨⟨c0, c1, c2⟩, _⟩ := B1.out.c3
  obtain ⟨⟨d0, d1, d2⟩, _⟩ := B2.out.c3
  go_wp2_with fail
  refine (row5 _).mono ?_
  rintro e w5 ⟨rfl, g5⟩
  have G5 := Lib.hid (Gr.trans G4.out g5)
  have B1 := Lib.hid (B1.out.below g5 B1.out.lt)
  have B2 := Lib.hid (B2.out.below g5 B2.out.lt)
  clear c0 c1 c2 d0 d1 d2 g5
  obtain ⟨⟨c0, c1, c2⟩, _⟩ := B1.out.c3
  obtain ⟨⟨d0, d1, d2⟩, _⟩ := B2.out.c3
  go_wp2_with fail
  refine (row6 _).mono ?_
  rintro e w6 ⟨rfl, g6⟩
  have G6 := Lib.hid (Gr.trans G5.out g6)
  have B1 := Lib.hid (B1.out.below g6 B1.out.lt)
  have B2 := Lib.hid (B2.out.below g6 B2.out.lt)
  clear c0 c1 c2 d0 d1 d2 g6
  obtain ⟨⟨c0, c1, c2⟩, _⟩ := B1.out.c3
  obtain ⟨⟨d0, d1, d2⟩, _⟩ := B2.out.c3
  go_wp2_with fail
  refine (row7 _).mono ?_
  rintro e w7 ⟨rfl, g7⟩
  have G7 := Lib.hid (Gr.trans G6.out g7)
  have B1 := Lib.hid (B1.out.below g7 B1.out.lt)
  have B2 := Lib.hid (B2.out.below g7 B2.out.lt)
  clear c0 c1 c2 d0 d1 d2 g7
  obtain ⟨⟨c0, c1, c2⟩, _⟩ := B1.out.c3
  obtain ⟨⟨d0, d1, d2⟩, _⟩ := B2.out.c3
  go_wp2_with fail
  refine (row8 _).mono ?_
  rintro e w8 ⟨rfl, g8⟩
  have G8 := Lib.hid (Gr.trans G7.out g8)
  have B1 := Lib.hid (B1.out.below g8 B1.out.lt)
  have B2 := Lib.hid (B2.out.below g8 B2.out.lt)
  clear c0 c1 c2 d0 d1 d2 g8
  obtain ⟨⟨c0, c1, c2⟩, _⟩ := B1.out.c3
  obtain ⟨⟨d0, d1, d2⟩, _⟩ := B2.out.c3
  go_wp2_with (refine (num_any _ _).mono ?_; rintro e w' ⟨rfl, rfl⟩)
  go_ret
  exact ⟨rfl, G8.out⟩

end Go.Proofs.Ytanajjfcnedaiaa
