import Derived.Test.YtmmhfjcaejkmiaaKnownc
namespace Go.Proofs.Ytmmhfjcaejkmiaa
open Go.RowKit Cr

theorem pat_swap (s f m : W) (b o : Nat) : patW (patW s f b) m o = patW (patW s m o) f b := by
  unfold patW
  rw [BitVec.xor_assoc, BitVec.xor_assoc, BitVec.xor_comm (its (8 * (4 + b)) f)]
theorem pat_both (s f m : W) (b o : Nat) : patW (patW s f b) m o = patW s f b ^^^ patW s m o ^^^ s := by
  unfold patW
  rw [BitVec.xor_assoc (s ^^^ _), BitVec.xor_assoc s (its _ m) s, xlc s, BitVec.xor_self, BitVec.xor_zero]
theorem pat_one (s f m : W) (b : Nat) : patW (patW s f b) m b = patW s (f ^^^ m) b := by
  unfold patW
  rw [its_xor, BitVec.xor_assoc]

set_option maxRecDepth 100000 in
set_option maxHeartbeats 1600000 in
theorem sumsApart_out (s f : W) (b : Int) (m : W) (o : Int) (w : World) (h : b < 0 ∨ 3000 < b ∨ o < 0 ∨ 3000 < o) : Calls Try.prog 6 #[.int .u32 (U s), .int .u32 (U f), .int .i64 b, .int .u32 (U m), .int .i64 o] w fun e w' => e = .returned (.bool true) ∧ Gr w w' := by
  have hb : (decide (b < 0) || decide (3000 < b) || decide (o < 0) || decide (3000 < o)) = true := by simp; omega
  have hb' : ¬ (((0 ≤ b ∧ b ≤ 3000) ∧ 0 ≤ o) ∧ o ≤ 3000) := by omega
  clear h
  go_enter Try.func6, Try.ntmps6
  go_wp2_with fail
  all_goals
    refine (patch_no _ _ _ _ (by omega)).mono ?_
    rintro e w' ⟨rfl, rfl⟩
    go_wp2_with fail
    refine (patch_no _ _ _ _ (by omega)).mono ?_
    rintro e w' ⟨rfl, rfl⟩
    go_wp2_with fail
    refine (known_any _).mono ?_
    rintro e w1 ⟨rfl, g1⟩
    have HG1 := Lib.hid g1
    clear g1
    go_wp2_with fail
    go_ret
    exact ⟨rfl, HG1.out⟩

set_option maxRecDepth 100000 in
set_option maxHeartbeats 1600000 in
theorem sumsApart_ne (s f : W) (b : Nat) (m : W) (o : Nat) (w : World) (h : b ≤ 3000) (k : o ≤ 3000) (hne : b ≠ o) : Calls Try.prog 6 #[.int .u32 (U s), .int .u32 (U f), .int .i64 b, .int .u32 (U m), .int .i64 o] w fun e w' => e = .returned (.bool true) ∧ Gr w w' := by
  have h1 : (0 : Int) ≤ b := by omega
  have h2 : (b : Int) ≤ 3000 := by omega
  have h3 : (0 : Int) ≤ o := by omega
  have h4 : (o : Int) ≤ 3000 := by omega
  have h5 : ¬ (b : Int) = (o : Int) := by omega
  have h6 : ((b : Int) != (o : Int)) = true := by simp; omega
  have hx : bits BinOp.xor IntKind.u32 (bits BinOp.xor IntKind.u32 (U (patW s f b)) (U (patW s m o))) (U s) = U (patW (patW s f b) m o) := by rw [U_xor, U_xor, pat_both]
  have HX := Lib.hid hx
  have HW := Lib.hid (pat_swap s f m b o)
  clear hx
  go_enter Try.func6, Try.ntmps6
  go_wp2_with fail
  refine (patch_yes _ _ _ _ (by omega)).mono ?_
  rintro e w1 ⟨rfl, g1⟩
  have HG1 := Lib.hid g1
  clear g1
  go_wp2_with fail
  refine (patch_yes _ _ _ _ (by omega)).mono ?_
  rintro e w2 ⟨rfl, g2⟩
  have HG2 := Lib.hid (Gr.trans HG1.out g2)
  clear g2 HG1
  go_wp2_with fail
  refine (patch_yes _ _ _ _ (by omega)).mono ?_
  rintro e w3 ⟨rfl, g3⟩
  have HG3 := Lib.hid (Gr.trans HG2.out g3)
  clear g3 HG2
  go_wp2_with fail
  refine (patch_yes _ _ _ _ (by omega)).mono ?_
  rintro e w4 ⟨rfl, g4⟩
  have HG4 := Lib.hid (Gr.trans HG3.out g4)
  clear g4 HG3
  rw [← HW.out]
  go_wp2_with fail
  refine (patch_yes _ _ _ _ (by omega)).mono ?_
  rintro e w5 ⟨rfl, g5⟩
  have HG5 := Lib.hid (Gr.trans HG4.out g5)
  clear g5 HG4
  go_wp2_with fail
  refine (patch_yes _ _ _ _ (by omega)).mono ?_
  rintro e w6 ⟨rfl, g6⟩
  have HG6 := Lib.hid (Gr.trans HG5.out g6)
  clear g6 HG5
  have hx := HX.out
  go_wp2_with fail
  refine (known_any _).mono ?_
  rintro e w7 ⟨rfl, g7⟩
  have HG7 := Lib.hid (Gr.trans HG6.out g7)
  clear g7 HG6
  go_wp2_with fail
  go_ret
  exact ⟨rfl, HG7.out⟩

set_option maxRecDepth 100000 in
set_option maxHeartbeats 1600000 in
theorem sumsApart_eq (s f : W) (b : Nat) (m : W) (w : World) (h : b ≤ 3000) : Calls Try.prog 6 #[.int .u32 (U s), .int .u32 (U f), .int .i64 b, .int .u32 (U m), .int .i64 b] w fun e w' => e = .returned (.bool true) ∧ Gr w w' := by
  have h1 : (0 : Int) ≤ b := by omega
  have h2 : (b : Int) ≤ 3000 := by omega
  have hx : bits BinOp.xor IntKind.u32 (bits BinOp.xor IntKind.u32 (U (patW s f b)) (U (patW s m b))) (U s) = U (patW (patW s f b) m b) := by rw [U_xor, U_xor, pat_both]
  have HX := Lib.hid hx
  have HW := Lib.hid (pat_swap s f m b b)
  have HO := Lib.hid (pat_one s f m b)
  have HF := Lib.hid (U_xor f m)
  clear hx
  go_enter Try.func6, Try.ntmps6
  go_wp2_with fail
  refine (patch_yes _ _ _ _ (by omega)).mono ?_
  rintro e w1 ⟨rfl, g1⟩
  have HG1 := Lib.hid g1
  clear g1
  go_wp2_with fail
  refine (patch_yes _ _ _ _ (by omega)).mono ?_
  rintro e w2 ⟨rfl, g2⟩
  have HG2 := Lib.hid (Gr.trans HG1.out g2)
  clear g2 HG1
  go_wp2_with fail
  refine (patch_yes _ _ _ _ (by omega)).mono ?_
  rintro e w3 ⟨rfl, g3⟩
  have HG3 := Lib.hid (Gr.trans HG2.out g3)
  clear g3 HG2
  go_wp2_with fail
  refine (patch_yes _ _ _ _ (by omega)).mono ?_
  rintro e w4 ⟨rfl, g4⟩
  have HG4 := Lib.hid (Gr.trans HG3.out g4)
  clear g4 HG3
  rw [← HW.out]
  go_wp2_with fail
  refine (patch_yes _ _ _ _ (by omega)).mono ?_
  rintro e w5 ⟨rfl, g5⟩
  have HG5 := Lib.hid (Gr.trans HG4.out g5)
  clear g5 HG4
  go_wp2_with fail
  refine (patch_yes _ _ _ _ (by omega)).mono ?_
  rintro e w6 ⟨rfl, g6⟩
  have HG6 := Lib.hid (Gr.trans HG5.out g6)
  clear g6 HG5
  have hx := HX.out
  have hf := HF.out
  go_wp2_with fail
  clear hx hf
  refine (patch_yes _ _ _ _ (by omega)).mono ?_
  rintro e w7 ⟨rfl, g7⟩
  have HG7 := Lib.hid (Gr.trans HG6.out g7)
  clear g7 HG6
  rw [← HO.out]
  go_wp2_with fail
  refine (known_any _).mono ?_
  rintro e w8 ⟨rfl, g8⟩
  have HG8 := Lib.hid (Gr.trans HG7.out g8)
  clear g8 HG7
  go_wp2_with fail
  go_ret
  exact ⟨rfl, HG8.out⟩

/-- SumsApart is true of any input. -/
theorem sumsApart_walk (s f : W) (b : Int) (m : W) (o : Int) (w : World) : Calls Try.prog 6 #[.int .u32 (U s), .int .u32 (U f), .int .i64 b, .int .u32 (U m), .int .i64 o] w fun e w' => e = .returned (.bool true) ∧ Gr w w' := by
  by_cases h : 0 ≤ b ∧ b ≤ 3000 ∧ 0 ≤ o ∧ o ≤ 3000
  · obtain ⟨h1, h2, h3, h4⟩ := h
    obtain ⟨B, rfl⟩ := Int.eq_ofNat_of_zero_le h1
    obtain ⟨O, rfl⟩ := Int.eq_ofNat_of_zero_le h3
    by_cases e : B = O
    · subst e
      exact sumsApart_eq s f B m w (by omega)
    · exact sumsApart_ne s f B m O w (by omega) (by omega) e
  · exact sumsApart_out s f b m o w (by omega)

theorem sumsApart_int (s f b m o : Int) (w : World) (hs : 0 ≤ s ∧ s < 4294967296) (hf : 0 ≤ f ∧ f < 4294967296) (hm : 0 ≤ m ∧ m < 4294967296) : Calls Try.prog 6 #[.int .u32 s, .int .u32 f, .int .i64 b, .int .u32 m, .int .i64 o] w fun e w' => e = .returned (.bool true) ∧ Gr w w' := by
  rw [← U_of s hs.1 hs.2, ← U_of f hf.1 hf.2, ← U_of m hm.1 hm.2]
  exact sumsApart_walk _ _ b _ o w

end Go.Proofs.Ytmmhfjcaejkmiaa
