import Derived.Test.YtmmhfjcaejkmiaaFlip
namespace Go.Proofs.Ytmmhfjcaejkmiaa
open Go.RowKit Cr

theorem not_xor (a b : W) : ~~~(a ^^^ b) = ~~~a ^^^ b := by
  rw [← BitVec.xor_allOnes, ← BitVec.xor_allOnes, BitVec.xor_assoc, BitVec.xor_assoc, BitVec.xor_comm b]
theorem sum_turn (xs : List Int) (A n : Nat) (F : W) (hn : xs.length = n) (ha : A + 4 ≤ n) : sumW (turn xs A F.toNat 4) = patW (sumW xs) F (n - A - 4) := by
  subst hn
  unfold sumW patW
  rw [over_turn xs ones A F.toNat ha, not_xor]
  congr 2
  simp
theorem pat_back (s F : W) (b : Nat) : patW (patW s F b) F b = s := by unfold patW; rw [BitVec.xor_assoc, BitVec.xor_self, BitVec.xor_zero]
theorem pat_same (s F : W) (b : Nat) : patW s F b = s ↔ F = 0#32 := by
  constructor
  · intro h
    unfold patW at h
    have h2 : its (8 * (4 + b)) F = 0#32 := by
      have := congrArg (fun x => s ^^^ x) h
      simpa [xcancel] using this
    exact its_inj _ h2
  · rintro rfl; unfold patW; rw [its_zero, BitVec.xor_zero]

set_option maxRecDepth 100000 in
set_option maxHeartbeats 1600000 in
theorem sumsPatch_walk (p : Option Addr) (n c : Nat) (xs : List Int) (A : Int) (F : W) (w : World) (h : Byt w p n c xs) : Calls Try.prog 5 #[.slice p n c, .int .i64 A, .int .u32 (U F)] w fun e w' => e = .returned (.bool true) ∧ Gr w w' := by
  have hn63 : n ≤ 9223372036854775807 := by have := h.cap; have := h.most; unfold maxLen at this; omega
  have HH := Lib.hid h
  have HL := Lib.hid h.len
  clear h
  have hnil := fun (W : World) (a : Option Addr) (n c : Nat) => Lib.run_eql_slice_nil (P := Try.prog) W 23 5 a n c 0 0 Try.underlying23
  by_cases h1 : 4000 < n
  · have h2 : ¬ n ≤ 4000 := by omega
    go_enter Try.func5, Try.ntmps5
    go_wp2_with fail
    refine (known_any _).mono ?_
    rintro e w1 ⟨rfl, g1⟩
    have HG1 := Lib.hid g1
    clear g1
    go_wp2_with fail
    go_ret
    exact ⟨rfl, HG1.out⟩
  · by_cases h3 : A < 0 ∨ (n : Int) - 4 < A
    · have H3 := Lib.hid h3
      clear h3
      go_enter Try.func5, Try.ntmps5
      go_wp2_with fail
      refine (flipped_no _ _ _ _ _ _ (by omega) H3.out).mono ?_
      rintro e w' ⟨rfl, rfl⟩
      go_wp2_with fail
      refine (known_any _).mono ?_
      rintro e w1 ⟨rfl, g1⟩
      have HG1 := Lib.hid g1
      clear g1
      go_wp2_with fail
      go_ret
      exact ⟨rfl, HG1.out⟩
    · obtain ⟨a, rfl⟩ := Int.eq_ofNat_of_zero_le (show 0 ≤ A by omega)
      obtain ⟨b, hb⟩ : ∃ b, n = a + 4 + b := ⟨n - a - 4, by omega⟩
      have hbe : (n : Int) - (a : Int) - 4 = (b : Int) := by omega
      have ha4 : (a : Int) ≤ (n : Int) - 4 := by omega
      have hb40 : b ≤ 4000 := by omega
      have han : a + 4 ≤ n := by omega
      have hn40 : n ≤ 4000 := by omega
      have HT : Hid (sumW (turn xs a F.toNat 4) = patW (sumW xs) F b) := Lib.hid (by rw [sum_turn xs a n F HL.out (by omega)]; congr 1; omega)
      have HBE := Lib.hid hbe
      clear hb hbe
      have HK := Lib.hid (pat_back (sumW xs) F b)
      have HQ : Hid ((U (patW (sumW xs) F b) == U (sumW xs)) = (U F == 0)) := Lib.hid (by
        rw [Bool.eq_iff_iff, beq_iff_eq, beq_iff_eq, U_iff, pat_same]
        exact ⟨fun h => by rw [h]; rfl, fun h => U_inj h⟩)
      clear h3
      go_enter Try.func5, Try.ntmps5
      go_wp2_with fail
      refine (flipped_yes _ _ _ _ _ _ _ HH.out hn40 han).mono ?_
      rintro e w1 ⟨q, d, rfl, hq, g1⟩
      have HG1 := Lib.hid g1
      have HB1 := Lib.hid hq
      have HH1 := Lib.hid (HH.out.kept g1)
      clear g1 hq HH
      go_wp2_with fail
      have HR := Lib.hid (Rows.one (t := 23) HH1.out rfl)
      have hgn := (Gr.refl w1).alloc (Nat.le_refl _) (.cells #[.slice p n c] 23)
      have HG2 := Lib.hid (Gr.trans HG1.out hgn)
      have HB2 := Lib.hid (HB1.out.kept hgn)
      clear hgn HG1 HB1 HH1
      refine (sum_any _ _ _ _ _ HR.out).mono ?_
      rintro e w2 ⟨rfl, g2⟩
      have HG3 := Lib.hid (Gr.trans HG2.out g2)
      have HB3 := Lib.hid (HB2.out.kept g2)
      clear g2 HG2 HB2 HR
      rw [show [xs].flatten = xs by simp]
      have hbe := HBE.out
      go_wp2_with fail
      clear hbe
      with_reducible refine (patch_yes _ _ _ _ (show b ≤ 1048576 by omega)).mono ?_
      rintro e w3 ⟨rfl, g3⟩
      have HG4 := Lib.hid (Gr.trans HG3.out g3)
      have HB4 := Lib.hid (HB3.out.kept g3)
      clear g3 HG3 HB3
      go_wp2_with fail
      refine (refSum_any _ _ _ _ _ HB4.out).mono ?_
      rintro e w' ⟨rfl, rfl⟩
      rw [HT.out]
      go_wp2_with fail
      refine (patch_yes _ _ _ _ (by omega)).mono ?_
      rintro e w5 ⟨rfl, g5⟩
      have HG5 := Lib.hid (Gr.trans HG4.out g5)
      clear g5 HG4
      rw [HK.out]
      by_cases hF : F = 0#32
      · have q1 : (U (patW (sumW xs) F b) == U (sumW xs)) = true := by rw [HQ.out, hF]; rfl
        have q2 : (U F == 0) = true := by rw [hF]; rfl
        have HF := Lib.hid hF
        clear hF
        go_wp2_with fail
        refine (known_any _).mono ?_
        rintro e w6 ⟨rfl, g6⟩
        have HG6 := Lib.hid (Gr.trans HG5.out g6)
        clear g6 HG5
        go_wp2_with fail
        go_ret
        exact ⟨rfl, HG6.out⟩
      · have q2 : (U F == 0) = false := by
          rw [beq_eq_false_iff_ne]
          exact fun h => hF (U_inj h)
        have q1 : (U (patW (sumW xs) F b) == U (sumW xs)) = false := by rw [HQ.out, q2]
        have HF := Lib.hid hF
        clear hF
        go_wp2_with fail
        refine (known_any _).mono ?_
        rintro e w6 ⟨rfl, g6⟩
        have HG6 := Lib.hid (Gr.trans HG5.out g6)
        clear g6 HG5
        go_wp2_with fail
        go_ret
        exact ⟨rfl, HG6.out⟩

theorem sumsPatch_int (p : Option Addr) (n c : Nat) (xs : List Int) (A f : Int) (w : World) (h : Byt w p n c xs) (hf : 0 ≤ f ∧ f < 4294967296) : Calls Try.prog 5 #[.slice p n c, .int .i64 A, .int .u32 f] w fun e w' => e = .returned (.bool true) ∧ Gr w w' := by
  rw [← U_of f hf.1 hf.2]
  exact sumsPatch_walk p n c xs A _ w h

end Go.Proofs.Ytmmhfjcaejkmiaa
