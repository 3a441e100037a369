
/-
  What is wrong with a name: the code's answer, the document's.
-/
import Derived.Test.YtiffbkgohlbgeaaPa1
import Derived.Test.YtiffbkgohlbgeaaPaShelf
import Derived.Test.YtiffbkgohlbgeaaRets
import Derived.Lib.SlicesS
namespace Go.Proofs.Ytiffbkgohlbgeaa
open Go.RowKit
set_option linter.unusedVariables false
set_option linter.unusedSimpArgs false

theorem marked_any (s : ByteArray) (w : World) : Calls Try.prog 16 #[.string s] w fun e w' => e = .returned (.bool (hasB s 47)) ∧ w = w' := by
  have HH := Lib.hid (has_index s 47)
  have HG := Lib.hid (Go.Lib.indexByte_ge (bys s) 47)
  obtain ⟨I, hI⟩ : ∃ I, I = Go.Lib.indexByte (bys s) 47 := ⟨_, rfl⟩
  have HI := Lib.hid hI
  clear hI
  go_enter Try.func16, Try.ntmps16
  go_wp2_with fail
  refine (Shl.strings_IndexByte _ _ _).mono ?_
  rintro e w' ⟨rfl, rfl⟩
  rw [show Go.Lib.indexByte s.data.toList (Int.toNat 47).toUInt8 = I from HI.out.symm]
  go_wp2_with fail
  go_ret
  refine ⟨?_, rfl⟩
  have e := HH.out
  rw [← HI.out] at e
  rw [← e]
  rfl

theorem nameE_plain {s : ByteArray} (h : ¬ (s = ⟨#[]⟩ ∨ s = ⟨#[46]⟩ ∨ s = ⟨#[46, 46]⟩)) : nameE s = if hasB s 47 = true ∨ hasB s 0 = true then 6 else if 16 < s.size then 11 else 0 := by
  unfold nameE
  rw [if_neg h]

set_option maxRecDepth 100000 in
theorem name_any (s : ByteArray) (w : World) : Calls Try.prog 14 #[.string s] w fun e w' => e = .returned (.int .i64 (nameE s)) ∧ w = w' := by
  by_cases hsp : s = ⟨#[]⟩ ∨ s = ⟨#[46]⟩ ∨ s = ⟨#[46, 46]⟩
  · have hE : nameE s = 6 := by unfold nameE; rw [if_pos hsp]
    rw [hE]
    clear hE
    rcases hsp with rfl | rfl | rfl
    all_goals
      go_enter Try.func14, Try.ntmps14
      go_wp2_with fail
      go_ret
      exact ⟨rfl, rfl⟩
  · have HN := Lib.hid (nameE_plain hsp)
    rw [not_or, not_or] at hsp
    have hz : ((s.size : Int) == 0) = false := by
      have : s.size ≠ 0 := fun e => hsp.1 (bys_inj (List.eq_nil_of_length_eq_zero (by rw [bys_len]; exact e)))
      simpa using this
    obtain ⟨hd1, hd2⟩ := text_ne (l := [46]) hsp.2.1
    obtain ⟨he1, he2⟩ := text_ne (l := [46, 46]) hsp.2.2
    clear hsp
    have HM := Lib.hid (fun w => marked_any s w)
    have H0 := has_index s 0
    obtain ⟨I, hI⟩ : ∃ I, I = Go.Lib.indexByte (bys s) 0 := ⟨_, rfl⟩
    rw [← hI] at H0
    have HI := Lib.hid hI
    clear hI
    cases h47 : hasB s 47
    · cases h0 : hasB s 0
      · have hi : ¬ 0 ≤ I := by rw [h0] at H0; simpa using H0
        have H4 := Lib.hid h47
        have H3 := Lib.hid h0
        clear h47 h0 H0
        by_cases h16 : 16 < s.size
        all_goals
          go_enter Try.func14, Try.ntmps14
          go_wp2_with (first
            | (go_at_call 16; (refine (HM.out _).mono ?_); rintro e w' ⟨rfl, rfl⟩; rw [H4.out])
            | (go_at_call 24; (refine (Shl.strings_IndexByte _ _ _).mono ?_); rintro e w' ⟨rfl, rfl⟩; rw [show Go.Lib.indexByte s.data.toList (Int.toNat 0).toUInt8 = I from HI.out.symm]))
          all_goals
            go_ret
            refine ⟨ret_i ?_, rfl⟩
            rw [HN.out, if_neg (by rw [H4.out, H3.out]; decide)]
            first
              | rw [if_pos h16]
              | rw [if_neg h16]
      · have hi : 0 ≤ I := by rw [h0] at H0; simpa using H0
        have H4 := Lib.hid h47
        have H3 := Lib.hid h0
        clear h47 h0 H0
        go_enter Try.func14, Try.ntmps14
        go_wp2_with (first
          | (go_at_call 16; (refine (HM.out _).mono ?_); rintro e w' ⟨rfl, rfl⟩; rw [H4.out])
          | (go_at_call 24; (refine (Shl.strings_IndexByte _ _ _).mono ?_); rintro e w' ⟨rfl, rfl⟩; rw [show Go.Lib.indexByte s.data.toList (Int.toNat 0).toUInt8 = I from HI.out.symm]))
        all_goals
          go_ret
          refine ⟨ret_i ?_, rfl⟩
          rw [HN.out, if_pos (.inr H3.out)]
    · have H4 := Lib.hid h47
      clear h47 H0
      go_enter Try.func14, Try.ntmps14
      go_wp2_with (first
        | (go_at_call 16; (refine (HM.out _).mono ?_); rintro e w' ⟨rfl, rfl⟩; rw [H4.out]))
      all_goals
        go_ret
        refine ⟨ret_i ?_, rfl⟩
        rw [HN.out, if_pos (.inl H4.out)]

theorem u8_is {a b : UInt8} (h : a = b) : ((a.toNat : Int) == (b.toNat : Int)) = true := by rw [h]; simp
theorem u8_not {a b : UInt8} (h : ¬ a = b) : ((a.toNat : Int) == (b.toNat : Int)) = false := by
  rw [beq_eq_false_iff_ne]
  intro e
  exact h (UInt8.toNat_inj.1 (by omega))
theorem has_iff (s : ByteArray) (c : UInt8) : hasB s c = true ↔ ∃ k, ∃ h : k < s.size, s[k] = c := by
  unfold hasB
  rw [List.contains_iff_mem, List.mem_iff_getElem?]
  constructor
  · rintro ⟨k, hk⟩
    have hlt : k < s.size := by rw [← bys_len]; exact (List.getElem?_eq_some_iff.1 hk).1
    rw [bys_at s k hlt] at hk
    exact ⟨k, hlt, Option.some.inj hk⟩
  · rintro ⟨k, h, e⟩
    exact ⟨k, by rw [bys_at s k h, e]⟩

set_option maxRecDepth 100000 in
theorem refName_any (s : ByteArray) (w : World) (hs : s.size ≤ 4611686018427387904) : Calls Try.prog 20 #[.string s] w fun e w' => e = .returned (.int .i64 (nameE s)) ∧ w = w' := by
  by_cases hsp : s = ⟨#[]⟩ ∨ s = ⟨#[46]⟩ ∨ s = ⟨#[46, 46]⟩
  · have hE : nameE s = 6 := by unfold nameE; rw [if_pos hsp]
    rw [hE]
    clear hE
    rcases hsp with rfl | rfl | rfl
    all_goals
      go_enter Try.func20, Try.ntmps20
      go_wp2_with fail
      go_ret
      exact ⟨rfl, rfl⟩
  · have HN := Lib.hid (nameE_plain hsp)
    rw [not_or, not_or] at hsp
    obtain ⟨hc1, hc2⟩ := text_ne (l := []) hsp.1
    obtain ⟨hd1, hd2⟩ := text_ne (l := [46]) hsp.2.1
    obtain ⟨he1, he2⟩ := text_ne (l := [46, 46]) hsp.2.2
    have hc3 : (!s.toList.isEmpty) = true := by simpa using hc2
    clear hsp
    go_enter Try.func20, Try.ntmps20
    go_wp2_with fail
    go_loop [3] (fun i => ∃ k : Nat, k ≤ s.size ∧ i = .int .i64 k ∧ Hid (∀ j, ∀ h : j < s.size, j < k → s[j] ≠ 47 ∧ s[j] ≠ 0)) (fun i => s.size - (intOf i).toNat)
    case atStart => exact ⟨0, Nat.zero_le _, rfl, Lib.hid fun j _ h => absurd h (Nat.not_lt_zero _)⟩
    case round =>
      obtain ⟨k, hk, rfl, ha⟩ := hrel
      by_cases hlt : k < s.size
      · by_cases hz : s[k] = 0 ∨ s[k] = 47
        · have hE : Hid (nameE s = 6) := Lib.hid (by
            rw [HN.out]
            rcases hz with hz | hz
            · rw [if_pos (.inr ((has_iff s 0).2 ⟨k, hlt, hz⟩))]
            · rw [if_pos (.inl ((has_iff s 47).2 ⟨k, hlt, hz⟩))])
          by_cases hz0 : s[k] = 0
          · have hv : ((s[k].toNat : Int) == 0) = true := u8_is hz0
            clear hz hz0
            go_wp2_with fail
            go_ret
            exact ⟨ret_i hE.out.symm, rfl⟩
          · have hz7 : s[k] = 47 := hz.resolve_left hz0
            have hv : ((s[k].toNat : Int) == 0) = false := u8_not hz0
            have hv2 : ((s[k].toNat : Int) == 47) = true := u8_is hz7
            clear hz hz0 hz7
            go_wp2_with fail
            go_ret
            exact ⟨ret_i hE.out.symm, rfl⟩
        · rw [not_or] at hz
          have hv : ((s[k].toNat : Int) == 0) = false := u8_not hz.1
          have hv2 : ((s[k].toNat : Int) == 47) = false := u8_not hz.2
          have HZ := Lib.hid hz
          clear hz
          go_wp2_with fail
          go_round
          case rel => exact ⟨k + 1, by omega, by go_num, Lib.hid fun j h hj => by
            by_cases e : j = k
            · subst e; exact ⟨HZ.out.2, HZ.out.1⟩
            · exact ha.out j h (by omega)⟩
          case measure => simp [intOf]; omega
      · have h47 : hasB s 47 = false := by
          cases hb : hasB s 47
          · rfl
          · obtain ⟨j, hj, e⟩ := (has_iff s 47).1 hb
            exact absurd e (ha.out j hj (by omega)).1
        have h0 : hasB s 0 = false := by
          cases hb : hasB s 0
          · rfl
          · obtain ⟨j, hj, e⟩ := (has_iff s 0).1 hb
            exact absurd e (ha.out j hj (by omega)).2
        have hN := HN.out
        rw [if_neg (by rw [h47, h0]; decide)] at hN
        have HN2 := Lib.hid hN
        clear hN HN h47 h0 ha
        by_cases h16 : 16 < s.size
        all_goals
          go_wp2_with fail
          go_ret
          refine ⟨ret_i ?_, rfl⟩
          rw [HN2.out]
          first
            | rw [if_pos h16]
            | rw [if_neg h16]
end Go.Proofs.Ytiffbkgohlbgeaa
