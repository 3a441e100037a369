
/-
  The law PathUnder, walked.
-/
import Derived.Test.YtiffbkgohlbgeaaPa10
namespace Go.Proofs.Ytiffbkgohlbgeaa
open Go.RowKit Go.Shelf
set_option linter.unusedVariables false
set_option linter.unusedSimpArgs false

theorem under_self (s : ByteArray) : underR s s = (wrongR s == 0) := by
  rw [Bool.eq_iff_iff, beq_iff_eq]
  unfold underR
  rw [decide_eq_true_eq]
  exact ⟨fun h => h.1, fun h => ⟨h, h, Nat.le_refl _, (List.take_of_length_le (Nat.le_refl _)).symm⟩⟩

set_option maxRecDepth 100000 in
set_option maxHeartbeats 2000000 in
theorem pathUnder_walk (a b : ByteArray) (w : World) (ha : a.size ≤ maxLen) (hb : b.size ≤ maxLen) :
    Calls Try.prog 4 #[.string a, .string b] w (RetBl true w) := by
  unfold maxLen at ha hb
  have ha63 : (a.size : Int) ≤ 9223372036854775807 := by omega
  have hb63 : (b.size : Int) ≤ 9223372036854775807 := by omega
  by_cases h1 : 1000 < a.size
  · go_enter Try.func4, Try.ntmps4
    go_wp2_with fail
    refine (known_any _).mono ?_
    rintro e w1 ⟨rfl, g1⟩
    go_wp2_with fail
    go_ret
    exact ⟨rfl, g1⟩
  by_cases h2 : 1000 < b.size
  · go_enter Try.func4, Try.ntmps4
    go_wp2_with fail
    refine (known_any _).mono ?_
    rintro e w1 ⟨rfl, g1⟩
    go_wp2_with fail
    go_ret
    exact ⟨rfl, g1⟩
  have hf1 := split_few a
  have hf2 := split_few b
  obtain ⟨C, hC⟩ : ∃ C, C = wrongR a := ⟨_, rfl⟩
  obtain ⟨D, hD⟩ : ∃ D, D = wrongR b := ⟨_, rfl⟩
  obtain ⟨n, hn⟩ : ∃ n, n = (splitR a).length := ⟨_, rfl⟩
  obtain ⟨m, hm⟩ : ∃ m, m = (splitR b).length := ⟨_, rfl⟩
  obtain ⟨U, hU⟩ : ∃ U, U = underR a b := ⟨_, rfl⟩
  have HN := Lib.hid hn
  have HM := Lib.hid hm
  have HU := Lib.hid hU
  rw [← hn] at hf1
  rw [← hm] at hf2
  have HA := Lib.hid (fun w => refSplit_sl a w n C _ (by omega) rfl hn.symm hC.symm)
  have HB := Lib.hid (fun w => refSplit_sl b w m D _ (by omega) rfl hm.symm hD.symm)
  have HSE : Hid (underR a a = (C == 0)) := Lib.hid (by rw [under_self, hC])
  have HUD : Hid (U = decide (C = 0 ∧ D = 0 ∧ m ≤ n ∧ splitR b = (splitR a).take m)) := Lib.hid (by rw [hU, hC, hD, hn, hm]; rfl)
  clear hC hD hn hm hU
  go_enter Try.func4, Try.ntmps4
  go_wp2_with fail
  refine (HA.out w).mono ?_
  rintro e w1 ⟨p, c, rfl, s1, g1⟩
  have HX := Lib.hid s1
  have HG1 := Lib.hid g1
  have hc1 := s1.cap
  have hc2 : (c : Int) ≤ 9223372036854775807 := by have := s1.most; unfold maxLen at this; omega
  clear s1 g1 HA
  go_wp2_with fail
  refine (HB.out w1).mono ?_
  rintro e w2 ⟨q, d, rfl, s2, g2⟩
  have HY := Lib.hid s2
  have HX2 := Lib.hid (HX.out.gr g2)
  have HG2 := Lib.hid (Gr.trans HG1.out g2)
  have hd1 := s2.cap
  have hd2 : (d : Int) ≤ 9223372036854775807 := by have := s2.most; unfold maxLen at this; omega
  clear s2 g2 HB HX HG1
  by_cases hgood : C = 0 ∧ D = 0 ∧ m ≤ n
  · obtain ⟨hC0, hD0, hmn⟩ := hgood
    have HU2 : Hid (U = decide (splitR b = (splitR a).take m)) := Lib.hid (by
      rw [HUD.out, Bool.eq_iff_iff, decide_eq_true_eq, decide_eq_true_eq]
      exact ⟨fun h => h.2.2.2, fun h => ⟨hC0, hD0, hmn, h⟩⟩)
    subst hC0 hD0
    go_wp2_with fail
    go_loopw [9, 10] (fun t i wr => ∃ (k : Nat) (B : Bool), k ≤ m ∧ i = .int .i64 k ∧ t = .bool B ∧ Hid (B = true → (splitR b).take k = (splitR a).take k) ∧ Hid (B = false → U = false) ∧ Hid (Gr w2 wr)) (fun _ i _ => m - (intOf i).toNat)
    case atStart => exact ⟨0, true, Nat.zero_le _, rfl, rfl, Lib.hid (fun _ => rfl), Lib.hid (fun h => by cases h), Lib.hid (Gr.refl _)⟩
    case round =>
      obtain ⟨k, B, hk, rfl, rfl, hB1, hB2, hg⟩ := hrel
      by_cases hgo : k < m ∧ B = true
      · obtain ⟨hlt, rfl⟩ := hgo
        obtain ⟨b1, o1, rfl, hc⟩ := HX2.out.at' (by omega)
        obtain ⟨b2, o2, rfl, hc'⟩ := HY.out.at' (by omega)
        have hl1 : k < (splitR a).length := by rw [HX2.out.len]; omega
        have hl2 : k < (splitR b).length := by rw [HY.out.len]; exact hlt
        have hck : wr.cell? ⟨b1, o1 + k, none⟩ = some (.string (splitR a)[k]) := (Below.cell hg.out (p := ⟨b1, o1 + k, none⟩) (World.block_lt_of_cell? w2 _ (hc k _ (List.getElem?_eq_getElem hl1)))).trans (hc k _ (List.getElem?_eq_getElem hl1))
        have hck2 : wr.cell? ⟨b2, o2 + k, none⟩ = some (.string (splitR b)[k]) := (Below.cell hg.out (p := ⟨b2, o2 + k, none⟩) (World.block_lt_of_cell? w2 _ (hc' k _ (List.getElem?_eq_getElem hl2)))).trans (hc' k _ (List.getElem?_eq_getElem hl2))
        have HT1 := Lib.hid (List.take_succ_eq_append_getElem hl1)
        have HT2 := Lib.hid (List.take_succ_eq_append_getElem hl2)
        have HNE : Hid ((splitR a)[k] ≠ (splitR b)[k] → U = false) := Lib.hid fun h => by
          rw [HU2.out]
          refine decide_eq_false fun e => h ?_
          have e2 := congrArg (fun z => z[k]?) e
          rw [List.getElem?_take, if_pos hlt, List.getElem?_eq_getElem hl1, List.getElem?_eq_getElem hl2] at e2
          exact (Option.some.inj e2).symm
        obtain ⟨x, hx⟩ : ∃ x, x = (splitR a)[k] := ⟨_, rfl⟩
        obtain ⟨y, hy⟩ : ∃ y, y = (splitR b)[k] := ⟨_, rfl⟩
        rw [← hx] at hck HT1 HNE
        rw [← hy] at hck2 HT2 HNE
        clear hc hc' hx hy hl1 hl2
        by_cases hxy : x = y
        · subst hxy
          go_wp2_with fail
          go_quiet (fail)
          go_wp2_with fail
          all_goals
            go_roundw
            case rel => exact ⟨k + 1, true, by omega, by go_num, by simp, Lib.hid (fun _ => by rw [HT1.out, HT2.out, hB1.out (by simp)]), Lib.hid (fun h => by cases h), Lib.hid (Gr.trans hg.out (gr_drewN _ _))⟩
            case measure => first | (simp [intOf]; done) | (simp [intOf]; omega)
        · have hxy' : (x.toList == y.toList) = false := (Lib.bytes_beq_false_iff _ _).2 hxy
          have HN := Lib.hid (HNE.out hxy)
          clear hxy
          go_wp2_with fail
          go_quiet (fail)
          go_wp2_with fail
          all_goals
            go_roundw
            case rel => exact ⟨k + 1, false, by omega, by go_num, by simp, Lib.hid (fun h => by cases h), Lib.hid (fun _ => HN.out), Lib.hid (Gr.trans hg.out (gr_drewN _ _))⟩
            case measure => first | (simp [intOf]; done) | (simp [intOf]; omega)
      · have HE : Hid (U = B) := Lib.hid (by
          cases B
          · exact hB2.out rfl
          · have hkm : k = m := by
              rw [not_and] at hgo
              have : ¬ k < m := fun h => hgo h rfl
              omega
            subst hkm
            have e := hB1.out rfl
            rw [List.take_of_length_le (by rw [HY.out.len]; exact Nat.le_refl _)] at e
            rw [HU2.out]
            exact decide_eq_true e)
        have HGR := Lib.hid (Gr.trans HG2.out hg.out)
        cases B
        · by_cases hlt : k < m
          all_goals
            clear hgo
            go_wp2_with fail
            refine (under_any a b _).mono ?_
            rintro e w5 ⟨rfl, g5⟩
            rw [← HU.out, HE.out]
            have HG5 := Lib.hid (Gr.trans HGR.out g5)
            clear g5
            go_wp2_with fail
            refine (under_any a a _).mono ?_
            rintro e w6 ⟨rfl, g6⟩
            rw [HSE.out]
            have HG6 := Lib.hid (Gr.trans HG5.out g6)
            clear g6
            go_wp2_with fail
            refine (known_any _).mono ?_
            rintro e w7 ⟨rfl, g7⟩
            go_wp2_with fail
            go_ret
            exact ⟨rfl, Gr.trans HG6.out g7⟩
        · have hlt : ¬ k < m := fun h => hgo ⟨h, rfl⟩
          clear hgo
          go_wp2_with fail
          refine (under_any a b _).mono ?_
          rintro e w5 ⟨rfl, g5⟩
          rw [← HU.out, HE.out]
          have HG5 := Lib.hid (Gr.trans HGR.out g5)
          clear g5
          go_wp2_with fail
          refine (under_any a a _).mono ?_
          rintro e w6 ⟨rfl, g6⟩
          rw [HSE.out]
          have HG6 := Lib.hid (Gr.trans HG5.out g6)
          clear g6
          go_wp2_with fail
          refine (known_any _).mono ?_
          rintro e w7 ⟨rfl, g7⟩
          go_wp2_with fail
          go_ret
          exact ⟨rfl, Gr.trans HG6.out g7⟩
  · have HE : Hid (U = false) := Lib.hid (by rw [HUD.out]; exact decide_eq_false fun h => hgood ⟨h.1, h.2.1, h.2.2.1⟩)
    have tail : ∀ (cb : Bool), (C == 0) = cb → True := fun _ _ => trivial
    have h3 : (C == 0) = false ∨ ((C == 0) = true ∧ (D == 0) = false) ∨ ((C == 0) = true ∧ (D == 0) = true ∧ decide (m ≤ n) = false) := by
      by_cases hC0 : C = 0
      · by_cases hD0 : D = 0
        · exact .inr (.inr ⟨by simpa using hC0, by simpa using hD0, by
            exact decide_eq_false fun h => hgood ⟨hC0, hD0, h⟩⟩)
        · exact .inr (.inl ⟨by simpa using hC0, by simpa using hD0⟩)
      · exact .inl (by simpa using hC0)
    clear hgood tail
    rcases h3 with hC0 | ⟨hC0, hD0⟩ | ⟨hC0, hD0, hmn⟩
    all_goals
      go_wp2_with fail
      go_loopw [9, 10] (fun t i wr => i = .int .i64 0 ∧ t = .bool false ∧ wr = w2) (fun _ _ _ => 0)
      case atStart => exact ⟨rfl, rfl, rfl⟩
      case round =>
        obtain ⟨rfl, rfl, rfl⟩ := hrel
        go_wp2_with fail
        all_goals
          refine (under_any a b _).mono ?_
          rintro e w5 ⟨rfl, g5⟩
          rw [← HU.out, HE.out]
          have HG5 := Lib.hid (Gr.trans HG2.out g5)
          clear g5
          go_wp2_with fail
          refine (under_any a a _).mono ?_
          rintro e w6 ⟨rfl, g6⟩
          rw [HSE.out]
          have HG6 := Lib.hid (Gr.trans HG5.out g6)
          clear g6
          go_wp2_with fail
          refine (known_any _).mono ?_
          rintro e w7 ⟨rfl, g7⟩
          go_wp2_with fail
          go_ret
          exact ⟨rfl, Gr.trans HG6.out g7⟩
end Go.Proofs.Ytiffbkgohlbgeaa
