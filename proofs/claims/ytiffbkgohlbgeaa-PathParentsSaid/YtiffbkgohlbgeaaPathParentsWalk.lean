
/-
  The law PathParents, walked.
-/
import Derived.Test.YtiffbkgohlbgeaaPa10
namespace Go.Proofs.Ytiffbkgohlbgeaa
open Go.RowKit Go.Shelf
set_option linter.unusedVariables false
set_option linter.unusedSimpArgs false

theorem wrong_six {s : ByteArray} (h : wrongR s ≠ 0 ∨ s = ⟨#[47]⟩) (w : World) : Calls Try.prog 13 #[.string s] w fun e w' => ∃ c : Int, e = .returned (.tuple #[.string ⟨#[]⟩, .string ⟨#[]⟩, .int .i64 c]) ∧ (c != 0) = true ∧ Gr w w' := by
  by_cases h0 : wrongR s = 0
  · obtain rfl := h.resolve_left (fun h => h h0)
    exact (par_top w).mono fun e w' ⟨he, g⟩ => ⟨6, he, rfl, g⟩
  · exact (par_bad s w h0).mono fun e w' ⟨he, g⟩ => ⟨wrongR s, he, by simpa using h0, g⟩

set_option maxRecDepth 100000 in
set_option maxHeartbeats 2000000 in
theorem pathParents_walk (s : ByteArray) (w : World) (hs : s.size ≤ maxLen) :
    Calls Try.prog 5 #[.string s] w (RetBl true w) := by
  unfold maxLen at hs
  have hs63 : (s.size : Int) ≤ 9223372036854775807 := by omega
  by_cases h1 : 1000 < s.size
  · go_enter Try.func5, Try.ntmps5
    go_wp2_with fail
    refine (known_any _).mono ?_
    rintro e w1 ⟨rfl, g1⟩
    go_wp2_with fail
    go_ret
    exact ⟨rfl, g1⟩
  by_cases hbad : wrongR s ≠ 0 ∨ s = ⟨#[47]⟩
  · have HW := Lib.hid (wrong_six hbad)
    clear hbad
    go_enter Try.func5, Try.ntmps5
    go_wp2_with fail
    refine (HW.out w).mono ?_
    rintro e w1 ⟨c, rfl, hc, g1⟩
    have HG1 := Lib.hid g1
    clear g1
    go_wp2_with fail
    refine (known_any _).mono ?_
    rintro e w2 ⟨rfl, g2⟩
    go_wp2_with fail
    go_ret
    exact ⟨rfl, Gr.trans HG1.out g2⟩
  · rw [not_or, Decidable.not_not] at hbad
    obtain ⟨i, x, k, hix, hlast, hk, hpar, hnm, hE, hsl, hgd, hni⟩ := parent_of (wrong_zero hbad.1) hbad.2
    have hgs := wrong_zero hbad.1
    obtain ⟨p, hp⟩ : ∃ p, p = pathB i := ⟨_, rfl⟩
    rw [← hp] at hpar hgd hni
    have HP := Lib.hid (fun w => par_good s p x k w hgs hbad.2 hlast hk hpar hnm)
    have hi8 : i.length ≤ 7 := by
      have := hgs.few
      rw [hix] at this
      simp at this
      omega
    obtain ⟨n, hn⟩ : ∃ n, n = i.length := ⟨_, rfl⟩
    have hsplit : splitR p = i := by unfold splitR; rw [if_pos hgd.wrong, hni]
    have HSP := Lib.hid (fun w => split_any p w)
    have HW0 := Lib.hid hgd.wrong
    have HSI := Lib.hid hsplit
    have hse : ∀ y ∈ i ++ [x], y.size ≤ 1000 := fun y hy => by
      have hz := firstE_zero hgs.each y (by rw [hix]; exact hy)
      unfold nameE at hz
      by_cases a1 : y = ⟨#[]⟩ ∨ y = ⟨#[46]⟩ ∨ y = ⟨#[46, 46]⟩
      · rw [if_pos a1] at hz; cases hz
      · rw [if_neg a1] at hz
        by_cases a2 : hasB y 47 = true ∨ hasB y 0 = true
        · rw [if_pos a2] at hz; cases hz
        · rw [if_neg a2] at hz
          by_cases a3 : 16 < y.size
          · rw [if_pos a3] at hz; cases hz
          · omega
    have hpath : pathB (i ++ [x]) = s := by rw [← hix]; exact path_names hgs.first hgs.pos
    have hsl2 : slash (i ++ [x]) = false := by
      unfold slash
      rw [Bool.or_eq_false_iff]
      refine ⟨List.any_eq_false.2 fun y hy => by rw [names_free hgs.pos y (by rw [hix]; exact hy)]; simp, ?_⟩
      have : i ++ [x] ≠ [⟨#[]⟩] := fun e => by
        have h5 := firstE_zero hgs.each ⟨#[]⟩ (by rw [hix, e]; simp)
        cases h5
      simpa using this
    have HJC : Hid (joinC (i ++ [x]) = 0 ∧ joinS (i ++ [x]) = s) := Lib.hid (by
      have h5 : joinC (i ++ [x]) = 0 := by unfold joinC; rw [hsl2, hpath]; exact hbad.1
      exact ⟨h5, by unfold joinS; rw [if_pos h5, hpath]⟩)
    have HJA := Lib.hid (fun q c w (h : SSl w q (n + 1) c (i ++ [x])) => join_any q (n + 1) c (i ++ [x]) w h hse (by omega))
    have hss : splitR s = i ++ [x] := by unfold splitR; rw [if_pos hbad.1, hix]
    have HU1 : Hid (underR s p = true) := Lib.hid (by
      unfold underR
      rw [hsplit, hss]
      exact decide_eq_true ⟨hbad.1, hgd.wrong, by simp, by simp⟩)
    have HU2 : Hid (underR p s = false) := Lib.hid (by
      unfold underR
      rw [hsplit, hss]
      exact decide_eq_false (fun h => by have h5 := h.2.2.1; rw [List.length_append, List.length_singleton] at h5; omega))
    have HE := Lib.hid hE
    have HN := Lib.hid hn
    rw [← hn] at hi8
    obtain ⟨i0, hi, hz0, hz1, hz2⟩ := info_parts Try.info_str
    clear hbad hix hlast hk hpar hnm hE hsl hgd hni hgs hp hn hsplit hse hpath hsl2 hss
    go_enter Try.func5, Try.ntmps5
    go_wp2_with fail
    refine (HP.out w).mono ?_
    rintro e w1 ⟨rfl, g1⟩
    have HG1 := Lib.hid g1
    clear g1
    go_wp2_with fail
    refine (HSP.out w1).mono ?_
    rintro e w2 ⟨v, rfl, hv, g2⟩
    rw [HSI.out] at hv
    rw [HW0.out]
    have hrow : w2.ownsRow w1.heap.size TStr 1 v n (i.map Value.string) := by rw [HN.out]; exact hv
    have hg2 : w1.heap.size ≤ w2.heap.size := g2.size
    have HG2 := Lib.hid g2
    clear hv g2
    go_wp2_with (at_builtin; refine wpList_append_own _ rfl _ _ TSS rfl w1.heap.size TStr i0 (.string ⟨#[]⟩) 1 16 Try.underlying22 hi hz0 hz1 hz2 rfl (by decide) _ _ _ rfl (hrow.alloc _) ⟨w2.heap.size, 0, none⟩ 1 1 [.string x] rfl rfl (cell_one_new _ _ _) (by simp [Value.oneCell']) (by unfold maxLen; omega) (by omega) (by simp; omega) ?_; intro v' w3 hown' hgrow _)
    have hgr3 : Gr w1 w3 := by
      have hal := HG2.out.alloc HG2.out.size (.cells #[.string x] TStr)
      exact hal.grown hgrow hal.size fun j ej => (row_block (hrow.alloc (.cells #[.string x] TStr)) j ej).1
    have hrow3 : SRow w3 w1.heap.size v' (i ++ [x]) := by
      unfold SRow
      rw [List.length_append, ← HN.out, List.map_append]
      exact hown'
    obtain ⟨q, c, e3, hsl3⟩ := hrow3.sl
    rw [List.length_append, List.length_singleton, ← HN.out] at e3 hsl3
    subst e3
    have HS3 := Lib.hid hsl3
    have HG3 := Lib.hid (Gr.trans HG1.out hgr3)
    clear hgr3 hrow3 hsl3 hown' hgrow hrow
    refine (HJA.out q c w3 HS3.out).mono ?_
    rintro e w4 ⟨rfl, g4⟩
    rw [HJC.out.1, HJC.out.2]
    have HG4 := Lib.hid (Gr.trans HG3.out g4)
    clear g4
    have hss : (s.toList == s.toList) = true := by simp
    go_wp2_with fail
    refine (under_any s p _).mono ?_
    rintro e w5 ⟨rfl, g5⟩
    rw [HU1.out]
    have HG5 := Lib.hid (Gr.trans HG4.out g5)
    clear g5
    go_wp2_with fail
    refine (under_any p s _).mono ?_
    rintro e w6 ⟨rfl, g6⟩
    rw [HU2.out]
    have HG6 := Lib.hid (Gr.trans HG5.out g6)
    clear g6
    go_wp2_with fail
    refine (name_any x _).mono ?_
    rintro e w7 ⟨rfl, rfl⟩
    rw [HE.out]
    go_wp2_with fail
    refine (known_any _).mono ?_
    rintro e w8 ⟨rfl, g8⟩
    go_wp2_with fail
    go_ret
    exact ⟨rfl, Gr.trans HG6.out g8⟩
end Go.Proofs.Ytiffbkgohlbgeaa
