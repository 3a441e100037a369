
/-
  The document's way of taking a path apart, and of putting it together.
-/
import Derived.Test.YtiffbkgohlbgeaaPa5
import Derived.OwnWalk
namespace Go.Proofs.Ytiffbkgohlbgeaa
open Go.RowKit Go.Shelf
set_option linter.unusedVariables false
set_option linter.unusedSimpArgs false

theorem good_size {s : ByteArray} (h : s ≠ ⟨#[]⟩) : 1 ≤ s.size := by
  have : s.size ≠ 0 := fun e => h (bys_inj (List.eq_nil_of_length_eq_zero (by rw [bys_len]; exact e)))
  omega
theorem top_size {s : ByteArray} (h : s.data[0]! = 47) (h1 : s.size = 1) : s = ⟨#[47]⟩ := by
  apply bys_inj
  have h2 := bys_at s 0 (by omega)
  rw [← bang s 0 (by omega), h] at h2
  have h3 := bys_len s
  cases hb : bys s with
  | nil => rw [hb] at h2; cases h2
  | cons c t =>
    rw [hb] at h2 h3
    simp at h2 h3
    have : t = [] := List.eq_nil_of_length_eq_zero (by omega)
    rw [h2, this]

set_option maxRecDepth 100000 in
set_option maxHeartbeats 2000000 in
theorem refSplit_loop (s : ByteArray) (w : World) (hg : GoodS s) (h2 : 2 ≤ s.size) : Calls Try.prog 9 #[.string s] w (RetSplit s w) := by
  obtain ⟨i0, hi, hz0, hz1, hz2⟩ := info_parts Try.info_str
  have hne : s ≠ ⟨#[47]⟩ := fun e => by rw [e] at h2; exact absurd h2 (by decide)
  have hS := Lib.hid (PcAt.start hne (by omega))
  have h128 : s.size ≤ 128 := by have := hg.2.2; omega
  have hv0 : ((s[0].toNat : Int) != 47) = false := by
    have h5 : s[0] = 47 := by rw [← bang s 0 (by omega)]; exact hg.2.1
    have := u8_is h5
    simpa using this
  have hz : ((s.size : Int) == 0) = false := beq_eq_false_iff_ne.2 (by omega)
  have hz1' : ((s.size : Int) == 1) = false := beq_eq_false_iff_ne.2 (by omega)
  have HG := Lib.hid hg
  clear hg hne
  go_enter Try.func9, Try.ntmps9
  go_wp2_with fail
  go_loopw [4, 5, 6] (fun l f a wr => ∃ (pre : List (Nat × ByteArray)) (v : Value) (f' a' : Nat), v = l ∧ f = .int .i64 f' ∧ a = .int .i64 a' ∧ Hid (PcAt s pre f' a') ∧ 1 ≤ f' ∧ f' ≤ a' ∧ a' ≤ s.size + 1 ∧ pre.length ≤ a' ∧ Hid (firstE (pre.map (·.2)) = 0) ∧ Hid (SRow wr w.heap.size v (pre.map (·.2)) ∧ Gr w wr)) (fun _ _ a _ => s.size + 1 - (intOf a).toNat)
  case atStart => exact ⟨[], _, 1, 1, rfl, rfl, rfl, hS, by omega, by omega, by omega, by simp, Lib.hid rfl, Lib.hid ⟨SRow.nil _ _, Gr.refl _⟩⟩
  case round =>
    obtain ⟨pre, v, f', a', rfl, rfl, rfl, hp, hf1, hfa, ha, hpl, hfe, hr⟩ := hrel
    clear hS
    by_cases hle : a' ≤ s.size
    · by_cases hcut : a' = s.size ∨ (∃ h : a' < s.size, s[a'] = 47)
      · -- a piece ends here
        have hh : PcAt s (pre ++ [(0, s.extract f' a')]) (a' + 1) (a' + 1) ∧ ∃ zs, pre.map (·.2) ++ s.extract f' a' :: zs = names s := by
          rcases hcut with rfl | ⟨h, e⟩
          · exact hp.out.last 0
          · exact hp.out.hit h e 0
        have HP := Lib.hid hh.1
        have HZ := Lib.hid hh.2
        have HS2 := Lib.hid (show (s.extract f' a').size ≤ 4611686018427387904 by
          have : (s.extract f' a').size = (bys (s.extract f' a')).length := (bys_len _).symm
          rw [this, bys_cut, List.length_drop, List.length_take, bys_len]
          omega)
        obtain ⟨y, hy⟩ : ∃ y, y = s.extract f' a' := ⟨_, rfl⟩
        rw [← hy] at HP HZ HS2
        obtain ⟨E, hE⟩ : ∃ E, E = nameE y := ⟨_, rfl⟩
        have HE := Lib.hid hE
        have HY := Lib.hid hy
        have hrow := hr.out.1
        have HGR := Lib.hid hr.out.2
        have hsz : w.heap.size ≤ wr.heap.size := hr.out.2.size
        obtain ⟨k, hk⟩ : ∃ k, k = (pre.map (·.2)).length := ⟨_, rfl⟩
        have hk200 : k ≤ 200 := by rw [hk, List.length_map]; omega
        have HKK := Lib.hid hk
        unfold SRow at hrow
        rw [← hk] at hrow
        clear hh hp hE hy hr hk
        by_cases hE0 : E = 0
        · have HF : Hid (firstE ((pre ++ [((0 : Nat), y)]).map (·.2)) = 0) := Lib.hid (first_snoc hfe.out (HE.out.symm.trans hE0))
          have hb : (E != 0) = false := by simpa using hE0
          clear hE0
          have fin : Hid (∀ (v' : Value) (w1 : World), w1.ownsRow w.heap.size TStr 1 v' (k + 1) ((pre.map (·.2)).map Value.string ++ [Value.string y]) → (wr.alloc (.cells #[.string y] TStr)).grownBy w1 v.ownBlock → SRow w1 w.heap.size v' ((pre ++ [((0 : Nat), y)]).map (·.2)) ∧ Gr w w1) := Lib.hid fun v' w1 h1 h3 => by
            refine ⟨?_, ?_⟩
            · unfold SRow
              rw [List.map_append, List.length_append, ← HKK.out, List.map_append]
              exact h1
            · have hal := (HGR.out.alloc HGR.out.size (.cells #[.string y] TStr))
              exact hal.grown h3 hal.size fun j ej => (row_block (hrow.alloc (.cells #[.string y] TStr)) j ej).1
          rcases hcut with rfl | ⟨h, e⟩
          · have hq : ((s.size : Int) == (s.size : Int)) = true := by simp
            go_wp2_with (first
              | (go_at_call 20; rw [← HY.out]; (refine (refName_any y _ HS2.out).mono ?_); rintro e w' ⟨rfl, rfl⟩; rw [← HE.out])
              | (at_builtin; refine wpList_append_own _ rfl _ _ TSS rfl w.heap.size TStr i0 (.string ⟨#[]⟩) 1 16 Try.underlying22 hi hz0 hz1 hz2 rfl (by decide) _ _ _ rfl (hrow.alloc _) ⟨wr.heap.size, 0, none⟩ 1 1 [.string y] rfl rfl (cell_one_new _ _ _) (by simp [Value.oneCell']) (by unfold maxLen; omega) (by omega) (by simp; omega) ?_; intro v' w1' hown' hgrow _))
            go_roundw
            case rel => exact ⟨pre ++ [((0 : Nat), y)], v', s.size + 1, s.size + 1, rfl, by go_num, by go_num, HP, by omega, by omega, by omega, by rw [List.length_append, List.length_singleton]; omega, HF, Lib.hid (fin.out v' w1' hown' hgrow)⟩
            case measure => first | (simp [intOf]; done) | (simp [intOf]; omega)
          · have hq : ((a' : Int) == (s.size : Int)) = false := beq_eq_false_iff_ne.2 (by omega)
            have hq2 : ((s[a'].toNat : Int) == 47) = true := u8_is e
            clear e
            go_wp2_with (first
              | (go_at_call 20; rw [← HY.out]; (refine (refName_any y _ HS2.out).mono ?_); rintro e w' ⟨rfl, rfl⟩; rw [← HE.out])
              | (at_builtin; refine wpList_append_own _ rfl _ _ TSS rfl w.heap.size TStr i0 (.string ⟨#[]⟩) 1 16 Try.underlying22 hi hz0 hz1 hz2 rfl (by decide) _ _ _ rfl (hrow.alloc _) ⟨wr.heap.size, 0, none⟩ 1 1 [.string y] rfl rfl (cell_one_new _ _ _) (by simp [Value.oneCell']) (by unfold maxLen; omega) (by omega) (by simp; omega) ?_; intro v' w1' hown' hgrow _))
            go_roundw
            case rel => exact ⟨pre ++ [((0 : Nat), y)], v', a' + 1, a' + 1, rfl, by go_num, by go_num, HP, by omega, by omega, by omega, by rw [List.length_append, List.length_singleton]; omega, HF, Lib.hid (fin.out v' w1' hown' hgrow)⟩
            case measure => first | (simp [intOf]; done) | (simp [intOf]; omega)
        · have HF := Lib.hid (first_told HG.out hfe.out (x := ((0 : Nat), y)) HZ.out.choose_spec (fun e => hE0 (HE.out.trans e)))
          have hb : (E != 0) = true := by simpa using hE0
          clear hE0
          rcases hcut with rfl | ⟨h, e⟩
          · have hq : ((s.size : Int) == (s.size : Int)) = true := by simp
            go_wp2_with (first
              | (go_at_call 20; rw [← HY.out]; (refine (refName_any y _ HS2.out).mono ?_); rintro e w' ⟨rfl, rfl⟩; rw [← HE.out]))
            go_ret2
            exact ⟨_, by rw [← HF.out, ← HE.out]; rfl, by unfold splitR; rw [if_neg (by rw [← HF.out, ← HE.out]; simpa using hb)]; exact SRow.nil _ _, HGR.out⟩
          · have hq : ((a' : Int) == (s.size : Int)) = false := beq_eq_false_iff_ne.2 (by omega)
            have hq2 : ((s[a'].toNat : Int) == 47) = true := u8_is e
            clear e
            go_wp2_with (first
              | (go_at_call 20; rw [← HY.out]; (refine (refName_any y _ HS2.out).mono ?_); rintro e w' ⟨rfl, rfl⟩; rw [← HE.out]))
            go_ret2
            exact ⟨_, by rw [← HF.out, ← HE.out]; rfl, by unfold splitR; rw [if_neg (by rw [← HF.out, ← HE.out]; simpa using hb)]; exact SRow.nil _ _, HGR.out⟩
      · -- no piece ends here
        rw [not_or] at hcut
        have hlt : a' < s.size := by omega
        have h47 : ¬ s[a'] = 47 := fun e => hcut.2 ⟨hlt, e⟩
        have HP := Lib.hid (hp.out.miss hlt h47)
        have hq : ((a' : Int) == (s.size : Int)) = false := beq_eq_false_iff_ne.2 (by omega)
        have hq2 : ((s[a'].toNat : Int) == 47) = false := u8_not h47
        clear hcut h47 hp
        go_wp2_with fail
        go_roundw
        case rel => exact ⟨pre, v, f', a' + 1, rfl, rfl, by go_num, HP, by omega, by omega, by omega, by omega, hfe, hr⟩
        case measure => first | (simp [intOf]; done) | (simp [intOf]; omega)
    · have HO := Lib.hid (hp.out.over hle)
      have HW := Lib.hid (wrong_told HG.out hfe.out HO.out)
      obtain ⟨k, hk⟩ : ∃ k, k = pre.length := ⟨_, rfl⟩
      rw [← hk] at HW hpl
      have HK := Lib.hid hk
      have hrow := hr.out.1
      obtain ⟨p, c, hvv, _⟩ := hrow.sl
      rw [List.length_map, ← hk] at hvv
      have HROW := Lib.hid hrow
      have HGR := Lib.hid hr.out.2
      clear hk hrow hr hp
      subst hvv
      have HN := Lib.hid (show wrongR s = 0 → splitR s = pre.map (·.2) from fun h => by unfold splitR; rw [if_pos h]; exact HO.out.symm)
      by_cases h8 : 8 < k
      · have hw : Hid (wrongR s = 11) := Lib.hid (by rw [HW.out, if_pos h8])
        go_wp2_with fail
        go_ret2
        exact ⟨_, by rw [hw.out]; rfl, by unfold splitR; rw [if_neg (by rw [hw.out]; decide)]; exact SRow.nil _ _, HGR.out⟩
      · have hw : Hid (wrongR s = 0) := Lib.hid (by rw [HW.out, if_neg h8])
        go_wp2_with fail
        go_ret2
        exact ⟨_, by rw [hw.out]; rfl, by rw [HN.out hw.out]; exact HROW.out, HGR.out⟩

set_option maxRecDepth 100000 in
theorem refSplit_any (s : ByteArray) (w : World) (hs : s.size ≤ 4611686018427387904) : Calls Try.prog 9 #[.string s] w (RetSplit s w) := by
  by_cases hbad : s = ⟨#[]⟩ ∨ ¬ s.data[0]! = 47
  · have hE : Hid (wrongR s = 6) := Lib.hid (by unfold wrongR; rw [if_pos hbad])
    have hN : Hid (splitR s = []) := Lib.hid (by unfold splitR; rw [if_neg (by rw [hE.out]; decide)])
    by_cases hs0 : s = ⟨#[]⟩
    · subst hs0
      clear hbad
      go_enter Try.func9, Try.ntmps9
      go_wp2_with fail
      go_ret2
      exact ⟨_, by rw [hE.out]; rfl, by rw [hN.out]; exact SRow.nil _ _, Gr.refl _⟩
    · have h47 := hbad.resolve_left hs0
      have hsz := good_size hs0
      have hz : ((s.size : Int) == 0) = false := beq_eq_false_iff_ne.2 (by omega)
      have hv : ((s[0].toNat : Int) != 47) = true := by
        have h5 : ¬ s[0] = 47 := by rw [← bang s 0 hsz]; exact h47
        have := u8_not h5
        simpa using this
      clear hbad hs0 h47
      go_enter Try.func9, Try.ntmps9
      go_wp2_with fail
      go_ret2
      exact ⟨_, by rw [hE.out]; rfl, by rw [hN.out]; exact SRow.nil _ _, Gr.refl _⟩
  · have hg : s ≠ ⟨#[]⟩ ∧ s.data[0]! = 47 := by rw [not_or, Decidable.not_not] at hbad; exact hbad
    have hsz := good_size hg.1
    have hz : ((s.size : Int) == 0) = false := beq_eq_false_iff_ne.2 (by omega)
    have hv : ((s[0].toNat : Int) != 47) = false := by
      have h5 : s[0] = 47 := by rw [← bang s 0 hsz]; exact hg.2
      have := u8_is h5
      simpa using this
    by_cases h128 : 128 < s.size
    · have hE : Hid (wrongR s = 11) := Lib.hid (by unfold wrongR; rw [if_neg hbad, if_pos h128])
      have hN : Hid (splitR s = []) := Lib.hid (by unfold splitR; rw [if_neg (by rw [hE.out]; decide)])
      clear hbad hg
      go_enter Try.func9, Try.ntmps9
      go_wp2_with fail
      go_ret2
      exact ⟨_, by rw [hE.out]; rfl, by rw [hN.out]; exact SRow.nil _ _, Gr.refl _⟩
    · by_cases h1 : s.size = 1
      · obtain rfl := top_size hg.2 h1
        clear hbad hg hz hv hsz h128 h1 hs
        go_enter Try.func9, Try.ntmps9
        go_wp2_with fail
        go_ret2
        exact ⟨_, rfl, SRow.nil _ _, Gr.refl _⟩
      · exact refSplit_loop s w ⟨hg.1, hg.2, h128⟩ (by omega)
end Go.Proofs.Ytiffbkgohlbgeaa
