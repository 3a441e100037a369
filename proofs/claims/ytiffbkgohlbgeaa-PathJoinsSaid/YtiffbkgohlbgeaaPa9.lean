
/-
  The code's Parent and Under; what the law calls besides.
-/
import Derived.Test.YtiffbkgohlbgeaaPa8
import Derived.Deep.QuietTactic
import Derived.BigQuiet
namespace Go.Proofs.Ytiffbkgohlbgeaa
open Go.RowKit Go.Shelf
set_option linter.unusedVariables false
set_option linter.unusedSimpArgs false

def RetPar (p n : ByteArray) (c : Int) (w : World) (en : Ending) (w' : World) : Prop := en = .returned (.tuple #[.string p, .string n, .int .i64 c]) ∧ Gr w w'
theorem par_bad (s : ByteArray) (w : World) (h : wrongR s ≠ 0) : Calls Try.prog 13 #[.string s] w (RetPar ⟨#[]⟩ ⟨#[]⟩ (wrongR s) w) := by
  obtain ⟨C, hC⟩ : ∃ C, C = wrongR s := ⟨_, rfl⟩
  have HC := Lib.hid hC
  rw [← hC] at h
  have hb : (C != 0) = true := by simpa using h
  clear hC h
  go_enter Try.func13, Try.ntmps13
  go_wp2_with fail
  refine (wrong_any s w).mono ?_
  rintro e w1 ⟨rfl, g1⟩
  rw [← HC.out]
  have HG := Lib.hid g1
  clear g1
  go_wp2_with fail
  refine bodyPost_ret (v := .tuple #[.string ⟨#[]⟩, .string ⟨#[]⟩, .int .i64 C]) (by simp [results, Try.results13, go_sem]) rfl ⟨by rw [HC.out], HG.out⟩
theorem par_top (w : World) : Calls Try.prog 13 #[.string ⟨#[47]⟩] w (RetPar ⟨#[]⟩ ⟨#[]⟩ 6 w) := by
  have hz : wrongR ⟨#[47]⟩ = 0 := by decide +kernel
  have HZ := Lib.hid hz
  clear hz
  go_enter Try.func13, Try.ntmps13
  go_wp2_with fail
  refine (wrong_any ⟨#[47]⟩ w).mono ?_
  rintro e w1 ⟨rfl, g1⟩
  rw [HZ.out]
  have HG := Lib.hid g1
  clear g1
  go_wp2_with fail
  exact bodyPost_ret (v := .tuple #[.string ⟨#[]⟩, .string ⟨#[]⟩, .int .i64 6]) (by simp [results, Try.results13, go_sem]) rfl ⟨rfl, HG.out⟩
set_option maxHeartbeats 1000000 in
theorem par_good (s p x : ByteArray) (k : Nat) (w : World) (hg : GoodP s) (h1 : s ≠ ⟨#[47]⟩) (hl : Go.Lib.lastIndexByte s 47 = (k : Int)) (hk : k + 1 ≤ s.size) (hp : s.extract 0 (max k 1) = p) (hx : s.extract (k + 1) s.size = x) :
    Calls Try.prog 13 #[.string s] w (RetPar p x 0 w) := by
  have HZ := Lib.hid hg.wrong
  have HL := Lib.hid hl
  have h128 := hg.small
  obtain ⟨hq1, hq2⟩ := text_ne (l := [47]) h1
  have HP := Lib.hid hp
  have HX := Lib.hid hx
  obtain ⟨m, hm⟩ : ∃ m, m = max k 1 := ⟨_, rfl⟩
  have hmx : max (k : Int) 1 = (m : Int) := by omega
  have hm1 : m ≤ s.size := by omega
  rw [← hm] at HP
  clear hg hl h1 hp hx hm
  go_enter Try.func13, Try.ntmps13
  go_wp2_with fail
  refine (wrong_any s w).mono ?_
  rintro e w1 ⟨rfl, g1⟩
  rw [HZ.out]
  have HG := Lib.hid g1
  clear g1
  go_wp2_with fail
  refine (Shl.strings_LastIndexByte s 47 (by omega) w1).mono ?_
  rintro e w2 ⟨rfl, rfl⟩
  rw [HL.out]
  go_wp2_with fail
  go_quiet (fail)
  go_wp2_with fail
  exact bodyPost_ret (v := .tuple #[.string (s.extract 0 m), .string (s.extract (k + 1) s.size), .int .i64 0]) (by simp [results, Try.results13, go_sem]) rfl ⟨by rw [HP.out, HX.out], Gr.trans HG.out ⟨rfl, rfl, rfl, Nat.le_refl _, fun _ _ => rfl⟩⟩

/-- Are all names of t the first names of s? -/
def underR (s t : ByteArray) : Bool := decide (wrongR s = 0 ∧ wrongR t = 0 ∧ (splitR t).length ≤ (splitR s).length ∧ splitR t = (splitR s).take (splitR t).length)
def RetBl (b : Bool) (w : World) (en : Ending) (w' : World) : Prop := en = .returned (.bool b) ∧ Gr w w'
theorem split_few (s : ByteArray) : (splitR s).length ≤ 8 := by
  unfold splitR
  split
  · rename_i h; exact (wrong_zero h).few
  · simp
set_option maxRecDepth 100000 in
set_option maxHeartbeats 1000000 in
theorem under_any (s t : ByteArray) (w : World) : Calls Try.prog 12 #[.string s, .string t] w (RetBl (underR s t) w) := by
  have hf1 := split_few s
  have hf2 := split_few t
  obtain ⟨C, hC⟩ : ∃ C, C = wrongR s := ⟨_, rfl⟩
  obtain ⟨D, hD⟩ : ∃ D, D = wrongR t := ⟨_, rfl⟩
  have HC := Lib.hid hC
  have HD := Lib.hid hD
  obtain ⟨n, hn⟩ : ∃ n, n = (splitR s).length := ⟨_, rfl⟩
  obtain ⟨m, hm⟩ : ∃ m, m = (splitR t).length := ⟨_, rfl⟩
  have HN := Lib.hid hn
  have HM := Lib.hid hm
  rw [← hn] at hf1
  rw [← hm] at hf2
  have HS1 : Hid (∀ w, Calls Try.prog 10 #[.string s] w fun e w' => ∃ p c, e = .returned (.tuple #[.slice p n c, .int .i64 C]) ∧ SSl w' p n c (splitR s) ∧ Gr w w') := Lib.hid fun w => (split_any s w).mono fun e w' ⟨v, he, hv, g⟩ => by
    obtain ⟨p, c, e2, h⟩ := hv.sl
    exact ⟨p, c, by rw [he, e2, hn, hC], by rw [hn]; exact h, g⟩
  have HS2 : Hid (∀ w, Calls Try.prog 10 #[.string t] w fun e w' => ∃ p c, e = .returned (.tuple #[.slice p m c, .int .i64 D]) ∧ SSl w' p m c (splitR t) ∧ Gr w w') := Lib.hid fun w => (split_any t w).mono fun e w' ⟨v, he, hv, g⟩ => by
    obtain ⟨p, c, e2, h⟩ := hv.sl
    exact ⟨p, c, by rw [he, e2, hm, hD], by rw [hm]; exact h, g⟩
  clear hC hD hn hm
  go_enter Try.func12, Try.ntmps12
  go_wp2_with fail
  refine (HS1.out w).mono ?_
  rintro e w1 ⟨p, c, rfl, hs1, g1⟩
  have HX := Lib.hid hs1
  have HG1 := Lib.hid g1
  have hc1 := hs1.cap
  have hc2 : (c : Int) ≤ 9223372036854775807 := by have := hs1.most; unfold maxLen at this; omega
  clear hs1 g1
  go_wp2_with fail
  refine (HS2.out w1).mono ?_
  rintro e w2 ⟨q, d, rfl, hs2, g2⟩
  have HY := Lib.hid hs2
  have HX2 := Lib.hid (HX.out.gr g2)
  have HG2 := Lib.hid (Gr.trans HG1.out g2)
  have hd1 := hs2.cap
  have hd2 : (d : Int) ≤ 9223372036854775807 := by have := hs2.most; unfold maxLen at this; omega
  clear hs2 g2 HX HS1 HS2 HG1
  by_cases hC0 : C = 0
  · have hCb : (C != 0) = false := by simpa using hC0
    by_cases hD0 : D = 0
    · have hDb : (D != 0) = false := by simpa using hD0
      have HCD : Hid (wrongR s = 0 ∧ wrongR t = 0) := Lib.hid ⟨HC.out.symm.trans hC0, HD.out.symm.trans hD0⟩
      by_cases hlt : n < m
      · have HR : Hid (underR s t = false) := Lib.hid (by unfold underR; rw [← HN.out, ← HM.out]; exact decide_eq_false (fun h => by omega))
        clear hC0 hD0
        go_wp2_with fail
        go_ret
        exact ⟨by rw [HR.out]; rfl, HG2.out⟩
      · have HR : Hid (underR s t = decide (splitR t = (splitR s).take m)) := Lib.hid (by
          unfold underR
          rw [← HN.out, ← HM.out, Bool.eq_iff_iff, decide_eq_true_eq, decide_eq_true_eq]
          exact ⟨fun h => h.2.2.2, fun h => ⟨HCD.out.1, HCD.out.2, by omega, h⟩⟩)
        clear hC0 hD0
        by_cases hm0 : m = 0
        · have HR2 : Hid (underR s t = true) := Lib.hid (by
            rw [HR.out, hm0]
            have : splitR t = [] := List.eq_nil_of_length_eq_zero (by rw [← HM.out, hm0])
            rw [this]
            rfl)
          subst hm0
          go_wp2_with fail
          all_goals
            refine (Shl.slices_Equal_string_empty _ _ _ 0 _ _ (by omega)).mono ?_
            rintro e w3 ⟨rfl, rfl⟩
            go_wp2_with fail
            go_ret
            exact ⟨by rw [HR2.out]; rfl, HG2.out⟩
        · obtain ⟨b1, o1, rfl, k1⟩ := HX2.out.at' (by omega)
          obtain ⟨b2, o2, rfl, k2⟩ := HY.out.at' (by omega)
          have hl1 : (splitR t).length = m := HM.out.symm
          have hl2 : (splitR s).length = n := HN.out.symm
          have HE := Lib.hid (Shl.slices_Equal_string b2 o2 m d b1 o1 m c (splitR t) (splitR s) w2 (by omega) (by omega) (by omega) (by omega)
            (fun j hj => by rw [k2 j _ (List.getElem?_eq_getElem hj), List.getD_eq_getElem?_getD, List.getElem?_eq_getElem hj]; rfl)
            (fun j hj => by rw [k1 j _ (List.getElem?_eq_getElem hj), List.getD_eq_getElem?_getD, List.getElem?_eq_getElem hj]; rfl))
          have HR3 : Hid (decide ((splitR t).take m = (splitR s).take m) = underR s t) := Lib.hid (by rw [HR.out, List.take_of_length_le (by omega)])
          clear k1 k2 hl1 hl2
          go_wp2_with fail
          refine HE.out.mono ?_
          rintro e w3 ⟨rfl, q2, rfl⟩
          rw [HR3.out]
          go_wp2_with fail
          go_ret
          exact ⟨rfl, Gr.trans HG2.out ⟨rfl, rfl, rfl, Nat.le_refl _, fun _ _ => rfl⟩⟩
    · have hDb : (D != 0) = true := by simpa using hD0
      have HR : Hid (underR s t = false) := Lib.hid (by unfold underR; exact decide_eq_false (fun h => hD0 (HD.out.trans h.2.1)))
      clear hC0 hD0
      go_wp2_with fail
      go_ret
      exact ⟨by rw [HR.out]; rfl, HG2.out⟩
  · have hCb : (C != 0) = true := by simpa using hC0
    have HR : Hid (underR s t = false) := Lib.hid (by unfold underR; exact decide_eq_false (fun h => hC0 (HC.out.trans h.1)))
    clear hC0
    go_wp2_with fail
    go_ret
    exact ⟨by rw [HR.out]; rfl, HG2.out⟩
end Go.Proofs.Ytiffbkgohlbgeaa
