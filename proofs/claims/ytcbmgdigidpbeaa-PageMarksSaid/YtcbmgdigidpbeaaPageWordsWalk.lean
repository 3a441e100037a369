import Derived.Test.YtcbmgdigidpbeaaWordsFitWalk
namespace Go.Proofs.Ytcbmgdigidpbeaa.pageWords
open Go.RowKit
open Go.Proofs.Ytcbmgdigidpbeaa.wordsFit (conv_at)

theorem long (f s i : Int) (p : Option Addr) (len cap : Nat) (w : World) (h : 600 < len) (h63 : (len : Int) ≤ 9223372036854775807) :
    Calls Try.prog 4 #[.slice p len cap, .int .i64 f, .int .i64 s, .int .i64 i] w fun e w' => e = .returned (.bool true) ∧ Gr w w' := by
  go_enter Try.func4, Try.ntmps4
  go_wp2_with fail
  refine (known_any _).mono ?_
  rintro e w' ⟨rfl, hg⟩
  go_wp2
  go_ret
  exact ⟨rfl, hg⟩

theorem atRE_no {xs : List Int} {f s : Int} (h : standsB xs.length f s = false) : atR xs f s = 0 ∧ atE xs f s = 2 := by simp [atR, atE, h]
theorem atRE_yes {xs : List Int} {f s : Int} (h : standsB xs.length f s = true) : atR xs f s = Wd.dec (sub xs f s) ∧ atE xs f s = 0 := by simp [atR, atE, h]
theorem at_word {xs : List Int} {E : Nat} (h : 8 * E + 8 ≤ xs.length) : atR xs (8 * (E : Int)) 8 = wordR xs E ∧ atE xs (8 * (E : Int)) 8 = 0 := by
  have hs : standsB xs.length (8 * (E : Int)) 8 = true := standsB_iff.2 ⟨by omega, by omega, by omega, by omega⟩
  obtain ⟨h1, h2⟩ := atRE_yes hs
  refine ⟨?_, h2⟩
  rw [h1, wordR, if_neg (by omega)]
  rfl

set_option maxRecDepth 100000 in
set_option maxHeartbeats 2000000 in
theorem no_neg (f s : Int) (i : Int) (p : Option Addr) (len cap : Nat) (xs : List Int) (w : World) (hb : Byt w p len cap xs) (h600 : len ≤ 600) (h : standsB len f s = false) (hi : i < 0) :
    Calls Try.prog 4 #[.slice p len cap, .int .i64 f, .int .i64 s, .int .i64 i] w fun e w' => e = .returned (.bool true) ∧ Gr w w' := by
  have HH := Lib.hid h
  have HB := Lib.hid hb
  have hl := hb.len
  have HL := Lib.hid hl
  have hcap := hb.cap
  have hmost : cap ≤ 9223372036854775807 := by have := hb.most; unfold maxLen at this; omega
  have HA := Lib.hid (atRE_no (xs := xs) (f := f) (s := s) (by rw [hl]; exact h))
  have hmm : max (min i 100) 0 = 0 := by omega
  obtain ⟨TB, hTB⟩ : ∃ TB, TB = standsB len 0 8 := ⟨_, rfl⟩
  have HT := Lib.hid hTB.symm
  clear hTB
  have hc1 := conv_at hb
  obtain ⟨S, hS⟩ : ∃ S, S = strOfNums xs := ⟨_, rfl⟩
  rw [← hS] at hc1
  have HS := Lib.hid hS
  clear hS h hb hl
  go_enter Try.func4, Try.ntmps4
  go_wp2_with fail
  refine (at_any _ _ _ _ _ _ _ HB.out).mono ?_
  rintro e w' ⟨rfl, rfl⟩
  rw [HA.out.1, HA.out.2]
  go_wp2_with fail
  refine (refThere_any _ _ _ _ (by omega)).mono ?_
  rintro e w' ⟨rfl, rfl⟩
  rw [HH.out]
  go_wp2_with fail
  refine (word_any _ _ _ _ _ _ HB.out (by omega)).mono ?_
  rintro e w' ⟨rfl, rfl⟩
  go_wp2_with fail
  refine (refWord_any _ _ _ _ _ _ HB.out (by omega)).mono ?_
  rintro e w1 ⟨rfl, g1⟩
  have HB1 := Lib.hid (HB.out.kept g1)
  have HG1 := Lib.hid g1
  have hc2 := conv_at HB1.out
  rw [← HS.out] at hc2
  clear g1
  go_wp2_with fail
  refine (refThere_any _ _ _ _ (by omega)).mono ?_
  rintro e w' ⟨rfl, rfl⟩
  rw [HT.out]
  clear HT
  cases TB
  all_goals
    go_wp2_with fail
    refine (known_any _).mono ?_
    rintro e w2 ⟨rfl, g2⟩
    go_wp2
    go_ret
    exact ⟨rfl, HG1.out.trans g2⟩

set_option maxRecDepth 100000 in
set_option maxHeartbeats 2000000 in
theorem no_past (f s : Int)  (p : Option Addr) (len cap : Nat) (xs : List Int) (w : World) (hb : Byt w p len cap xs) (h600 : len ≤ 600) (h : standsB len f s = false) (E : Nat) (hi : len < 8 * E + 8) (hE : E ≤ 100) :
    Calls Try.prog 4 #[.slice p len cap, .int .i64 f, .int .i64 s, .int .i64 (E : Int)] w fun e w' => e = .returned (.bool true) ∧ Gr w w' := by
  have HH := Lib.hid h
  have HB := Lib.hid hb
  have hl := hb.len
  have HL := Lib.hid hl
  have hcap := hb.cap
  have hmost : cap ≤ 9223372036854775807 := by have := hb.most; unfold maxLen at this; omega
  have HA := Lib.hid (atRE_no (xs := xs) (f := f) (s := s) (by rw [hl]; exact h))
  have hmm : max (min (E : Int) 100) 0 = E := by omega
  have HT : Hid (standsB len (8 * (E : Int)) 8 = false) := by show _ = _; rw [Bool.eq_false_iff, ne_eq, standsB_iff]; omega
  have hc1 := conv_at hb
  obtain ⟨S, hS⟩ : ∃ S, S = strOfNums xs := ⟨_, rfl⟩
  rw [← hS] at hc1
  have HS := Lib.hid hS
  clear hS h hb hl
  go_enter Try.func4, Try.ntmps4
  go_wp2_with fail
  refine (at_any _ _ _ _ _ _ _ HB.out).mono ?_
  rintro e w' ⟨rfl, rfl⟩
  rw [HA.out.1, HA.out.2]
  go_wp2_with fail
  refine (refThere_any _ _ _ _ (by omega)).mono ?_
  rintro e w' ⟨rfl, rfl⟩
  rw [HH.out]
  go_wp2_with fail
  refine (word_any _ _ _ _ _ _ HB.out (by omega)).mono ?_
  rintro e w' ⟨rfl, rfl⟩
  go_wp2_with fail
  refine (refWord_any _ _ _ _ _ _ HB.out (by omega)).mono ?_
  rintro e w1 ⟨rfl, g1⟩
  have HB1 := Lib.hid (HB.out.kept g1)
  have HG1 := Lib.hid g1
  have hc2 := conv_at HB1.out
  rw [← HS.out] at hc2
  clear g1
  go_wp2_with fail
  refine (refThere_any _ _ _ _ (by omega)).mono ?_
  rintro e w' ⟨rfl, rfl⟩
  rw [HT.out]
  go_wp2_with fail
  refine (known_any _).mono ?_
  rintro e w2 ⟨rfl, g2⟩
  go_wp2
  go_ret
  exact ⟨rfl, HG1.out.trans g2⟩

set_option maxRecDepth 100000 in
set_option maxHeartbeats 2000000 in
theorem no_far (f s : Int) (i : Int) (p : Option Addr) (len cap : Nat) (xs : List Int) (w : World) (hb : Byt w p len cap xs) (h600 : len ≤ 600) (h : standsB len f s = false) (hi : 100 < i) :
    Calls Try.prog 4 #[.slice p len cap, .int .i64 f, .int .i64 s, .int .i64 i] w fun e w' => e = .returned (.bool true) ∧ Gr w w' := by
  have HH := Lib.hid h
  have HB := Lib.hid hb
  have hl := hb.len
  have HL := Lib.hid hl
  have hcap := hb.cap
  have hmost : cap ≤ 9223372036854775807 := by have := hb.most; unfold maxLen at this; omega
  have HA := Lib.hid (atRE_no (xs := xs) (f := f) (s := s) (by rw [hl]; exact h))
  have hmm : max (min i 100) 0 = 100 := by omega
  have HT : Hid (standsB len 800 8 = false) := by show _ = _; rw [Bool.eq_false_iff, ne_eq, standsB_iff]; omega
  have hc1 := conv_at hb
  obtain ⟨S, hS⟩ : ∃ S, S = strOfNums xs := ⟨_, rfl⟩
  rw [← hS] at hc1
  have HS := Lib.hid hS
  clear hS h hb hl
  go_enter Try.func4, Try.ntmps4
  go_wp2_with fail
  refine (at_any _ _ _ _ _ _ _ HB.out).mono ?_
  rintro e w' ⟨rfl, rfl⟩
  rw [HA.out.1, HA.out.2]
  go_wp2_with fail
  refine (refThere_any _ _ _ _ (by omega)).mono ?_
  rintro e w' ⟨rfl, rfl⟩
  rw [HH.out]
  go_wp2_with fail
  refine (word_any _ _ _ _ _ _ HB.out (by omega)).mono ?_
  rintro e w' ⟨rfl, rfl⟩
  go_wp2_with fail
  refine (refWord_any _ _ _ _ _ _ HB.out (by omega)).mono ?_
  rintro e w1 ⟨rfl, g1⟩
  have HB1 := Lib.hid (HB.out.kept g1)
  have HG1 := Lib.hid g1
  have hc2 := conv_at HB1.out
  rw [← HS.out] at hc2
  clear g1
  go_wp2_with fail
  refine (refThere_any _ _ _ _ (by omega)).mono ?_
  rintro e w' ⟨rfl, rfl⟩
  rw [HT.out]
  go_wp2_with fail
  refine (known_any _).mono ?_
  rintro e w2 ⟨rfl, g2⟩
  go_wp2
  go_ret
  exact ⟨rfl, HG1.out.trans g2⟩

set_option maxRecDepth 100000 in
set_option maxHeartbeats 2000000 in
theorem no_yes (f s : Int)  (p : Option Addr) (len cap : Nat) (xs : List Int) (w : World) (hb : Byt w p len cap xs) (h600 : len ≤ 600) (h : standsB len f s = false) (E : Nat) (hi : 8 * E + 8 ≤ len) (hE : E ≤ 100) :
    Calls Try.prog 4 #[.slice p len cap, .int .i64 f, .int .i64 s, .int .i64 (E : Int)] w fun e w' => e = .returned (.bool true) ∧ Gr w w' := by
  have HH := Lib.hid h
  have HB := Lib.hid hb
  have hl := hb.len
  have HL := Lib.hid hl
  have hcap := hb.cap
  have hmost : cap ≤ 9223372036854775807 := by have := hb.most; unfold maxLen at this; omega
  have HA := Lib.hid (atRE_no (xs := xs) (f := f) (s := s) (by rw [hl]; exact h))
  have hmm : max (min (E : Int) 100) 0 = E := by omega
  have HT : Hid (standsB len (8 * (E : Int)) 8 = true) := standsB_iff.2 ⟨by omega, by omega, by omega, by omega⟩
  have HAW := Lib.hid (at_word (xs := xs) (E := E) (by rw [hl]; exact hi))
  have hc1 := conv_at hb
  obtain ⟨S, hS⟩ : ∃ S, S = strOfNums xs := ⟨_, rfl⟩
  rw [← hS] at hc1
  have HS := Lib.hid hS
  clear hS h hb hl
  go_enter Try.func4, Try.ntmps4
  go_wp2_with fail
  refine (at_any _ _ _ _ _ _ _ HB.out).mono ?_
  rintro e w' ⟨rfl, rfl⟩
  rw [HA.out.1, HA.out.2]
  go_wp2_with fail
  refine (refThere_any _ _ _ _ (by omega)).mono ?_
  rintro e w' ⟨rfl, rfl⟩
  rw [HH.out]
  go_wp2_with fail
  refine (word_any _ _ _ _ _ _ HB.out (by omega)).mono ?_
  rintro e w' ⟨rfl, rfl⟩
  go_wp2_with fail
  refine (refWord_any _ _ _ _ _ _ HB.out (by omega)).mono ?_
  rintro e w1 ⟨rfl, g1⟩
  have HB1 := Lib.hid (HB.out.kept g1)
  have HG1 := Lib.hid g1
  have hc2 := conv_at HB1.out
  rw [← HS.out] at hc2
  clear g1
  go_wp2_with fail
  refine (refThere_any _ _ _ _ (by omega)).mono ?_
  rintro e w' ⟨rfl, rfl⟩
  rw [HT.out]
  go_wp2_with fail
  refine (at_any _ _ _ _ _ _ _ HB1.out).mono ?_
  rintro e w' ⟨rfl, rfl⟩
  rw [HAW.out.1, HAW.out.2]
  go_wp2_with fail
  refine (word_any _ _ _ _ _ _ HB1.out (by omega)).mono ?_
  rintro e w' ⟨rfl, rfl⟩
  go_wp2_with fail
  refine (known_any _).mono ?_
  rintro e w2 ⟨rfl, g2⟩
  go_wp2
  go_ret
  exact ⟨rfl, HG1.out.trans g2⟩

set_option maxRecDepth 100000 in
set_option maxHeartbeats 2000000 in
theorem yes_neg (F K : Nat) (i : Int) (p : Option Addr) (len cap : Nat) (xs : List Int) (w : World) (hb : Byt w p len cap xs) (h600 : len ≤ 600) (h : standsB len (F : Int) (K : Int) = true) (hi : i < 0) :
    Calls Try.prog 4 #[.slice p len cap, .int .i64 (F : Int), .int .i64 (K : Int), .int .i64 i] w fun e w' => e = .returned (.bool true) ∧ Gr w w' := by
  have HH := Lib.hid h
  have HB := Lib.hid hb
  have hl := hb.len
  have HL := Lib.hid hl
  have hcap := hb.cap
  have hmost : cap ≤ 9223372036854775807 := by have := hb.most; unfold maxLen at this; omega
  have HA := Lib.hid (atRE_yes (xs := xs) (f := F) (s := K) (by rw [hl]; exact h))
  obtain ⟨g1, g2, g3, g4⟩ := standsB_iff.1 h
  obtain ⟨b, o, rfl, _⟩ := hb.at (by omega)
  have hFK : F + K ≤ len := by omega
  have HSub : Hid (Byt w (some ⟨b, o + F, none⟩) K (cap - F) (sub xs F K)) := hb.sub (by omega) F K (cap - F) hFK (by omega) (by have := hb.most; omega)
  have hK8 : K ≤ 8 := by omega
  have hK1 : 1 ≤ K := by omega
  have hne : ¬ cap = F := by omega
  clear g1 g2 g3 g4
  have hmm : max (min i 100) 0 = 0 := by omega
  obtain ⟨TB, hTB⟩ : ∃ TB, TB = standsB len 0 8 := ⟨_, rfl⟩
  have HT := Lib.hid hTB.symm
  clear hTB
  have hc1 := conv_at hb
  obtain ⟨S, hS⟩ : ∃ S, S = strOfNums xs := ⟨_, rfl⟩
  rw [← hS] at hc1
  have HS := Lib.hid hS
  clear hS h hb hl
  go_enter Try.func4, Try.ntmps4
  go_wp2_with fail
  refine (at_any _ _ _ _ _ _ _ HB.out).mono ?_
  rintro e w' ⟨rfl, rfl⟩
  rw [HA.out.1, HA.out.2]
  go_wp2_with fail
  refine (refThere_any _ _ _ _ (by omega)).mono ?_
  rintro e w' ⟨rfl, rfl⟩
  rw [HH.out]
  go_wp2_with fail
  refine (refGet_any _ _ _ _ _ HSub.out hK8).mono ?_
  rintro e w' ⟨rfl, rfl⟩
  go_wp2_with fail
  refine (word_any _ _ _ _ _ _ HB.out (by omega)).mono ?_
  rintro e w' ⟨rfl, rfl⟩
  go_wp2_with fail
  refine (refWord_any _ _ _ _ _ _ HB.out (by omega)).mono ?_
  rintro e w1 ⟨rfl, g1⟩
  have HB1 := Lib.hid (HB.out.kept g1)
  have HG1 := Lib.hid g1
  have hc2 := conv_at HB1.out
  rw [← HS.out] at hc2
  clear g1
  go_wp2_with fail
  refine (refThere_any _ _ _ _ (by omega)).mono ?_
  rintro e w' ⟨rfl, rfl⟩
  rw [HT.out]
  clear HT
  cases TB
  all_goals
    go_wp2_with fail
    refine (known_any _).mono ?_
    rintro e w2 ⟨rfl, g2⟩
    go_wp2
    go_ret
    exact ⟨rfl, HG1.out.trans g2⟩

set_option maxRecDepth 100000 in
set_option maxHeartbeats 2000000 in
theorem yes_past (F K : Nat)  (p : Option Addr) (len cap : Nat) (xs : List Int) (w : World) (hb : Byt w p len cap xs) (h600 : len ≤ 600) (h : standsB len (F : Int) (K : Int) = true) (E : Nat) (hi : len < 8 * E + 8) (hE : E ≤ 100) :
    Calls Try.prog 4 #[.slice p len cap, .int .i64 (F : Int), .int .i64 (K : Int), .int .i64 (E : Int)] w fun e w' => e = .returned (.bool true) ∧ Gr w w' := by
  have HH := Lib.hid h
  have HB := Lib.hid hb
  have hl := hb.len
  have HL := Lib.hid hl
  have hcap := hb.cap
  have hmost : cap ≤ 9223372036854775807 := by have := hb.most; unfold maxLen at this; omega
  have HA := Lib.hid (atRE_yes (xs := xs) (f := F) (s := K) (by rw [hl]; exact h))
  obtain ⟨g1, g2, g3, g4⟩ := standsB_iff.1 h
  obtain ⟨b, o, rfl, _⟩ := hb.at (by omega)
  have hFK : F + K ≤ len := by omega
  have HSub : Hid (Byt w (some ⟨b, o + F, none⟩) K (cap - F) (sub xs F K)) := hb.sub (by omega) F K (cap - F) hFK (by omega) (by have := hb.most; omega)
  have hK8 : K ≤ 8 := by omega
  have hK1 : 1 ≤ K := by omega
  have hne : ¬ cap = F := by omega
  clear g1 g2 g3 g4
  have hmm : max (min (E : Int) 100) 0 = E := by omega
  have HT : Hid (standsB len (8 * (E : Int)) 8 = false) := by show _ = _; rw [Bool.eq_false_iff, ne_eq, standsB_iff]; omega
  have hc1 := conv_at hb
  obtain ⟨S, hS⟩ : ∃ S, S = strOfNums xs := ⟨_, rfl⟩
  rw [← hS] at hc1
  have HS := Lib.hid hS
  clear hS h hb hl
  go_enter Try.func4, Try.ntmps4
  go_wp2_with fail
  refine (at_any _ _ _ _ _ _ _ HB.out).mono ?_
  rintro e w' ⟨rfl, rfl⟩
  rw [HA.out.1, HA.out.2]
  go_wp2_with fail
  refine (refThere_any _ _ _ _ (by omega)).mono ?_
  rintro e w' ⟨rfl, rfl⟩
  rw [HH.out]
  go_wp2_with fail
  refine (refGet_any _ _ _ _ _ HSub.out hK8).mono ?_
  rintro e w' ⟨rfl, rfl⟩
  go_wp2_with fail
  refine (word_any _ _ _ _ _ _ HB.out (by omega)).mono ?_
  rintro e w' ⟨rfl, rfl⟩
  go_wp2_with fail
  refine (refWord_any _ _ _ _ _ _ HB.out (by omega)).mono ?_
  rintro e w1 ⟨rfl, g1⟩
  have HB1 := Lib.hid (HB.out.kept g1)
  have HG1 := Lib.hid g1
  have hc2 := conv_at HB1.out
  rw [← HS.out] at hc2
  clear g1
  go_wp2_with fail
  refine (refThere_any _ _ _ _ (by omega)).mono ?_
  rintro e w' ⟨rfl, rfl⟩
  rw [HT.out]
  go_wp2_with fail
  refine (known_any _).mono ?_
  rintro e w2 ⟨rfl, g2⟩
  go_wp2
  go_ret
  exact ⟨rfl, HG1.out.trans g2⟩

set_option maxRecDepth 100000 in
set_option maxHeartbeats 2000000 in
theorem yes_far (F K : Nat) (i : Int) (p : Option Addr) (len cap : Nat) (xs : List Int) (w : World) (hb : Byt w p len cap xs) (h600 : len ≤ 600) (h : standsB len (F : Int) (K : Int) = true) (hi : 100 < i) :
    Calls Try.prog 4 #[.slice p len cap, .int .i64 (F : Int), .int .i64 (K : Int), .int .i64 i] w fun e w' => e = .returned (.bool true) ∧ Gr w w' := by
  have HH := Lib.hid h
  have HB := Lib.hid hb
  have hl := hb.len
  have HL := Lib.hid hl
  have hcap := hb.cap
  have hmost : cap ≤ 9223372036854775807 := by have := hb.most; unfold maxLen at this; omega
  have HA := Lib.hid (atRE_yes (xs := xs) (f := F) (s := K) (by rw [hl]; exact h))
  obtain ⟨g1, g2, g3, g4⟩ := standsB_iff.1 h
  obtain ⟨b, o, rfl, _⟩ := hb.at (by omega)
  have hFK : F + K ≤ len := by omega
  have HSub : Hid (Byt w (some ⟨b, o + F, none⟩) K (cap - F) (sub xs F K)) := hb.sub (by omega) F K (cap - F) hFK (by omega) (by have := hb.most; omega)
  have hK8 : K ≤ 8 := by omega
  have hK1 : 1 ≤ K := by omega
  have hne : ¬ cap = F := by omega
  clear g1 g2 g3 g4
  have hmm : max (min i 100) 0 = 100 := by omega
  have HT : Hid (standsB len 800 8 = false) := by show _ = _; rw [Bool.eq_false_iff, ne_eq, standsB_iff]; omega
  have hc1 := conv_at hb
  obtain ⟨S, hS⟩ : ∃ S, S = strOfNums xs := ⟨_, rfl⟩
  rw [← hS] at hc1
  have HS := Lib.hid hS
  clear hS h hb hl
  go_enter Try.func4, Try.ntmps4
  go_wp2_with fail
  refine (at_any _ _ _ _ _ _ _ HB.out).mono ?_
  rintro e w' ⟨rfl, rfl⟩
  rw [HA.out.1, HA.out.2]
  go_wp2_with fail
  refine (refThere_any _ _ _ _ (by omega)).mono ?_
  rintro e w' ⟨rfl, rfl⟩
  rw [HH.out]
  go_wp2_with fail
  refine (refGet_any _ _ _ _ _ HSub.out hK8).mono ?_
  rintro e w' ⟨rfl, rfl⟩
  go_wp2_with fail
  refine (word_any _ _ _ _ _ _ HB.out (by omega)).mono ?_
  rintro e w' ⟨rfl, rfl⟩
  go_wp2_with fail
  refine (refWord_any _ _ _ _ _ _ HB.out (by omega)).mono ?_
  rintro e w1 ⟨rfl, g1⟩
  have HB1 := Lib.hid (HB.out.kept g1)
  have HG1 := Lib.hid g1
  have hc2 := conv_at HB1.out
  rw [← HS.out] at hc2
  clear g1
  go_wp2_with fail
  refine (refThere_any _ _ _ _ (by omega)).mono ?_
  rintro e w' ⟨rfl, rfl⟩
  rw [HT.out]
  go_wp2_with fail
  refine (known_any _).mono ?_
  rintro e w2 ⟨rfl, g2⟩
  go_wp2
  go_ret
  exact ⟨rfl, HG1.out.trans g2⟩

set_option maxRecDepth 100000 in
set_option maxHeartbeats 2000000 in
theorem yes_yes (F K : Nat)  (p : Option Addr) (len cap : Nat) (xs : List Int) (w : World) (hb : Byt w p len cap xs) (h600 : len ≤ 600) (h : standsB len (F : Int) (K : Int) = true) (E : Nat) (hi : 8 * E + 8 ≤ len) (hE : E ≤ 100) :
    Calls Try.prog 4 #[.slice p len cap, .int .i64 (F : Int), .int .i64 (K : Int), .int .i64 (E : Int)] w fun e w' => e = .returned (.bool true) ∧ Gr w w' := by
  have HH := Lib.hid h
  have HB := Lib.hid hb
  have hl := hb.len
  have HL := Lib.hid hl
  have hcap := hb.cap
  have hmost : cap ≤ 9223372036854775807 := by have := hb.most; unfold maxLen at this; omega
  have HA := Lib.hid (atRE_yes (xs := xs) (f := F) (s := K) (by rw [hl]; exact h))
  obtain ⟨g1, g2, g3, g4⟩ := standsB_iff.1 h
  obtain ⟨b, o, rfl, _⟩ := hb.at (by omega)
  have hFK : F + K ≤ len := by omega
  have HSub : Hid (Byt w (some ⟨b, o + F, none⟩) K (cap - F) (sub xs F K)) := hb.sub (by omega) F K (cap - F) hFK (by omega) (by have := hb.most; omega)
  have hK8 : K ≤ 8 := by omega
  have hK1 : 1 ≤ K := by omega
  have hne : ¬ cap = F := by omega
  clear g1 g2 g3 g4
  have hmm : max (min (E : Int) 100) 0 = E := by omega
  have HT : Hid (standsB len (8 * (E : Int)) 8 = true) := standsB_iff.2 ⟨by omega, by omega, by omega, by omega⟩
  have HAW := Lib.hid (at_word (xs := xs) (E := E) (by rw [hl]; exact hi))
  have hc1 := conv_at hb
  obtain ⟨S, hS⟩ : ∃ S, S = strOfNums xs := ⟨_, rfl⟩
  rw [← hS] at hc1
  have HS := Lib.hid hS
  clear hS h hb hl
  go_enter Try.func4, Try.ntmps4
  go_wp2_with fail
  refine (at_any _ _ _ _ _ _ _ HB.out).mono ?_
  rintro e w' ⟨rfl, rfl⟩
  rw [HA.out.1, HA.out.2]
  go_wp2_with fail
  refine (refThere_any _ _ _ _ (by omega)).mono ?_
  rintro e w' ⟨rfl, rfl⟩
  rw [HH.out]
  go_wp2_with fail
  refine (refGet_any _ _ _ _ _ HSub.out hK8).mono ?_
  rintro e w' ⟨rfl, rfl⟩
  go_wp2_with fail
  refine (word_any _ _ _ _ _ _ HB.out (by omega)).mono ?_
  rintro e w' ⟨rfl, rfl⟩
  go_wp2_with fail
  refine (refWord_any _ _ _ _ _ _ HB.out (by omega)).mono ?_
  rintro e w1 ⟨rfl, g1⟩
  have HB1 := Lib.hid (HB.out.kept g1)
  have HG1 := Lib.hid g1
  have hc2 := conv_at HB1.out
  rw [← HS.out] at hc2
  clear g1
  go_wp2_with fail
  refine (refThere_any _ _ _ _ (by omega)).mono ?_
  rintro e w' ⟨rfl, rfl⟩
  rw [HT.out]
  go_wp2_with fail
  refine (at_any _ _ _ _ _ _ _ HB1.out).mono ?_
  rintro e w' ⟨rfl, rfl⟩
  rw [HAW.out.1, HAW.out.2]
  go_wp2_with fail
  refine (word_any _ _ _ _ _ _ HB1.out (by omega)).mono ?_
  rintro e w' ⟨rfl, rfl⟩
  go_wp2_with fail
  refine (known_any _).mono ?_
  rintro e w2 ⟨rfl, g2⟩
  go_wp2
  go_ret
  exact ⟨rfl, HG1.out.trans g2⟩

theorem walk (f s i : Int) (p : Option Addr) (len cap : Nat) (xs : List Int) (w : World) (hb : Byt w p len cap xs) :
    Calls Try.prog 4 #[.slice p len cap, .int .i64 f, .int .i64 s, .int .i64 i] w fun e w' => e = .returned (.bool true) ∧ Gr w w' := by
  by_cases h600 : 600 < len
  · exact long f s i p len cap w h600 (by have := hb.cap; have := hb.most; unfold maxLen at this; omega)
  have h600 : len ≤ 600 := by omega
  by_cases hs : standsB len f s = true
  · obtain ⟨g1, g2, g3, g4⟩ := standsB_iff.1 hs
    obtain ⟨F, rfl⟩ := Int.eq_ofNat_of_zero_le g3
    obtain ⟨K, rfl⟩ := Int.eq_ofNat_of_zero_le (show 0 ≤ s by omega)
    by_cases i0 : i < 0
    · exact yes_neg F K i p len cap xs w hb h600 hs i0
    by_cases i1 : 100 < i
    · exact yes_far F K i p len cap xs w hb h600 hs i1
    obtain ⟨E, rfl⟩ := Int.eq_ofNat_of_zero_le (show 0 ≤ i by omega)
    by_cases i2 : 8 * E + 8 ≤ len
    · exact yes_yes F K p len cap xs w hb h600 hs E i2 (by omega)
    · exact yes_past F K p len cap xs w hb h600 hs E (by omega) (by omega)
  · have hs : standsB len f s = false := by simpa using hs
    by_cases i0 : i < 0
    · exact no_neg f s i p len cap xs w hb h600 hs i0
    by_cases i1 : 100 < i
    · exact no_far f s i p len cap xs w hb h600 hs i1
    obtain ⟨E, rfl⟩ := Int.eq_ofNat_of_zero_le (show 0 ≤ i by omega)
    by_cases i2 : 8 * E + 8 ≤ len
    · exact no_yes f s p len cap xs w hb h600 hs E i2 (by omega)
    · exact no_past f s p len cap xs w hb h600 hs E (by omega) (by omega)

end Go.Proofs.Ytcbmgdigidpbeaa.pageWords
