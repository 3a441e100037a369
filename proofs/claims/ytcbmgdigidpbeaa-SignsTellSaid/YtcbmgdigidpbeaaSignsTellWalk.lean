import Derived.Test.YtcbmgdigidpbeaaPageWordsWalk
import Derived.Test.YtcbmgdigidpbeaaSigns
import Derived.Deep.QuietTactic
import Derived.BigQuiet
import Derived.Deep.CutBlock
namespace Go.Proofs.Ytcbmgdigidpbeaa.signsTell
open Go.RowKit
open Go.Proofs.Ytcbmgdigidpbeaa.wordsFit (conv_at)

theorem long (p q : Option Addr) (n c m d : Nat) (s : ByteArray) (w : World) (hn : (n : Int) ≤ 9223372036854775807) (hm : (m : Int) ≤ 9223372036854775807) (hs : (s.size : Int) ≤ 9223372036854775807) (h : 2000 < n ∨ 2000 < m ∨ 4000 < s.size) :
    Calls Try.prog 7 #[.slice p n c, .slice q m d, .string s] w fun e w' => e = .returned (.bool true) ∧ Gr w w' := by
  by_cases h1 : 2000 < n
  · go_enter Try.func7, Try.ntmps7
    go_wp2_with fail
    refine (known_any _).mono ?_
    rintro e w' ⟨rfl, hg⟩
    go_wp2
    go_ret
    exact ⟨rfl, hg⟩
  by_cases h2 : 2000 < m
  · go_enter Try.func7, Try.ntmps7
    go_wp2_with fail
    refine (known_any _).mono ?_
    rintro e w' ⟨rfl, hg⟩
    go_wp2
    go_ret
    exact ⟨rfl, hg⟩
  have h3 : 4000 < s.size := by omega
  clear h
  go_enter Try.func7, Try.ntmps7
  go_wp2_with fail
  refine (known_any _).mono ?_
  rintro e w' ⟨rfl, hg⟩
  go_wp2
  go_ret
  exact ⟨rfl, hg⟩

/-- Are both the same, as far as k? -/
def sameB (xs ys : List Int) (k : Nat) : Bool := decide (xs.length = ys.length ∧ xs.take k = ys.take k)

theorem sameB_zero (xs ys : List Int) : sameB xs ys 0 = decide (xs.length = ys.length) := by simp [sameB]
theorem sameB_no {xs ys : List Int} {k : Nat} (h : sameB xs ys k = false) (hk : k < xs.length) (hk2 : k < ys.length) : sameB xs ys (k + 1) = false := by
  simp only [sameB, decide_eq_false_iff_not] at h ⊢
  intro ⟨h1, h2⟩
  apply h
  refine ⟨h1, ?_⟩
  have e := congrArg (List.take k) h2
  simpa [List.take_take] using e
theorem sameB_yes {xs ys : List Int} {k : Nat} (h : sameB xs ys k = true) (hk : k < xs.length) (hk2 : k < ys.length) : sameB xs ys (k + 1) = (xs.getD k 0 == ys.getD k 0) := by
  simp only [sameB, decide_eq_true_eq] at h
  obtain ⟨h1, h2⟩ := h
  rw [Bool.eq_iff_iff]
  simp only [sameB, decide_eq_true_eq, beq_iff_eq]
  rw [take_snoc xs k hk, take_snoc ys k hk2, h2]
  constructor
  · intro ⟨_, h3⟩
    simpa using h3
  · intro h3
    exact ⟨h1, by rw [h3]⟩
theorem sameB_end {xs ys : List Int} {k : Nat} (h : xs.length ≤ k ∨ ys.length ≤ k) : sameB xs ys k = decide (xs = ys) := by
  rw [Bool.eq_iff_iff]
  simp only [sameB, decide_eq_true_eq]
  constructor
  · intro ⟨h1, h2⟩
    rw [List.take_of_length_le (by omega), List.take_of_length_le (by omega)] at h2
    exact h2
  · rintro rfl
    exact ⟨rfl, rfl⟩

/-- Are all signs, as far as k, and of whole bytes? -/
def goodB (l : List Int) (k : Nat) : Bool := decide (l.length % 2 = 0 ∧ ∀ i, i < k → four (l.getD i 0) < 16)
theorem goodB_no {l : List Int} {k : Nat} (h : goodB l k = false) : goodB l (k + 1) = false := by
  simp only [goodB, decide_eq_false_iff_not] at h ⊢
  intro ⟨h1, h2⟩
  exact h ⟨h1, fun i hi => h2 i (by omega)⟩
theorem goodB_yes {l : List Int} {k : Nat} (h : goodB l k = true) : goodB l (k + 1) = decide (four (l.getD k 0) < 16) := by
  simp only [goodB, decide_eq_true_eq] at h
  simp only [goodB, decide_eq_decide]
  constructor
  · intro ⟨_, h2⟩
    exact h2 k (by omega)
  · intro h2
    refine ⟨h.1, fun i hi => ?_⟩
    by_cases e : i = k
    · rw [e]; exact h2
    · exact h.2 i (by omega)
theorem goodB_end (l : List Int) : goodB l l.length = signsOk l := by
  rw [Bool.eq_iff_iff, signsOk_iff]
  simp [goodB]

theorem unhexE_hex {xs : List Int} (h : Wd.Small xs) : unhexE (nums (strOfNums (hexL xs))) = 0 ∧ unhexR (nums (strOfNums (hexL xs))) = xs := by
  rw [nums_str (hexL_small xs h)]
  exact ⟨(unhex_hex xs h).2, (unhex_hex xs h).1⟩
theorem str_eq {xs ys : List Int} (h : Wd.Small xs) (k : Wd.Small ys) : ((strOfNums (hexL xs)).toList == (strOfNums (hexL ys)).toList) = decide (xs = ys) := by
  rw [Bool.eq_iff_iff, beq_iff_eq, decide_eq_true_eq, strOfNums_inj (hexL_small xs h) (hexL_small ys k)]
  exact hex_inj h k

set_option maxRecDepth 100000 in
set_option maxHeartbeats 4000000 in
theorem short (p q : Option Addr) (n c m d : Nat) (xs ys : List Int) (s : ByteArray) (w : World) (hx : Byt w p n c xs) (hy : Byt w q m d ys) (h1 : n ≤ 2000) (h2 : m ≤ 2000) (h3 : s.size ≤ 4000) :
    Calls Try.prog 7 #[.slice p n c, .slice q m d, .string s] w fun e w' => e = .returned (.bool true) ∧ Gr w w' := by
  have HX := Lib.hid hx
  have HY := Lib.hid hy
  have HN := Lib.hid hx.len
  have HM := Lib.hid hy.len
  have hz : Hid (((n : Int) == (m : Int)) = sameB xs ys 0) := by
    show _ = _
    rw [sameB_zero, hx.len, hy.len, Bool.eq_iff_iff]
    simp only [beq_iff_eq, decide_eq_true_eq]
    omega
  clear hx hy
  go_enter Try.func7, Try.ntmps7
  go_upto_block 0 with fail
  go_cut [7] (fun s7 wx => s7 = .bool (decide (xs = ys)) ∧ Hid (Gr w wx))
  case first =>
    go_wp2_with fail
    go_loopw [7, 8] (fun t i wr => ∃ k : Nat, k ≤ n ∧ k ≤ m ∧ i = .int .i64 k ∧ t = .bool (sameB xs ys k) ∧ Hid (Gr w wr)) (fun _ i _ => n - (intOf i).toNat)
    case atStart => exact ⟨0, Nat.zero_le _, Nat.zero_le _, rfl, by rw [hz.out], Gr.refl _⟩
    case round =>
      obtain ⟨k, hk1, hk2, rfl, rfl, hg⟩ := hrel
      by_cases hlt1 : k < n
      · by_cases hlt2 : k < m
        · obtain ⟨b1, o1, rfl, hc1⟩ := (HX.out.kept hg.out).at (by omega)
          obtain ⟨b2, o2, rfl, hc2⟩ := (HY.out.kept hg.out).at (by omega)
          have hcell1 := hc1 k hlt1
          have hcell2 := hc2 k hlt2
          have hi1 : (0 : Int) ≤ (k : Int) := by omega
          have hi2 : (k : Int) < (n : Int) := by omega
          have hi3 : (k : Int) < (m : Int) := by omega
          clear hc1 hc2
          cases hB : sameB xs ys k
          · have hN := Lib.hid (sameB_no hB (by rw [HN.out]; exact hlt1) (by rw [HM.out]; exact hlt2))
            clear hB
            go_wp2_with fail
            go_quiet (fail)
            go_wp2
            go_roundw
            case rel => exact ⟨k + 1, by omega, by omega, by go_num, by rw [hN.out], below_drewN hg.out _⟩
            case measure => simp [intOf]; omega
          · have hN := Lib.hid (sameB_yes hB (by rw [HN.out]; exact hlt1) (by rw [HM.out]; exact hlt2))
            clear hB
            go_wp2_with fail
            go_quiet (fail)
            go_wp2
            go_roundw
            case rel => exact ⟨k + 1, by omega, by omega, by go_num, by rw [hN.out]; rfl, below_drewN hg.out _⟩
            case measure => simp [intOf]; omega
        · have hE := Lib.hid (sameB_end (xs := xs) (ys := ys) (k := k) (by rw [HN.out, HM.out]; omega))
          go_wp2
          go_meet
          exact ⟨by rw [hE.out], hg⟩
      · have hE := Lib.hid (sameB_end (xs := xs) (ys := ys) (k := k) (by rw [HN.out, HM.out]; omega))
        go_wp2
        go_meet
        exact ⟨by rw [hE.out], hg⟩
  case rest =>
    obtain ⟨rfl, HG⟩ := hcut
    have HX0 := Lib.hid (HX.out.kept HG.out)
    have HY0 := Lib.hid (HY.out.kept HG.out)
    go_wp2_with fail
    refine (hex_any _ _ _ _ _ HX0.out (by omega)).mono ?_
    rintro e w1 ⟨rfl, g1⟩
    have HX1 := Lib.hid (HX0.out.kept g1)
    have HY1 := Lib.hid (HY0.out.kept g1)
    have HG1 := Lib.hid (HG.out.trans g1)
    clear g1 HX0 HY0 HG
    go_wp2_with fail
    refine (hex_any _ _ _ _ _ HY1.out (by omega)).mono ?_
    rintro e w2 ⟨rfl, g2⟩
    have HX2 := Lib.hid (HX1.out.kept g2)
    have HY2 := Lib.hid (HY1.out.kept g2)
    have HG2 := Lib.hid (HG1.out.trans g2)
    clear g2 HX1 HY1 HG1
    have hsize : (strOfNums (hexL xs)).size ≤ 140737488355328 := by rw [strOfNums_size, hexL_length, HN.out]; omega
    have HU := Lib.hid (unhexE_hex HX.out.small)
    have heq := str_eq HX.out.small HY.out.small
    have HRH := Lib.hid (fun W (h : Byt W p n c xs) => refHex_any p n c xs W h (by omega))
    obtain ⟨SX, hSX⟩ : ∃ S, S = strOfNums (hexL xs) := ⟨_, rfl⟩
    obtain ⟨SY, hSY⟩ : ∃ S, S = strOfNums (hexL ys) := ⟨_, rfl⟩
    rw [← hSX] at HU heq HRH hsize ⊢
    rw [← hSY] at heq ⊢
    clear hSX hSY
    go_wp2_with fail
    have hu := unhex_any SX w2 hsize
    rw [HU.out.1, HU.out.2] at hu
    refine hu.mono ?_
    clear hu
    rintro e w3 ⟨p3, n3, c3, rfl, hb3, g3, _⟩
    have HZ3 := Lib.hid hb3
    have HX3 := Lib.hid (HX2.out.kept g3)
    have HY3 := Lib.hid (HY2.out.kept g3)
    have HG3 := Lib.hid (HG2.out.trans g3)
    clear hb3 g3 HX2 HY2 HG2
    go_wp2_with fail
    refine (same_any _ _ _ _ _ _ _ _ _ HX3.out HY3.out).mono ?_
    rintro e w' ⟨rfl, rfl⟩
    generalize hD : decide (xs = ys) = D at *
    clear hD
    go_wp2_with fail
    refine (HRH.out _ HX3.out).mono ?_
    rintro e w4 ⟨rfl, g4⟩
    have HZ4 := Lib.hid (HZ3.out.kept g4)
    have HX4 := Lib.hid (HX3.out.kept g4)
    have HG4 := Lib.hid (HG3.out.trans g4)
    clear g4 HX3 HY3 HG3 HZ3
    go_wp2_with fail
    refine (same_any _ _ _ _ _ _ _ _ _ HZ4.out HX4.out).mono ?_
    rintro e w' ⟨rfl, rfl⟩
    have hdd : decide (xs = xs) = true := by simp
    rw [hdd]
    clear hdd HU heq HRH
    have hns := nums_length s
    have hq : (((s.size : Int) % 2) == 0) = goodB (nums s) 0 := by
      rw [Bool.eq_iff_iff]
      simp only [goodB, decide_eq_true_eq, beq_iff_eq, hns]
      constructor
      · intro h; exact ⟨by omega, fun i hi => by omega⟩
      · intro h; omega
    have HQ := Lib.hid hq
    have HNS := Lib.hid hns
    clear hq hns
    go_wp2
    go_loop [13, 14] (fun t i => ∃ k : Nat, k ≤ s.size ∧ i = .int .i64 k ∧ t = .bool (goodB (nums s) k)) (fun _ i => s.size - (intOf i).toNat)
    case atStart => exact ⟨0, Nat.zero_le _, rfl, by rw [HQ.out]⟩
    case round =>
      obtain ⟨k, hk, rfl, rfl⟩ := hrel
      by_cases hlt : k < s.size
      · have hi1 := fun pf => nums_get s k pf
        have hs1 := (nums_small s).getD k
        cases hB : goodB (nums s) k
        · have hN := Lib.hid (goodB_no hB)
          clear hB
          go_wp2
          go_round
          case rel => exact ⟨k + 1, by omega, by go_num, by rw [hN.out]⟩
          case measure => simp [intOf]; omega
        · have hN := Lib.hid (goodB_yes hB)
          clear hB
          obtain ⟨c1, hc1⟩ : ∃ c, c = (nums s).getD k 0 := ⟨_, rfl⟩
          simp only [← hc1] at hi1 hN
          clear hc1 hs1
          go_wp2_with fail
          refine (refFour_any _ _).mono ?_
          rintro e w' ⟨rfl, rfl⟩
          obtain ⟨f1, hf1⟩ : ∃ f, f = four c1 := ⟨_, rfl⟩
          rw [← hf1] at hN ⊢
          clear hf1 hi1
          go_wp2
          go_round
          case rel => exact ⟨k + 1, by omega, by go_num, by rw [hN.out]⟩
          case measure => simp [intOf]; omega
      · have hend := Lib.hid (goodB_end (nums s))
        obtain rfl : k = s.size := by omega
        have hB : Hid (goodB (nums s) s.size = signsOk (nums s)) := by
          show _ = _
          rw [← HNS.out]
          exact hend.out
        rw [hB.out]
        clear hend
        go_wp2_with fail
        cases hO : signsOk (nums s)
        · have hE : unhexE (nums s) = 4 ∧ unhexR (nums s) = [] := by simp [unhexE, unhexR, hO]
          have hu := unhex_any s w4 (by omega)
          rw [hE.1, hE.2] at hu
          clear hE hO
          refine hu.mono ?_
          clear hu
          rintro e w5 hr
          obtain ⟨p5, c5, rfl, g5⟩ := hr.nil
          have HG5 := Lib.hid (HG4.out.trans g5)
          clear hr g5 HG4
          go_wp2_with fail
          refine (no_yes _ _ _ _ _ rfl).mono ?_
          rintro e w' ⟨rfl, rfl⟩
          go_wp2_with fail
          refine (known_any _).mono ?_
          rintro e w6 ⟨rfl, g6⟩
          go_wp2
          go_ret
          exact ⟨rfl, HG5.out.trans g6⟩
        · have hE := (hex_unh hO).2
          have hE2 := (hex_unh hO).1
          have hu := unhex_any s w4 (by omega)
          rw [hE] at hu
          clear hE hO
          refine hu.mono ?_
          clear hu
          rintro e w5 ⟨p5, n5, c5, rfl, hb5, g5, _⟩
          have HB5 := Lib.hid hb5
          have HG5 := Lib.hid (HG4.out.trans g5)
          have hn5 : n5 ≤ 70368744177664 := by
            have h1 := hb5.len
            have h2 := congrArg List.length hE2
            rw [hexL_length, HNS.out, h1] at h2
            omega
          clear hb5 g5 HG4
          go_wp2_with fail
          refine (hex_any _ _ _ _ _ HB5.out hn5).mono ?_
          rintro e w6 ⟨rfl, g6⟩
          rw [hE2, str_nums]
          have HG6 := Lib.hid (HG5.out.trans g6)
          clear hE2 g6 HG5
          go_wp2_with fail
          refine (known_any _).mono ?_
          rintro e w7 ⟨rfl, g7⟩
          go_wp2
          go_ret
          exact ⟨rfl, HG6.out.trans g7⟩

theorem walk (p : Option Addr) (n c : Nat) (xs : List Int) (q : Option Addr) (m d : Nat) (ys : List Int) (s : ByteArray) (w : World) (hx : Byt w p n c xs) (hy : Byt w q m d ys) (hs : s.size ≤ maxLen) :
    Calls Try.prog 7 #[.slice p n c, .slice q m d, .string s] w fun e w' => e = .returned (.bool true) ∧ Gr w w' := by
  by_cases h : 2000 < n ∨ 2000 < m ∨ 4000 < s.size
  · refine long p q n c m d s w ?_ ?_ ?_ h
    · have := hx.cap; have := hx.most; unfold maxLen at this; omega
    · have := hy.cap; have := hy.most; unfold maxLen at this; omega
    · unfold maxLen at hs; omega
  · exact short p q n c m d xs ys s w hx hy (by omega) (by omega) (by omega)

end Go.Proofs.Ytcbmgdigidpbeaa.signsTell
