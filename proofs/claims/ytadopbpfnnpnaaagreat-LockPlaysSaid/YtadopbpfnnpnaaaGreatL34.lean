/-
  Texts on locks, put together: Su6 Su7.
-/
import Derived.Sort.LotC
import Derived.Test.YtadopbpfnnpnaaaGreatL33
set_option linter.unusedVariables false
set_option linter.unusedSimpArgs false
/-
  slices.Sort over uint64: partitionOrdered.
-/
namespace Go.Proofs.YtadopbpfnnpnaaaGreat
open Go.RowKit Go.Sort

/-- So far parted: what stands ahead of i is less than the first one, what stands behind j is not. -/
structure Part (a b i j : Nat) (d dk : Array Int) : Prop where
  perm : PermIn a b d dk
  low : ∀ t, a < t → t < i → ltInt dk[t]! dk[a]! = true
  high : ∀ t, j < t → t < b → ltInt dk[t]! dk[a]! = false
  ai : a < i
  ij : i ≤ j + 1
  jb : j < b
def RetPt (W0 : World) (g off N n a b : Nat) (d : Array Int) (e : Ending) (w' : World) : Prop := ∃ (m : Nat) (r : Bool) (d' : Array Int), e = .returned (.tuple #[.int .i64 m, .bool r]) ∧ a ≤ m ∧ m < b ∧ d'.size = n ∧ PermIn a b d d' ∧ (∀ i, a ≤ i → i < m → ltInt d'[i]! d'[m]! = true) ∧ (∀ i, m < i → i < b → ltInt d'[i]! d'[m]! = false) ∧ SU W0 w' g off N d'
section
variable {a b i j : Nat} {d dk : Array Int}
theorem Part.up (h : Part a b i j d dk) (hij : i ≤ j) (hl : ltInt dk[i]! dk[a]! = true) : Part a b (i + 1) j d dk := ⟨h.perm, fun t h1 h2 => by
  by_cases e : t = i
  · rw [e]; exact hl
  · exact h.low t h1 (by omega), h.high, by have := h.ai; omega, by omega, h.jb⟩
theorem Part.down (h : Part a b i j d dk) (hij : i ≤ j) (hl : ltInt dk[j]! dk[a]! = false) : Part a b i (j - 1) d dk := ⟨h.perm, h.low, fun t h1 h2 => by
  by_cases e : t = j
  · rw [e]; exact hl
  · exact h.high t (by omega) h2, h.ai, by omega, by have := h.jb; omega⟩
theorem Part.ends (h : Part a b i j d dk) (hij : j < i) (hb : b ≤ dk.size) : a ≤ j ∧ j < b ∧ PermIn a b d (swp dk j a) ∧ (∀ t, a ≤ t → t < j → ltInt (swp dk j a)[t]! (swp dk j a)[j]! = true) ∧ (∀ t, j < t → t < b → ltInt (swp dk j a)[t]! (swp dk j a)[j]! = false) := by
  have h1 := h.ai
  have h2 := h.ij
  have h3 := h.jb
  refine ⟨by omega, h3, permIn_trans _ _ _ _ _ h.perm (swp_permIn dk a b j a (by omega) h3 (Nat.le_refl _) (by omega) hb), fun t q1 q2 => ?_, fun t q1 q2 => ?_⟩
  · have e1 : (swp dk j a)[j]! = dk[a]! := by rw [swp_left dk j a (by omega) (by omega)]
    rw [e1]
    by_cases e : t = a
    · rw [e, swp_right dk j a (by omega)]
      exact h.low j (by omega) (by omega)
    · rw [swp_other dk j a t (by omega) e]
      exact h.low t (by omega) (by omega)
  · rw [swp_other dk j a t (by omega) (by omega)]
    have e1 : (swp dk j a)[j]! = dk[a]! := by
      by_cases e : j = a
      · subst e; rw [swp_right dk j j (by omega)]
      · rw [swp_left dk j a (by omega) e]
    rw [e1]
    exact h.high t q1 q2
theorem Part.swaps (h : Part a b i j d dk) (hij : i ≤ j) (h1 : ltInt dk[i]! dk[a]! = false) (h2 : ltInt dk[j]! dk[a]! = true) (hb : b ≤ dk.size) : i < j ∧ Part a b (i + 1) (j - 1) d (swp dk i j) := by
  have h3 := h.ai
  have h4 := h.jb
  have hne : i ≠ j := fun e => by rw [e, h2] at h1; cases h1
  have ea : (swp dk i j)[a]! = dk[a]! := swp_other dk i j a (by omega) (by omega)
  refine ⟨by omega, ⟨permIn_trans _ _ _ _ _ h.perm (swp_permIn dk a b i j (by omega) (by omega) (by omega) h4 hb), fun t q1 q2 => ?_, fun t q1 q2 => ?_, by omega, by omega, by omega⟩⟩
  · rw [ea]
    by_cases e : t = i
    · rw [e, swp_left dk i j (by omega) hne]; exact h2
    · rw [swp_other dk i j t e (by omega)]; exact h.low t q1 (by omega)
  · rw [ea]
    by_cases e : t = j
    · rw [e, swp_right dk i j (by omega)]; exact h1
    · rw [swp_other dk i j t (by omega) e]; exact h.high t (by omega) q2
end
set_option maxHeartbeats 32000000 in
set_option maxRecDepth 1000000 in
theorem partition_u {W0 w : World} {g off N n cap a b pivot : Nat} {d : Array Int} (h : SU W0 w g off N d) (hn : d.size = n) (hap : a ≤ pivot) (hpb : pivot < b) (hb : b ≤ n) (hsz : n < 4611686018427387904) :
    Calls Tryz.prog 81 #[.slice (some ⟨g, off, none⟩) n cap, .int .i64 a, .int .i64 b, .int .i64 pivot] w (RetPt W0 g off N n a b d) := by
  obtain ⟨d1, hd1⟩ : ∃ d1, d1 = swp d a pivot := ⟨_, rfl⟩
  have H1 := (h.swap (i := a) (j := pivot) (by omega) (by omega)).drew
  have hs1 : d1.size = n := by rw [hd1, size_swp]; exact hn
  have HP : Hid (Part a b (a + 1) (b - 1) d d1) := Lib.hid ⟨by rw [hd1]; exact swp_permIn d a b a pivot (Nat.le_refl _) (by omega) hap hpb (by omega), fun t q1 q2 => by omega, fun t q1 q2 => by omega, by omega, by omega, by omega⟩
  have HD1 := Lib.hid hd1
  clear hd1
  have H := Lib.hid h
  clear h
  obtain ⟨B1, hB1⟩ : ∃ B1, B1 = b - 1 := ⟨_, rfl⟩
  have hB1z : (b : Int) - 1 = (B1 : Int) := by omega
  rw [← hB1] at HP
  have haB : a ≤ B1 ∧ B1 < b := by omega
  clear hB1
  go_enter Tryz.func81, Tryz.ntmps81
  go_upto_region 1 with fail
  go_cut [] from 12 to 25 (fun wx => Hid (SU W0 wx g off N d1))
  case first =>
    obtain ⟨G, HG, hcw, hfw⟩ := H.out.fam hn
    repeat rw [← HG.out] at H1
    rw [← HD1.out] at H1
    by_cases heq : a = pivot
    · subst heq
      go_region
      all_goals go_wp2_with fail
      go_meet
      exact Lib.hid H1
    · go_region
      all_goals go_wp2_with fail
      go_meet
      exact Lib.hid H1
  case rest =>
    have HS1 := hcut
    clear H1
    go_upto_block 0 with fail
    go_cut [10] from 30 to 45 (fun s10 wx => ∃ i2 : Nat, s10 = .int .i64 i2 ∧ Hid (SU W0 wx g off N d1) ∧ Hid (Part a b i2 B1 d d1 ∧ (i2 ≤ B1 → ltInt d1[i2]! d1[a]! = false)) ∧ a + 1 ≤ i2 ∧ i2 ≤ B1 + 1)
    case first =>
      go_wp2_with fail
      go_loopw [10] (fun vi wr => ∃ i2 : Nat, vi = .int .i64 i2 ∧ Hid (SU W0 wr g off N d1) ∧ Hid (Part a b i2 B1 d d1) ∧ a + 1 ≤ i2 ∧ i2 ≤ B1 + 1) (fun vi _ => B1 + 1 - (intOf vi).toNat)
      case atStart => exact ⟨a + 1, by simp, HS1, HP, by omega, by omega⟩
      case round =>
        obtain ⟨i2, rfl, HR, HQ, hai2, hij2⟩ := hrel
        by_cases hlt : i2 ≤ B1
        · have hltz : (i2 : Int) ≤ (B1 : Int) := by omega
          obtain ⟨G, HG, hcw, hfw⟩ := HR.out.fam hs1
          go_wp2_with fail
          go_quiet (first | (go_at_call 79; refine Calls.quiet_of_same (less_u _ _ _)))
          go_wp2_with fail
          · have hl : ltInt (G i2) (G a) = true := by assumption
            go_roundw
            case rel => exact ⟨i2 + 1, by simp, Lib.hid (HR.out.drewN nq), Lib.hid (HQ.out.up hlt (by rw [← HG.out, ← HG.out]; exact hl)), by omega, by omega⟩
            case measure => simp [intOf]; omega
          · have hl : ltInt (G i2) (G a) = false := by assumption
            go_meet
            exact ⟨i2, rfl, Lib.hid (HR.out.drewN nq), Lib.hid ⟨HQ.out, fun _ => by rw [← HG.out, ← HG.out]; exact hl⟩, by omega, by omega⟩
        · have hltz : ¬ (i2 : Int) ≤ (B1 : Int) := by omega
          go_wp2_with fail
          go_quiet (fail)
          go_wp2_with fail
          go_meet
          exact ⟨i2, rfl, Lib.hid (HR.out.drewN nq), Lib.hid ⟨HQ.out, fun e => absurd e hlt⟩, by omega, by omega⟩
    case rest =>
      obtain ⟨i2, rfl, HSi, HPi, hai2, hij2⟩ := hcut
      go_upto_block 2 with fail
      go_cut [11] from 46 to 62 (fun s11 wx => ∃ j2 : Nat, s11 = .int .i64 j2 ∧ Hid (SU W0 wx g off N d1) ∧ Hid (Part a b i2 j2 d d1 ∧ (i2 ≤ j2 → ltInt d1[j2]! d1[a]! = true)) ∧ j2 ≤ B1 ∧ i2 ≤ j2 + 1)
      case first =>
        go_wp2_with fail
        go_loopw [11] (fun vi wr => ∃ j2 : Nat, vi = .int .i64 j2 ∧ Hid (SU W0 wr g off N d1) ∧ Hid (Part a b i2 j2 d d1) ∧ j2 ≤ B1 ∧ i2 ≤ j2 + 1) (fun vi _ => (intOf vi).toNat)
        case atStart => exact ⟨B1, rfl, HSi, Lib.hid HPi.out.1, Nat.le_refl _, by omega⟩
        case round =>
          obtain ⟨j2, rfl, HR, HQ, hjj2, hij2⟩ := hrel
          by_cases hlt : i2 ≤ j2
          · have hltz : (i2 : Int) ≤ (j2 : Int) := by omega
            obtain ⟨G, HG, hcw, hfw⟩ := HR.out.fam hs1
            go_wp2_with fail
            go_quiet (first | (go_at_call 79; refine Calls.quiet_of_same (less_u _ _ _)))
            go_wp2_with fail
            · have hl : ltInt (G j2) (G a) = false := by
                have : (!ltInt (G j2) (G a)) = true := by assumption
                simpa using this
              go_roundw
              case rel => exact ⟨j2 - 1, by congr 1; omega, Lib.hid (HR.out.drewN nq), Lib.hid (HQ.out.down hlt (by rw [← HG.out, ← HG.out]; exact hl)), by omega, by omega⟩
              case measure => simp [intOf]; omega
            · have hl : ltInt (G j2) (G a) = true := by
                have : (!ltInt (G j2) (G a)) = false := by assumption
                simpa using this
              go_meet
              exact ⟨j2, rfl, Lib.hid (HR.out.drewN nq), Lib.hid ⟨HQ.out, fun _ => by rw [← HG.out, ← HG.out]; exact hl⟩, by omega, by omega⟩
          · have hltz : ¬ (i2 : Int) ≤ (j2 : Int) := by omega
            go_wp2_with fail
            go_quiet (fail)
            go_wp2_with fail
            go_meet
            exact ⟨j2, rfl, Lib.hid (HR.out.drewN nq), Lib.hid ⟨HQ.out, fun e => absurd e hlt⟩, by omega, by omega⟩
      case rest =>
        obtain ⟨j2, rfl, HSj, HPj, hjj2, hij3⟩ := hcut
        by_cases hgt : j2 < i2
        · have hgtz : (j2 : Int) < (i2 : Int) := by omega
          have HEN := HPj.out.1.ends (by omega) (by omega)
          have H9 := Lib.hid (HSj.out.swap (i := j2) (j := a) (by omega) (by omega)).drew
          obtain ⟨G9, HG9, hcw, hfw⟩ := HSj.out.fam hs1
          have hs9 : (swp d1 j2 a).size = n := by rw [size_swp]; exact hs1
          by_cases heq : j2 = a
          · subst heq
            go_wp2_with fail
            go_region
            all_goals go_wp2_with fail
            go_ret2
            exact ⟨j2, true, swp d1 j2 j2, rfl, HEN.1, HEN.2.1, hs9, HEN.2.2.1, HEN.2.2.2.1, HEN.2.2.2.2, by rw [HG9.out]; exact H9.out⟩
          · go_wp2_with fail
            go_region
            all_goals go_wp2_with fail
            go_ret2
            exact ⟨j2, true, swp d1 j2 a, rfl, HEN.1, HEN.2.1, hs9, HEN.2.2.1, HEN.2.2.2.1, HEN.2.2.2.2, by rw [HG9.out, HG9.out]; exact H9.out⟩
        · have hgtz : ¬ (j2 : Int) < (i2 : Int) := by omega
          have HSW := Lib.hid (HPj.out.1.swaps (by omega) (HPi.out.2 (by omega)) (HPj.out.2 (by omega)) (by omega))
          have hlt2 := HSW.out.1
          obtain ⟨d2, hd2⟩ : ∃ d2, d2 = swp d1 i2 j2 := ⟨_, rfl⟩
          have hs2 : d2.size = n := by rw [hd2, size_swp]; exact hs1
          have HS2 := (HSj.out.swap (i := i2) (j := j2) (by omega) (by omega)).drew
          have HP2 := Lib.hid (HPj.out.1.swaps (by omega) (HPi.out.2 (by omega)) (HPj.out.2 (by omega)) (by omega)).2
          obtain ⟨G, HG, hcw, hfw⟩ := HSj.out.fam hs1
          repeat rw [← HG.out] at HS2
          rw [← hd2] at HS2 HP2
          have H2 := Lib.hid HS2
          clear HS2 hd2
          go_wp2_with fail
          go_region
          all_goals go_wp2_with fail
          clear hcw hfw
          go_loopw [10, 11] (fun vi vj wr => ∃ (i j : Nat) (d3 : Array Int), vi = .int .i64 i ∧ vj = .int .i64 j ∧ d3.size = n ∧ Hid (SU W0 wr g off N d3) ∧ Hid (Part a b i j d d3) ∧ a < i ∧ i ≤ j + 1 ∧ j < b) (fun vi vj _ => (intOf vj).toNat + 1 - (intOf vi).toNat)
          case atStart => exact ⟨i2 + 1, j2 - 1, d2, by simp, by congr 1; omega, hs2, H2, HP2, by omega, by omega, by omega⟩
          case round =>
            obtain ⟨i, j, d3, rfl, rfl, hs3, HS3, HP3, hai, hij, hjb⟩ := hrel
            go_upto_block 6 with fail
            go_cut [10] from 99 to 114 (fun s10 wx => ∃ i2 : Nat, s10 = .int .i64 i2 ∧ Hid (SU W0 wx g off N d3) ∧ Hid (Part a b i2 j d d3 ∧ (i2 ≤ j → ltInt d3[i2]! d3[a]! = false)) ∧ i ≤ i2 ∧ i2 ≤ j + 1)
            case first =>
              go_wp2_with fail
              go_loopw [10] (fun vi wr => ∃ i2 : Nat, vi = .int .i64 i2 ∧ Hid (SU W0 wr g off N d3) ∧ Hid (Part a b i2 j d d3) ∧ i ≤ i2 ∧ i2 ≤ j + 1) (fun vi _ => j + 1 - (intOf vi).toNat)
              case atStart => exact ⟨i, rfl, HS3, HP3, by omega, by omega⟩
              case round =>
                obtain ⟨i2, rfl, HR, HQ, hai2, hij2⟩ := hrel
                by_cases hlt : i2 ≤ j
                · have hltz : (i2 : Int) ≤ (j : Int) := by omega
                  obtain ⟨G, HG, hcw, hfw⟩ := HR.out.fam hs3
                  go_wp2_with fail
                  go_quiet (first | (go_at_call 79; refine Calls.quiet_of_same (less_u _ _ _)))
                  go_wp2_with fail
                  · have hl : ltInt (G i2) (G a) = true := by assumption
                    go_roundw
                    case rel => exact ⟨i2 + 1, by simp, Lib.hid (HR.out.drewN nq), Lib.hid (HQ.out.up hlt (by rw [← HG.out, ← HG.out]; exact hl)), by omega, by omega⟩
                    case measure => simp [intOf]; omega
                  · have hl : ltInt (G i2) (G a) = false := by assumption
                    go_meet
                    exact ⟨i2, rfl, Lib.hid (HR.out.drewN nq), Lib.hid ⟨HQ.out, fun _ => by rw [← HG.out, ← HG.out]; exact hl⟩, by omega, by omega⟩
                · have hltz : ¬ (i2 : Int) ≤ (j : Int) := by omega
                  go_wp2_with fail
                  go_quiet (fail)
                  go_wp2_with fail
                  go_meet
                  exact ⟨i2, rfl, Lib.hid (HR.out.drewN nq), Lib.hid ⟨HQ.out, fun e => absurd e hlt⟩, by omega, by omega⟩
            case rest =>
              obtain ⟨i2, rfl, HSi, HPi, hai2, hij2⟩ := hcut
              go_upto_block 8 with fail
              go_cut [11] from 115 to 131 (fun s11 wx => ∃ j2 : Nat, s11 = .int .i64 j2 ∧ Hid (SU W0 wx g off N d3) ∧ Hid (Part a b i2 j2 d d3 ∧ (i2 ≤ j2 → ltInt d3[j2]! d3[a]! = true)) ∧ j2 ≤ j ∧ i2 ≤ j2 + 1)
              case first =>
                go_wp2_with fail
                go_loopw [11] (fun vi wr => ∃ j2 : Nat, vi = .int .i64 j2 ∧ Hid (SU W0 wr g off N d3) ∧ Hid (Part a b i2 j2 d d3) ∧ j2 ≤ j ∧ i2 ≤ j2 + 1) (fun vi _ => (intOf vi).toNat)
                case atStart => exact ⟨j, rfl, HSi, Lib.hid HPi.out.1, Nat.le_refl _, by omega⟩
                case round =>
                  obtain ⟨j2, rfl, HR, HQ, hjj2, hij2⟩ := hrel
                  by_cases hlt : i2 ≤ j2
                  · have hltz : (i2 : Int) ≤ (j2 : Int) := by omega
                    obtain ⟨G, HG, hcw, hfw⟩ := HR.out.fam hs3
                    go_wp2_with fail
                    go_quiet (first | (go_at_call 79; refine Calls.quiet_of_same (less_u _ _ _)))
                    go_wp2_with fail
                    · have hl : ltInt (G j2) (G a) = false := by
                        have : (!ltInt (G j2) (G a)) = true := by assumption
                        simpa using this
                      go_roundw
                      case rel => exact ⟨j2 - 1, by congr 1; omega, Lib.hid (HR.out.drewN nq), Lib.hid (HQ.out.down hlt (by rw [← HG.out, ← HG.out]; exact hl)), by omega, by omega⟩
                      case measure => simp [intOf]; omega
                    · have hl : ltInt (G j2) (G a) = true := by
                        have : (!ltInt (G j2) (G a)) = false := by assumption
                        simpa using this
                      go_meet
                      exact ⟨j2, rfl, Lib.hid (HR.out.drewN nq), Lib.hid ⟨HQ.out, fun _ => by rw [← HG.out, ← HG.out]; exact hl⟩, by omega, by omega⟩
                  · have hltz : ¬ (i2 : Int) ≤ (j2 : Int) := by omega
                    go_wp2_with fail
                    go_quiet (fail)
                    go_wp2_with fail
                    go_meet
                    exact ⟨j2, rfl, Lib.hid (HR.out.drewN nq), Lib.hid ⟨HQ.out, fun e => absurd e hlt⟩, by omega, by omega⟩
              case rest =>
                obtain ⟨j2, rfl, HSj, HPj, hjj2, hij3⟩ := hcut
                by_cases hgt : j2 < i2
                · have hgtz : (j2 : Int) < (i2 : Int) := by omega
                  have HEN := HPj.out.1.ends (by omega) (by omega)
                  have H9 := Lib.hid (HSj.out.swap (i := j2) (j := a) (by omega) (by omega)).drew
                  obtain ⟨G9, HG9, hcw, hfw⟩ := HSj.out.fam hs3
                  have hs9 : (swp d3 j2 a).size = n := by rw [size_swp]; exact hs3
                  by_cases heq : j2 = a
                  · subst heq
                    go_wp2_with fail
                    go_region
                    all_goals go_wp2_with fail
                    go_ret2
                    exact ⟨j2, false, swp d3 j2 j2, rfl, HEN.1, HEN.2.1, hs9, HEN.2.2.1, HEN.2.2.2.1, HEN.2.2.2.2, by rw [HG9.out]; exact H9.out⟩
                  · go_wp2_with fail
                    go_region
                    all_goals go_wp2_with fail
                    go_ret2
                    exact ⟨j2, false, swp d3 j2 a, rfl, HEN.1, HEN.2.1, hs9, HEN.2.2.1, HEN.2.2.2.1, HEN.2.2.2.2, by rw [HG9.out, HG9.out]; exact H9.out⟩
                · have hgtz : ¬ (j2 : Int) < (i2 : Int) := by omega
                  have HSW := Lib.hid (HPj.out.1.swaps (by omega) (HPi.out.2 (by omega)) (HPj.out.2 (by omega)) (by omega))
                  have hlt2 := HSW.out.1
                  have H4 := Lib.hid (HSj.out.swap (i := i2) (j := j2) (by omega) (by omega)).drew
                  obtain ⟨G, HG, hcw, hfw⟩ := HSj.out.fam hs3
                  go_wp2_with fail
                  go_region
                  all_goals go_wp2_with fail
                  go_roundw
                  case rel => exact ⟨i2 + 1, j2 - 1, swp d3 i2 j2, by simp, by congr 1; omega, by rw [size_swp]; exact hs3, by rw [HG.out, HG.out]; exact H4, Lib.hid HSW.out.2, by omega, by omega, by omega⟩
                  case measure => simp [intOf]; omega
end Go.Proofs.YtadopbpfnnpnaaaGreat

/-
  slices.Sort over uint64: partitionEqualOrdered. (Made by gen_su7.py.)
-/
namespace Go.Proofs.YtadopbpfnnpnaaaGreat
open Go.RowKit Go.Sort

/-- So far parted: what stands ahead of i is not greater than the first one, what stands behind j is. -/
structure PartE (a b i j : Nat) (d dk : Array Int) : Prop where
  perm : PermIn a b d dk
  low : ∀ t, a ≤ t → t < i → ltInt dk[a]! dk[t]! = false
  high : ∀ t, j < t → t < b → ltInt dk[a]! dk[t]! = true
  ai : a < i
  ij : i ≤ j + 1
  jb : j < b
def RetPe (W0 : World) (g off N n a b : Nat) (d : Array Int) (x : Int) (e : Ending) (w' : World) : Prop := ∃ (m : Nat) (d' : Array Int), e = .returned (.int .i64 m) ∧ a < m ∧ m ≤ b ∧ d'.size = n ∧ PermIn a b d d' ∧ (∀ i, a ≤ i → i < m → ltInt x d'[i]! = false) ∧ (∀ i, m ≤ i → i < b → ltInt x d'[i]! = true) ∧ SU W0 w' g off N d'
section
variable {a b i j : Nat} {d dk : Array Int}
theorem PartE.up (h : PartE a b i j d dk) (hij : i ≤ j) (hl : ltInt dk[a]! dk[i]! = false) : PartE a b (i + 1) j d dk := ⟨h.perm, fun t h1 h2 => by
  by_cases e : t = i
  · rw [e]; exact hl
  · exact h.low t h1 (by omega), h.high, by have := h.ai; omega, by omega, h.jb⟩
theorem PartE.down (h : PartE a b i j d dk) (hij : i ≤ j) (hl : ltInt dk[a]! dk[j]! = true) : PartE a b i (j - 1) d dk := ⟨h.perm, h.low, fun t h1 h2 => by
  by_cases e : t = j
  · rw [e]; exact hl
  · exact h.high t (by omega) h2, h.ai, by omega, by have := h.jb; omega⟩
theorem PartE.swaps (h : PartE a b i j d dk) (hij : i ≤ j) (h1 : ltInt dk[a]! dk[i]! = true) (h2 : ltInt dk[a]! dk[j]! = false) (hb : b ≤ dk.size) : i < j ∧ PartE a b (i + 1) (j - 1) d (swp dk i j) ∧ (swp dk i j)[a]! = dk[a]! := by
  have h3 := h.ai
  have h4 := h.jb
  have hne : i ≠ j := fun e => by rw [e, h2] at h1; cases h1
  have ea : (swp dk i j)[a]! = dk[a]! := swp_other dk i j a (by omega) (by omega)
  refine ⟨by omega, ⟨permIn_trans _ _ _ _ _ h.perm (swp_permIn dk a b i j (by omega) (by omega) (by omega) h4 hb), fun t q1 q2 => ?_, fun t q1 q2 => ?_, by omega, by omega, by omega⟩, ea⟩
  · rw [ea]
    by_cases e : t = i
    · rw [e, swp_left dk i j (by omega) hne]; exact h2
    · by_cases e2 : t = j
      · omega
      · rw [swp_other dk i j t e e2]; exact h.low t q1 (by omega)
  · rw [ea]
    by_cases e : t = j
    · rw [e, swp_right dk i j (by omega)]; exact h1
    · rw [swp_other dk i j t (by omega) e]; exact h.high t (by omega) q2
end
set_option maxHeartbeats 32000000 in
set_option maxRecDepth 1000000 in
theorem parteq_u {W0 w : World} {g off N n cap a b pivot : Nat} {d : Array Int} (h : SU W0 w g off N d) (hn : d.size = n) (hap : a ≤ pivot) (hpb : pivot < b) (hb : b ≤ n) (hsz : n < 4611686018427387904) :
    Calls Tryz.prog 80 #[.slice (some ⟨g, off, none⟩) n cap, .int .i64 a, .int .i64 b, .int .i64 pivot] w (RetPe W0 g off N n a b d d[pivot]!) := by
  obtain ⟨d1, hd1⟩ : ∃ d1, d1 = swp d a pivot := ⟨_, rfl⟩
  have H1 := (h.swap (i := a) (j := pivot) (by omega) (by omega)).drew
  have hs1 : d1.size = n := by rw [hd1, size_swp]; exact hn
  obtain ⟨x, hx⟩ : ∃ x, x = d[pivot]! := ⟨_, rfl⟩
  have ha1 : d1[a]! = x := by
    rw [hd1, hx]
    by_cases e : a = pivot
    · subst e; exact swp_right d a a (by omega)
    · exact swp_left d a pivot (by omega) e
  have HP : Hid (PartE a b (a + 1) (b - 1) d d1) := Lib.hid ⟨by rw [hd1]; exact swp_permIn d a b a pivot (Nat.le_refl _) (by omega) hap hpb (by omega), fun t q1 q2 => (by rw [show t = a by omega]; unfold ltInt; simp), fun t q1 q2 => by omega, by omega, by omega, by omega⟩
  rw [← hx]
  have HD1 := Lib.hid hd1
  clear hd1
  have H := Lib.hid h
  have HA1 := Lib.hid ha1
  clear h ha1 hx
  obtain ⟨B1, hB1⟩ : ∃ B1, B1 = b - 1 := ⟨_, rfl⟩
  have hB1z : (b : Int) - 1 = (B1 : Int) := by omega
  rw [← hB1] at HP
  have haB : a ≤ B1 ∧ B1 < b := by omega
  clear hB1
  go_enter Tryz.func80, Tryz.ntmps80
  go_upto_region 1 with fail
  go_cut [] from 11 to 24 (fun wx => Hid (SU W0 wx g off N d1))
  case first =>
    obtain ⟨G, HG, hcw, hfw⟩ := H.out.fam hn
    repeat rw [← HG.out] at H1
    rw [← HD1.out] at H1
    by_cases heq : a = pivot
    · subst heq
      go_region
      all_goals go_wp2_with fail
      go_meet
      exact Lib.hid H1
    · go_region
      all_goals go_wp2_with fail
      go_meet
      exact Lib.hid H1
  case rest =>
    have HS1 := hcut
    clear H1
    go_wp2_with fail
    go_loopw [9, 10] (fun vi vj wr => ∃ (i j : Nat) (d3 : Array Int), vi = .int .i64 i ∧ vj = .int .i64 j ∧ d3.size = n ∧ Hid (SU W0 wr g off N d3) ∧ Hid (PartE a b i j d d3) ∧ a < i ∧ i ≤ j + 1 ∧ j < b ∧ Hid (d3[a]! = x)) (fun vi vj _ => (intOf vj).toNat + 1 - (intOf vi).toNat)
    case atStart => exact ⟨a + 1, B1, d1, by simp, rfl, hs1, HS1, HP, by omega, by omega, by omega, HA1⟩
    case round =>
      obtain ⟨i, j, d3, rfl, rfl, hs3, HS3, HP3, hai, hij, hjb, HX⟩ := hrel
      go_upto_block 2 with fail
      go_cut [9] from 29 to 45 (fun sx wx => ∃ i2 : Nat, sx = .int .i64 i2 ∧ Hid (SU W0 wx g off N d3) ∧ Hid (PartE a b i2 j d d3 ∧ (i2 ≤ j → ltInt d3[a]! d3[i2]! = true)) ∧ i ≤ i2 ∧ i2 ≤ j + 1)
      case first =>
        go_wp2_with fail
        go_loopw [9] (fun vi wr => ∃ i2 : Nat, vi = .int .i64 i2 ∧ Hid (SU W0 wr g off N d3) ∧ Hid (PartE a b i2 j d d3) ∧ i ≤ i2 ∧ i2 ≤ j + 1) (fun vi _ => j + 1 - (intOf vi).toNat)
        case atStart => exact ⟨i, rfl, HS3, HP3, by omega, by omega⟩
        case round =>
          obtain ⟨i2, rfl, HR, HQ, hb1, hb2⟩ := hrel
          have hai9 := HQ.out.ai
          by_cases hlt : i2 ≤ j
          · have hltz : (i2 : Int) ≤ (j : Int) := by omega
            obtain ⟨G, HG, hcw, hfw⟩ := HR.out.fam hs3
            go_wp2_with fail
            go_quiet (first | (go_at_call 79; refine Calls.quiet_of_same (less_u _ _ _)))
            go_wp2_with fail
            · have hl : ltInt (G a) (G i2) = false := by
                have : (!ltInt (G a) (G i2)) = true := by assumption
                simpa using this
              go_roundw
              case rel => exact ⟨i2 + 1, by simp, Lib.hid (HR.out.drewN nq), Lib.hid (HQ.out.up hlt (by rw [← HG.out, ← HG.out]; exact hl)), by omega, by omega⟩
              case measure => simp [intOf]; omega
            · have hl : ltInt (G a) (G i2) = true := by
                have : (!ltInt (G a) (G i2)) = false := by assumption
                simpa using this
              go_meet
              exact ⟨i2, rfl, Lib.hid (HR.out.drewN nq), Lib.hid ⟨HQ.out, fun _ => by rw [← HG.out, ← HG.out]; exact hl⟩, by omega, by omega⟩
          · have hltz : ¬ (i2 : Int) ≤ (j : Int) := by omega
            go_wp2_with fail
            go_quiet (fail)
            go_wp2_with fail
            go_meet
            exact ⟨i2, rfl, Lib.hid (HR.out.drewN nq), Lib.hid ⟨HQ.out, fun e => absurd e hlt⟩, by omega, by omega⟩
      case rest =>
        obtain ⟨i2, rfl, HSi, HPi, hai2, hij2⟩ := hcut
        go_upto_block 4 with fail
        go_cut [10] from 46 to 61 (fun sx wx => ∃ j2 : Nat, sx = .int .i64 j2 ∧ Hid (SU W0 wx g off N d3) ∧ Hid (PartE a b i2 j2 d d3 ∧ (i2 ≤ j2 → ltInt d3[a]! d3[j2]! = false)) ∧ j2 ≤ j ∧ i2 ≤ j2 + 1)
        case first =>
          go_wp2_with fail
          go_loopw [10] (fun vi wr => ∃ j2 : Nat, vi = .int .i64 j2 ∧ Hid (SU W0 wr g off N d3) ∧ Hid (PartE a b i2 j2 d d3) ∧ j2 ≤ j ∧ i2 ≤ j2 + 1) (fun vi _ => (intOf vi).toNat)
          case atStart => exact ⟨j, rfl, HSi, Lib.hid HPi.out.1, by omega, by omega⟩
          case round =>
            obtain ⟨j2, rfl, HR, HQ, hb1, hb2⟩ := hrel
            have hai9 := HQ.out.ai
            by_cases hlt : i2 ≤ j2
            · have hltz : (i2 : Int) ≤ (j2 : Int) := by omega
              obtain ⟨G, HG, hcw, hfw⟩ := HR.out.fam hs3
              go_wp2_with fail
              go_quiet (first | (go_at_call 79; refine Calls.quiet_of_same (less_u _ _ _)))
              go_wp2_with fail
              · have hl : ltInt (G a) (G j2) = true := by assumption
                go_roundw
                case rel => exact ⟨j2 - 1, by congr 1; omega, Lib.hid (HR.out.drewN nq), Lib.hid (HQ.out.down hlt (by rw [← HG.out, ← HG.out]; exact hl)), by omega, by omega⟩
                case measure => simp [intOf]; omega
              · have hl : ltInt (G a) (G j2) = false := by assumption
                go_meet
                exact ⟨j2, rfl, Lib.hid (HR.out.drewN nq), Lib.hid ⟨HQ.out, fun _ => by rw [← HG.out, ← HG.out]; exact hl⟩, by omega, by omega⟩
            · have hltz : ¬ (i2 : Int) ≤ (j2 : Int) := by omega
              go_wp2_with fail
              go_quiet (fail)
              go_wp2_with fail
              go_meet
              exact ⟨j2, rfl, Lib.hid (HR.out.drewN nq), Lib.hid ⟨HQ.out, fun e => absurd e hlt⟩, by omega, by omega⟩
        case rest =>
          obtain ⟨j2, rfl, HSj, HPj, hjj2, hij3⟩ := hcut
          by_cases hgt : j2 < i2
          · have hgtz : (j2 : Int) < (i2 : Int) := by omega
            have h9 := HPj.out.1
            have e9 : i2 = j2 + 1 := by omega
            go_wp2_with fail
            go_ret
            refine ⟨i2, d3, rfl, by omega, by omega, hs3, h9.perm, fun t q1 q2 => ?_, fun t q1 q2 => ?_, HSj.out⟩
            · rw [← HX.out]; exact h9.low t q1 q2
            · rw [← HX.out]; exact h9.high t (by omega) q2
          · have hgtz : ¬ (j2 : Int) < (i2 : Int) := by omega
            have HSW := Lib.hid (HPj.out.1.swaps (by omega) (HPi.out.2 (by omega)) (HPj.out.2 (by omega)) (by omega))
            have hlt2 := HSW.out.1
            have H4 := Lib.hid (HSj.out.swap (i := i2) (j := j2) (by omega) (by omega)).drew
            obtain ⟨G, HG, hcw, hfw⟩ := HSj.out.fam hs3
            go_wp2_with fail
            go_region
            all_goals go_wp2_with fail
            go_roundw
            case rel => exact ⟨i2 + 1, j2 - 1, swp d3 i2 j2, by simp, by congr 1; omega, by rw [size_swp]; exact hs3, by rw [HG.out, HG.out]; exact H4, Lib.hid HSW.out.2.1, by omega, by omega, by omega, Lib.hid (by rw [HSW.out.2.2]; exact HX.out)⟩
            case measure => simp [intOf]; omega
end Go.Proofs.YtadopbpfnnpnaaaGreat

