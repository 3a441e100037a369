import Derived.Test.YtcbmgdigidpbeaaKnown
import Derived.Deep.DeepCutAuto
namespace Go.Proofs.Ytcbmgdigidpbeaa.wordsFit
open Go.RowKit

theorem long (n s : Int) (p : Option Addr) (len cap : Nat) (w : World) (h : 12 < len) (h63 : (len : Int) ≤ 9223372036854775807) :
    Calls Try.prog 3 #[.int .u64 n, .int .i64 s, .slice p len cap] w fun e w' => e = .returned (.bool true) ∧ Gr w w' := by
  go_enter Try.func3, Try.ntmps3
  go_wp2_with fail
  refine (known_any _).mono ?_
  rintro e w' ⟨rfl, hg⟩
  go_wp2
  go_ret
  exact ⟨rfl, hg⟩

/-- What Get, Put and the like say of b, told apart by its length. -/
theorem getRE_no {xs : List Int} (h : xs.length = 0 ∨ 8 < xs.length) : getR xs = 0 ∧ getE xs = 2 := by
  have : mayB xs.length = false := mayB_no (by omega)
  simp [getR, getE, this]
theorem getRE_yes {xs : List Int} (h : 1 ≤ xs.length) (h8 : xs.length ≤ 8) : getR xs = Wd.dec xs ∧ getE xs = 0 := by
  have : mayB xs.length = true := mayB_yes (by omega) (by omega)
  simp [getR, getE, this]

set_option maxRecDepth 100000 in
set_option maxHeartbeats 1000000 in
theorem nofit_empty (n : Nat) (s : Int) (p : Option Addr) (len cap : Nat) (xs : List Int) (w : World) (hn : n ≤ 18446744073709551615) (hb : Byt w p len cap xs) (h : fitsB n s = false) (hl : len = 0 ∨ (8 < len ∧ len ≤ 12)) :
    Calls Try.prog 3 #[.int .u64 n, .int .i64 s, .slice p len cap] w fun e w' => e = .returned (.bool true) ∧ Gr w w' := by
  have HH := Lib.hid h
  have HB := Lib.hid hb
  have HGR := Lib.hid (getRE_no (xs := xs) (by have := hb.len; omega))
  have hl12 : len ≤ 12 := by omega
  clear h hb
  rcases hl with rfl | ⟨hl1, hl2⟩
  all_goals
    go_enter Try.func3, Try.ntmps3
    go_wp2_with fail
    refine (put_no n s _ HH.out).mono ?_
    rintro e w1 hr
    obtain ⟨q, d, rfl, g1⟩ := hr.nil
    have HB1 := Lib.hid (HB.out.kept g1)
    have HG1 := Lib.hid g1
    clear hr g1
    go_wp2_with fail
    refine (refMay_any n s _ hn).mono ?_
    rintro e w' ⟨rfl, rfl⟩
    rw [HH.out]
    go_wp2_with fail
    refine (no_yes _ _ _ _ _ rfl).mono ?_
    rintro e w' ⟨rfl, rfl⟩
    go_wp2_with fail
    refine (get_any _ _ _ _ _ HB1.out).mono ?_
    rintro e w' ⟨rfl, rfl⟩
    rw [HGR.out.1, HGR.out.2]
    go_wp2_with fail
    refine (known_any _).mono ?_
    rintro e w2 ⟨rfl, g2⟩
    go_wp2
    go_ret
    exact ⟨rfl, HG1.out.trans g2⟩

theorem conv_at {w : World} {p : Option Addr} {n c : Nat} {xs : List Int} (h : Byt w p n c xs) : (convert 23 9 (.slice p n c)).run Try.prog w = .ok (.string (strOfNums xs)) w :=
  h.lies.convert h.len c 23 5 9 Try.underlying23 Try.underlying5 Try.underlying9

theorem fits_dec {xs : List Int} {len : Nat} (hl : xs.length = len) (h1 : 1 ≤ len) (h2 : len ≤ 8) (hs : Wd.Small xs) : fitsB (Wd.dec xs) len = true := by
  have := Wd.dec_lt xs hs
  subst hl
  simp only [fitsB, Bool.and_eq_true, decide_eq_true_eq, Int.toNat_natCast]
  exact ⟨mayB_yes (by omega) (by omega), this⟩

set_option maxRecDepth 100000 in
set_option maxHeartbeats 1000000 in
theorem nofit_some (n : Nat) (s : Int) (p : Option Addr) (len cap : Nat) (xs : List Int) (w : World) (hn : n ≤ 18446744073709551615) (hb : Byt w p len cap xs) (h : fitsB n s = false) (hl1 : 1 ≤ len) (hl2 : len ≤ 8) :
    Calls Try.prog 3 #[.int .u64 n, .int .i64 s, .slice p len cap] w fun e w' => e = .returned (.bool true) ∧ Gr w w' := by
  have HH := Lib.hid h
  have HB := Lib.hid hb
  have HGR := Lib.hid (getRE_yes (xs := xs) (by have := hb.len; omega) (by have := hb.len; omega))
  have HF := Lib.hid (fits_dec hb.len hl1 hl2 hb.small)
  have h0 : ((len : Int) == 0) = false := by simp; omega
  have HE : Hid (Wd.enc len (Wd.dec xs) = xs) := by
    have := Wd.enc_dec xs hb.small
    rw [hb.len] at this
    exact this
  clear h hb
  go_enter Try.func3, Try.ntmps3
  go_wp2_with fail
  refine (put_no n s _ HH.out).mono ?_
  rintro e w1 hr
  obtain ⟨q, d, rfl, g1⟩ := hr.nil
  have HB1 := Lib.hid (HB.out.kept g1)
  have HG1 := Lib.hid g1
  clear hr g1
  go_wp2_with fail
  refine (refMay_any n s _ hn).mono ?_
  rintro e w' ⟨rfl, rfl⟩
  rw [HH.out]
  go_wp2_with fail
  refine (no_yes _ _ _ _ _ rfl).mono ?_
  rintro e w' ⟨rfl, rfl⟩
  go_wp2_with fail
  refine (get_any _ _ _ _ _ HB1.out).mono ?_
  rintro e w' ⟨rfl, rfl⟩
  rw [HGR.out.1, HGR.out.2]
  go_wp2_with fail
  refine (put_yes (Wd.dec xs) len _ HF.out).mono ?_
  rintro e w2 ⟨q3, m3, d3, rfl, hby3, g3, _⟩
  rw [HE.out] at hby3
  have hc4 := conv_at hby3
  have hc5 := conv_at (HB1.out.kept g3)
  have HB2 := Lib.hid (HB1.out.kept g3)
  have HG2 := Lib.hid (HG1.out.trans g3)
  clear hby3 g3
  go_wp2_with fail
  refine (refGet_any _ _ _ _ _ HB2.out hl2).mono ?_
  rintro e w' ⟨rfl, rfl⟩
  go_wp2_with fail
  refine (known_any _).mono ?_
  rintro e w3 ⟨rfl, g4⟩
  go_wp2
  go_ret
  exact ⟨rfl, HG2.out.trans g4⟩

set_option maxRecDepth 100000 in
set_option maxHeartbeats 4000000 in
theorem fit_any (n k : Nat) (p : Option Addr) (len cap : Nat) (xs : List Int) (w : World) (hn : n ≤ 18446744073709551615) (hb : Byt w p len cap xs) (h : fitsB n k = true) (hk8 : k ≤ 8) (hl12 : len ≤ 12) :
    Calls Try.prog 3 #[.int .u64 n, .int .i64 k, .slice p len cap] w fun e w' => e = .returned (.bool true) ∧ Gr w w' := by
  have HH := Lib.hid h
  have HB := Lib.hid hb
  clear h hb
  go_enter Try.func3, Try.ntmps3
  go_wp2_with fail
  refine (put_yes n k _ HH.out).mono ?_
  rintro e w0 ⟨q, m, d, rfl, hby, g1, _⟩
  have HQ := Lib.hid hby
  have HG0 := Lib.hid g1
  clear hby g1
  go_wp2_with fail
  refine (refMay_any n k _ hn).mono ?_
  rintro e w' ⟨rfl, rfl⟩
  rw [HH.out]
  go_upto_region 7 with fail
  go_cut [41] (fun s41 wx => s41 = .bool false ∧ Hid (Byt wx p len cap xs) ∧ Hid (Gr w wx))
  case first =>
    have hc1 := conv_at (HQ.out.heap (w' := w0.drew) rfl)
    obtain ⟨S, hS⟩ : ∃ S, S = strOfNums (Wd.enc k n) := ⟨_, rfl⟩
    rw [← hS] at hc1
    have HS := Lib.hid hS
    clear hS
    have HP := Lib.hid (refPut_any n k w0.drew hn hk8)
    have HQ0 := Lib.hid (HQ.out.heap (w' := w0.drew) rfl)
    go_region_with (go_at_call 12; refine HP.out.mono ?_; rintro e w1 ⟨q2, m2, d2, rfl, hby2, g2, hfar2⟩; have HT := Lib.hid (And.intro hby2 g2); clear hby2 g2 hfar2; have hc3 := conv_at HT.out.1; have hc2 := conv_at (HQ0.out.kept HT.out.2); rw [← HS.out] at hc3 hc2)
    all_goals
      go_wp2_with fail
      go_meet
      have hg : Gr w w1 := HG0.out.trans (((Below.refl _ _).drew).trans HT.out.2)
      exact ⟨rfl, HB.out.kept hg, hg⟩
  case rest =>
    obtain ⟨rfl, HB1, HG1⟩ := hcut
    by_cases hz : len = 0 ∨ 8 < len
    · have HGR := Lib.hid (getRE_no (xs := xs) (by have := HB.out.len; omega))
      rcases hz with rfl | hl8
      all_goals
          go_wp2_with fail
          refine (get_any _ _ _ _ _ HB1.out).mono ?_
          rintro e w' ⟨rfl, rfl⟩
          rw [HGR.out.1, HGR.out.2]
          go_wp2_with fail
          refine (known_any _).mono ?_
          rintro e w2 ⟨rfl, g2⟩
          go_wp2
          go_ret
          exact ⟨rfl, HG1.out.trans g2⟩
    · have hl1 : 1 ≤ len := by omega
      have hl2 : len ≤ 8 := by omega
      have HGR := Lib.hid (getRE_yes (xs := xs) (by have := HB.out.len; omega) (by have := HB.out.len; omega))
      have HF := Lib.hid (fits_dec HB.out.len hl1 hl2 HB.out.small)
      have h0 : ((len : Int) == 0) = false := by simp; omega
      have HE : Hid (Wd.enc len (Wd.dec xs) = xs) := by
        have := Wd.enc_dec xs HB.out.small
        rw [HB.out.len] at this
        exact this
      clear hz
      go_wp2_with fail
      refine (get_any _ _ _ _ _ HB1.out).mono ?_
      rintro e w' ⟨rfl, rfl⟩
      rw [HGR.out.1, HGR.out.2]
      go_wp2_with fail
      refine (put_yes (Wd.dec xs) len _ HF.out).mono ?_
      rintro e w2 ⟨q3, m3, d3, rfl, hby3, g3, _⟩
      rw [HE.out] at hby3
      have hc4 := conv_at hby3
      have hc5 := conv_at (HB1.out.kept g3)
      have HB2 := Lib.hid (HB1.out.kept g3)
      have HG2 := Lib.hid (HG1.out.trans g3)
      clear hby3 g3
      go_wp2_with fail
      refine (refGet_any _ _ _ _ _ HB2.out hl2).mono ?_
      rintro e w' ⟨rfl, rfl⟩
      go_wp2_with fail
      refine (known_any _).mono ?_
      rintro e w3 ⟨rfl, g4⟩
      go_wp2
      go_ret
      exact ⟨rfl, HG2.out.trans g4⟩

theorem walk (n s : Int) (p : Option Addr) (len cap : Nat) (xs : List Int) (w : World) (h0 : 0 ≤ n) (hn : n ≤ 18446744073709551615) (hb : Byt w p len cap xs) :
    Calls Try.prog 3 #[.int .u64 n, .int .i64 s, .slice p len cap] w fun e w' => e = .returned (.bool true) ∧ Gr w w' := by
  obtain ⟨N, rfl⟩ := Int.eq_ofNat_of_zero_le h0
  have hN : N ≤ 18446744073709551615 := by omega
  by_cases h12 : 12 < len
  · exact long N s p len cap w h12 (by have := hb.cap; have := hb.most; unfold maxLen at this; omega)
  by_cases hf : fitsB N s = true
  · have hk : 1 ≤ s ∧ s ≤ 8 := by
      simp only [fitsB, Bool.and_eq_true, mayB_iff] at hf
      omega
    obtain ⟨k, rfl⟩ := Int.eq_ofNat_of_zero_le (show 0 ≤ s by omega)
    exact fit_any N k p len cap xs w hN hb hf (by omega) (by omega)
  · have hf : fitsB N s = false := by simpa using hf
    by_cases hz : len = 0 ∨ 8 < len
    · exact nofit_empty N s p len cap xs w hN hb hf (by omega)
    · exact nofit_some N s p len cap xs w hN hb hf (by omega) (by omega)

end Go.Proofs.Ytcbmgdigidpbeaa.wordsFit
