import Derived.Test.YtcbmgdigidpbeaaRef3
import Derived.Deep.CutBlock
import Derived.Deep.QuietTactic
import Derived.BigQuiet
namespace Go.Proofs.Ytcbmgdigidpbeaa.wordsBeside
open Go.RowKit

/-- Two slices in a new block. -/
theorem rows_two {w W : World} {t : TypeId} {p1 p2 : Option Addr} {n1 n2 c1 c2 : Nat} {x1 x2 : List Int} (h1 : Byt w p1 n1 c1 x1) (h2 : Byt w p2 n2 c2 x2)
    (hW : W.heap = (w.alloc (.cells #[.slice p1 n1 c1, .slice p2 n2 c2] t)).heap) : Rows W (some ⟨w.heap.size, 0, none⟩) 2 2 [x1, x2] := by
  have hg := (Below.refl w.heap.size w).alloc (Nat.le_refl _) (.cells #[.slice p1 n1 c1, .slice p2 n2 c2] t)
  have g1 := (h1.kept hg).heap hW
  have g2 := (h2.kept hg).heap hW
  have hc : ∀ i, W.cell? ⟨w.heap.size, i, none⟩ = (#[.slice p1 n1 c1, .slice p2 n2 c2] : Array Value)[i]? := fun i => by
    rw [← World.cell?_alloc_at (w := w) #[.slice p1 n1 c1, .slice p2 n2 c2] t w.heap.size i rfl]
    exact World.cell?_of_block (w := w.alloc _) (by rw [hW])
  refine ⟨rfl, Nat.le_refl _, by simp only [maxLen]; omega, fun _ => ⟨_, 0, rfl, fun i hi => ?_⟩, fun h => by cases h⟩
  have : i = 0 ∨ i = 1 := by omega
  rcases this with rfl | rfl
  · exact ⟨p1, n1, c1, hc 0, g1⟩
  · exact ⟨p2, n2, c2, hc 1, g2⟩

theorem much (n s m r : Int) (p : Option Addr) (len cap : Nat) (xss : List (List Int)) (w : World) (h : Rows w p len cap xss) (hm : muchB xss 2000 = true) :
    Calls Try.prog 6 #[.int .u64 n, .int .i64 s, .int .u64 m, .int .i64 r, .slice p len cap] w fun e w' => e = .returned (.bool true) ∧ Gr w w' := by
  have HM := Lib.hid hm
  have HC : Hid (Calls Try.prog 20 #[.slice p len cap, .int .i64 2000] w fun e w' => e = .returned (.bool (muchB xss 2000)) ∧ w = w') := refMuch_any p len cap xss 2000 w h (by omega)
  clear hm h
  go_enter Try.func6, Try.ntmps6
  go_wp2_with fail
  refine HC.out.mono ?_
  rintro e w' ⟨rfl, rfl⟩
  rw [HM.out]
  go_wp2_with fail
  refine (known_any _).mono ?_
  rintro e w' ⟨rfl, hg⟩
  go_wp2
  go_ret
  exact ⟨rfl, hg⟩

/-- The bytes of lists that are joined, place by place. -/
theorem flat_at (xss : List (List Int)) (k : Nat) (hk : k < xss.length) : ∀ j, j < (xss.getD k []).length → xss.flatten.getD (tot (xss.take k) + j) 0 = (xss.getD k []).getD j 0 := by
  intro j hj
  have h : xss.flatten = (xss.take k).flatten ++ (xss.getD k [] ++ (xss.drop (k + 1)).flatten) := by
    have h1 : xss = xss.take k ++ xss.drop k := (List.take_append_drop k xss).symm
    have h2 : xss.drop k = xss[k] :: xss.drop (k + 1) := List.drop_eq_getElem_cons hk
    have h3 : xss.getD k [] = xss[k] := by simp [List.getD, hk]
    rw [h3]
    have h4 : xss.flatten = (xss.take k).flatten ++ (xss.drop k).flatten := by rw [← List.flatten_append, List.take_append_drop]
    rw [h4, h2, List.flatten_cons]
  rw [h]
  generalize xss.getD k [] = ys at *
  simp only [List.getD]
  rw [List.getElem?_append_right (by unfold tot; omega)]
  unfold tot
  rw [Nat.add_sub_cancel_left, List.getElem?_append_left hj]

/-- Do the two words stand beside one another in one? -/
def bothB (n : Nat) (s : Int) (m : Nat) (r : Int) : Bool := fitsB n s && fitsB m r && decide (s + r ≤ 8)

theorem fits_size {n : Nat} {s : Int} (h : fitsB n s = true) : 1 ≤ s ∧ s ≤ 8 := by
  simp only [fitsB, Bool.and_eq_true, mayB_iff] at h
  omega

theorem both_dec {n m k r : Nat} (h : fitsB n k = true) (h2 : fitsB m r = true) (h8 : k + r ≤ 8) :
    ∃ Z : Nat, getR (Wd.enc k n ++ Wd.enc r m) = Z ∧ getE (Wd.enc k n ++ Wd.enc r m) = 0 ∧ IntKind.u64.wrap ((n : Int) + IntKind.u64.wrap ((m : Int) * 2 ^ (8 * k))) = (Z : Int) := by
  have a1 := fits_size h
  have a2 := fits_size h2
  have hl : (Wd.enc k n ++ Wd.enc r m).length = k + r := by simp [Wd.enc_length]
  have hmay : mayB (Wd.enc k n ++ Wd.enc r m).length = true := mayB_yes (by omega) (by omega)
  simp only [fitsB, Bool.and_eq_true, decide_eq_true_eq, Int.toNat_natCast] at h h2
  have hd : Wd.dec (Wd.enc k n ++ Wd.enc r m) = n + 256 ^ k * m := by
    rw [Wd.dec_append, Wd.dec_enc, Wd.dec_enc, Wd.enc_length, Nat.mod_eq_of_lt h.2, Nat.mod_eq_of_lt h2.2]
  have hlt := Wd.dec_lt (Wd.enc k n ++ Wd.enc r m) ((Wd.enc_small _ _).app (Wd.enc_small _ _))
  rw [hd, hl] at hlt
  have hp : 256 ^ (k + r) ≤ 256 ^ 8 := Nat.pow_le_pow_right (by omega) (by omega)
  have e8 : (256 : Nat) ^ 8 = 18446744073709551616 := by decide
  rw [e8] at hp
  refine ⟨n + 256 ^ k * m, by rw [getR, if_pos hmay, hd], by rw [getE, if_pos hmay], ?_⟩
  have e2 : ((m : Int) * 2 ^ (8 * k)) = ((256 ^ k * m : Nat) : Int) := by rw [Wd.pow256, Int.natCast_mul, Int.natCast_pow, Int.mul_comm]; rfl
  rw [e2, IntWalk.u64_in ((256 ^ k * m : Nat) : Int) (by omega), IntWalk.u64_in _ (by omega)]
  omega

set_option maxRecDepth 100000 in
set_option maxHeartbeats 4000000 in
theorem little (n : Nat) (s : Int) (m : Nat) (r : Int) (p : Option Addr) (len cap : Nat) (xss : List (List Int)) (w : World) (hn : n ≤ 18446744073709551615) (hm : m ≤ 18446744073709551615) (h : Rows w p len cap xss) (hmu : muchB xss 2000 = false) :
    Calls Try.prog 6 #[.int .u64 n, .int .i64 s, .int .u64 m, .int .i64 r, .slice p len cap] w fun e w' => e = .returned (.bool true) ∧ Gr w w' := by
  have HM := Lib.hid hmu
  have HR := Lib.hid h
  have htot : tot xss ≤ 2000 := by simp only [muchB, decide_eq_false_iff_not] at hmu; omega
  have hlen : len ≤ 2000 := by simp only [muchB, decide_eq_false_iff_not] at hmu; have := h.len; omega
  have HC : Hid (Calls Try.prog 20 #[.slice p len cap, .int .i64 2000] w fun e w' => e = .returned (.bool (muchB xss 2000)) ∧ w = w') := refMuch_any p len cap xss 2000 w h (by omega)
  clear hmu h
  go_enter Try.func6, Try.ntmps6
  go_wp2_with fail
  refine HC.out.mono ?_
  rintro e w' ⟨rfl, rfl⟩
  rw [HM.out]
  go_upto_region 3 with fail
  go_cut [38] (fun s38 wx => s38 = .bool (bothB n s m r) ∧ w = wx)
  case first =>
    by_cases f1 : fitsB n s = true
    · have a1 := fits_size f1
      by_cases f2 : fitsB m r = true
      · have a2 := fits_size f2
        by_cases h8 : s + r ≤ 8
        all_goals
          have HB : Hid (bothB n s m r = decide (s + r ≤ 8)) := by show _ = _; simp [bothB, f1, f2]
          have F1 := Lib.hid f1
          have F2 := Lib.hid f2
          clear f1 f2
          go_wp2_with fail
          refine (refMay_any _ _ _ hn).mono ?_
          rintro e w' ⟨rfl, rfl⟩
          rw [F1.out]
          go_wp2_with fail
          refine (refMay_any _ _ _ hm).mono ?_
          rintro e w' ⟨rfl, rfl⟩
          rw [F2.out]
          go_wp2_with fail
          go_meet
          refine ⟨?_, rfl⟩
          first | (rw [HB.out]; done) | (rw [HB.out]; rfl) | (rw [HB.out]; simp; omega)
      · have f2 : fitsB m r = false := by simpa using f2
        have HB : Hid (bothB n s m r = false) := by show _ = _; simp [bothB, f2]
        have F1 := Lib.hid f1
        have F2 := Lib.hid f2
        clear f1 f2
        go_wp2_with fail
        refine (refMay_any _ _ _ hn).mono ?_
        rintro e w' ⟨rfl, rfl⟩
        rw [F1.out]
        go_wp2_with fail
        refine (refMay_any _ _ _ hm).mono ?_
        rintro e w' ⟨rfl, rfl⟩
        rw [F2.out]
        go_wp2_with fail
        go_meet
        exact ⟨by rw [HB.out], rfl⟩
    · have f1 : fitsB n s = false := by simpa using f1
      have HB : Hid (bothB n s m r = false) := by show _ = _; simp [bothB, f1]
      have F1 := Lib.hid f1
      clear f1
      go_wp2_with fail
      refine (refMay_any _ _ _ hn).mono ?_
      rintro e w' ⟨rfl, rfl⟩
      rw [F1.out]
      go_wp2_with fail
      go_meet
      exact ⟨by rw [HB.out], rfl⟩
  case rest =>
    obtain ⟨rfl, rfl⟩ := hcut
    go_upto_if 38 with fail
    go_cut [10] (fun s10 wx => Hid (Gr w wx))
    case first =>
      cases hb : bothB n s m r
      · go_wp2
        go_meet
        exact Gr.refl _
      · simp only [bothB, Bool.and_eq_true, decide_eq_true_eq] at hb
        obtain ⟨⟨f1, f2⟩, h8⟩ := hb
        have a1 := fits_size f1
        have a2 := fits_size f2
        obtain ⟨k, rfl⟩ := Int.eq_ofNat_of_zero_le (show 0 ≤ s by omega)
        obtain ⟨l, rfl⟩ := Int.eq_ofNat_of_zero_le (show 0 ≤ r by omega)
        have hkl : k + l ≤ 8 := by omega
        obtain ⟨Z, hZ1, hZ2, hZ3⟩ := both_dec f1 f2 hkl
        have HD := Lib.hid (And.intro hZ1 hZ2)
        clear hZ1 hZ2
        have F1 := Lib.hid f1
        have F2 := Lib.hid f2
        clear f1 f2 h8 a1 a2
        go_wp2_with fail
        refine (put_yes n k _ F1.out).mono ?_
        rintro e w1 ⟨p1, n1, c1, rfl, hb1, g1, _⟩
        have HB1 := Lib.hid hb1
        have HG1 := Lib.hid g1
        clear hb1 g1
        go_wp2_with fail
        refine (put_yes m l _ F2.out).mono ?_
        rintro e w2 ⟨p2, n2, c2, rfl, hb2, g2, _⟩
        have HB2 := Lib.hid hb2
        have HB12 := Lib.hid (HB1.out.kept g2)
        have HG2 := Lib.hid (HG1.out.trans g2)
        clear hb2 g2 HB1 HG1
        go_wp2_with fail
        have HRW : Hid (Rows (w2.alloc (.cells #[.slice p1 n1 c1, .slice p2 n2 c2] 23)) (some ⟨w2.heap.size, 0, none⟩) 2 2 [Wd.enc k n, Wd.enc l m]) := rows_two HB12.out HB2.out rfl
        have HTT : Hid (tot [Wd.enc k n, Wd.enc l m] ≤ 140737488355328) := by show _ ≤ _; simp only [tot, List.flatten_cons, List.flatten_nil, List.length_append, List.length_nil, Wd.enc_length]; omega
        refine (join_any _ _ _ _ _ HRW.out HTT.out).mono ?_
        rintro e w3 ⟨p3, n3, c3, rfl, hb3, g3, _⟩
        have hfl : [Wd.enc k n, Wd.enc l m].flatten = Wd.enc k n ++ Wd.enc l m := by simp
        rw [hfl] at hb3
        obtain rfl : n3 = k + l := by rw [← hb3.len]; simp [Wd.enc_length]
        have HB3 := Lib.hid hb3
        have HG3 : Hid (Gr w w3) := (gr_alloc HG2.out _).trans g3
        clear hb3 g3 hfl
        go_wp2_with fail
        refine (get_any _ _ _ _ _ HB3.out).mono ?_
        rintro e w' ⟨rfl, rfl⟩
        rw [HD.out.1, HD.out.2]
        go_wp2_with fail
        go_meet
        exact HG3.out
    case rest =>
      have HG0 := Lib.hid hcut
      have HR0 := Lib.hid (HR.out.kept HG0.out)
      clear hcut
      go_wp2_with fail
      refine (join_any _ _ _ _ _ HR0.out (by omega)).mono ?_
      rintro e w1 ⟨q, N, d, rfl, hb1, g1, _⟩
      have HB := Lib.hid hb1
      have HG := Lib.hid (HG0.out.trans g1)
      have HRR := Lib.hid (HR0.out.kept g1)
      have hN : N = tot xss := by rw [← hb1.len]; rfl
      have hN2 : N ≤ 2000 := by omega
      have HN := Lib.hid hN
      clear hb1 g1 hN
      go_wp2_with fail
      go_loopw [19, 20] (fun t i wr => ∃ k : Nat, k ≤ len ∧ i = .int .i64 k ∧ t = .int .i64 (tot (xss.take k) : Nat) ∧ Hid (Gr w1 wr)) (fun _ i _ => len - (intOf i).toNat)
      case atStart => exact ⟨0, Nat.zero_le _, rfl, rfl, Gr.refl _⟩
      case round =>
        obtain ⟨k, hk, rfl, rfl, hg⟩ := hrel
        obtain ⟨wo, rfl⟩ : ∃ wo : World, wo = wr := ⟨_, rfl⟩
        by_cases hlt : k < len
        · obtain ⟨b, o, rfl, hc0⟩ := HRR.out.lies (by omega)
          obtain ⟨q0, m0, d0, hcell0, hby0⟩ := hc0 k hlt
          have HK0 := Lib.hid hcell0
          have HY0 := Lib.hid hby0
          have hts := tot_succ xss k m0 (by rw [HR.out.len]; exact hlt) hby0.len
          have htl := tot_le xss (k + 1)
          have hfl := Lib.hid (flat_at xss k (by rw [HR.out.len]; exact hlt))
          have hm0 : tot (xss.take k) + m0 ≤ N := by rw [HN.out]; omega
          have HTS := Lib.hid hts
          have HYL := Lib.hid hby0.len
          clear hc0 hcell0 hby0 hts htl
          obtain ⟨T, hT⟩ : ∃ T, T = tot (xss.take k) := ⟨_, rfl⟩
          rw [← hT] at hm0 HTS hfl ⊢
          clear hT
          go_wp2_with fail
          go_loopw [19, 21] (fun t i wr => ∃ j : Nat, j ≤ m0 ∧ i = .int .i64 j ∧ t = .int .i64 ((T + j : Nat) : Int) ∧ Hid (Gr w1 wr)) (fun _ i _ => m0 - (intOf i).toNat)
          case atStart => exact ⟨0, Nat.zero_le _, rfl, rfl, hg⟩
          case round =>
            obtain ⟨j, hj, rfl, rfl, hg2⟩ := hrel
            have hcell : wr.cell? ⟨b, o + k, none⟩ = some (.slice q0 m0 d0) := by rw [hg2.out.cell (blk_lt HK0.out)]; exact HK0.out
            have hi1 : (0 : Int) ≤ (k : Int) := by omega
            have hi2 : (k : Int) < (len : Int) := by omega
            by_cases hlj : j < m0
            · obtain ⟨b2, o2, rfl, hc2⟩ := (HB.out.kept hg2.out).at (by omega)
              obtain ⟨b3, o3, rfl, hc3⟩ := (HY0.out.kept hg2.out).at (by omega)
              have hcell2 := hc2 (T + j) (by omega)
              have hcell3 := hc3 j hlj
              rw [hfl.out j (by rw [HYL.out]; exact hlj)] at hcell2
              have hi3 : (0 : Int) ≤ (j : Int) := by omega
              have hi4 : (j : Int) < (m0 : Int) := by omega
              have hi5 : (0 : Int) ≤ (T : Int) + (j : Int) := by omega
              have hi6 : (T : Int) + (j : Int) < (N : Int) := by omega
              have hgd : decide ((N : Int) ≤ (T : Int) + (j : Int)) = false := by simp; omega
              clear hc2 hc3
              generalize (xss.getD k []).getD j 0 = V at *
              go_wp2_with fail
              go_quiet (fail)
              go_wp2
              go_roundw
              case rel => exact ⟨j + 1, by omega, by go_num, by go_num, below_drewN hg2.out _⟩
              case measure => simp [intOf]; omega
            · obtain rfl : j = m0 := by omega
              go_wp2
              go_roundw
              case rel => exact ⟨k + 1, by omega, by go_num, by rw [HTS.out], hg2⟩
              case measure => simp [intOf]; omega
        · obtain rfl : k = len := by omega
          have hall : xss.take k = xss := List.take_of_length_le (by rw [HR.out.len]; exact Nat.le_refl _)
          rw [hall, ← HN.out]
          clear hall
          have HR2 := Lib.hid (HRR.out.kept hg.out)
          have HB2 := Lib.hid (HB.out.kept hg.out)
          have HG2 := Lib.hid (HG.out.trans hg.out)
          go_wp2_with fail
          refine (refJoin_any _ _ _ _ _ HR2.out (by omega)).mono ?_
          rintro e w2 ⟨q2, N2, d2, rfl, hb2, g2, _⟩
          have HB3 := Lib.hid (HB2.out.kept g2)
          have HC2 := Lib.hid hb2
          have HG3 := Lib.hid (HG2.out.trans g2)
          clear hb2 g2
          go_wp2_with fail
          refine (same_any _ _ _ _ _ _ _ _ _ HB3.out HC2.out).mono ?_
          rintro e w' ⟨rfl, rfl⟩
          have hd : decide (xss.flatten = xss.flatten) = true := by simp
          rw [hd]
          clear hd
          go_wp2_with fail
          refine (known_any _).mono ?_
          rintro e w4 ⟨rfl, g4⟩
          go_wp2
          go_ret
          exact ⟨rfl, HG3.out.trans g4⟩

theorem walk (n s m r : Int) (p : Option Addr) (len cap : Nat) (xss : List (List Int)) (w : World) (hn : 0 ≤ n ∧ n ≤ 18446744073709551615) (hm : 0 ≤ m ∧ m ≤ 18446744073709551615) (h : Rows w p len cap xss) :
    Calls Try.prog 6 #[.int .u64 n, .int .i64 s, .int .u64 m, .int .i64 r, .slice p len cap] w fun e w' => e = .returned (.bool true) ∧ Gr w w' := by
  obtain ⟨N, rfl⟩ := Int.eq_ofNat_of_zero_le hn.1
  obtain ⟨M, rfl⟩ := Int.eq_ofNat_of_zero_le hm.1
  by_cases hmu : muchB xss 2000 = true
  · exact much N s M r p len cap xss w h hmu
  · exact little N s M r p len cap xss w (by omega) (by omega) h (by simpa using hmu)

end Go.Proofs.Ytcbmgdigidpbeaa.wordsBeside
