import Derived.Test.YtcbmgdigidpbeaaHex3
namespace Go.Proofs.Ytcbmgdigidpbeaa
open Go.RowKit

/-- A text's bytes, as numbers. -/
def nums (s : ByteArray) : List Int := s.data.toList.map fun b => (b.toNat : Int)
theorem nums_length (s : ByteArray) : (nums s).length = s.size := by
  unfold nums
  rw [List.length_map, Array.length_toList]
  rfl
theorem nums_small (s : ByteArray) : Wd.Small (nums s) := fun x hx => by
  simp only [nums, List.mem_map] at hx
  obtain ⟨b, _, rfl⟩ := hx
  have := b.toNat_lt
  omega
theorem nums_get (s : ByteArray) (i : Nat) (h : i < s.size) : ((s[i]'h).toNat : Int) = (nums s).getD i 0 := by
  have h3 : i < s.data.size := h
  simp only [nums, List.getD, List.getElem?_map, Array.getElem?_toList, Array.getElem?_eq_getElem h3, ByteArray.getElem_eq_getElem_data]
  rfl

/-- The bytes of the first k pairs of signs. -/
def unhL (l : List Int) (k : Nat) : List Int := (List.range k).map fun i => 16 * four (l.getD (2 * i) 0) + four (l.getD (2 * i + 1) 0)
theorem unhL_length (l : List Int) (k : Nat) : (unhL l k).length = k := by simp [unhL]
theorem unhL_succ (l : List Int) (k : Nat) : unhL l (k + 1) = unhL l k ++ [16 * four (l.getD (2 * k) 0) + four (l.getD (2 * k + 1) 0)] := by simp [unhL, List.range_succ]

/-- All are signs, of whole bytes. -/
def signsOk (l : List Int) : Bool := decide (l.length % 2 = 0) && l.all fun c => decide (four c < 16)
def unhexR (l : List Int) : List Int := if signsOk l then unhL l (l.length / 2) else []
def unhexE (l : List Int) : Int := if signsOk l then 0 else 4

theorem signsOk_no {l : List Int} {i : Nat} (hi : i < l.length) (h : 16 ≤ four (l.getD i 0)) : signsOk l = false := by
  simp only [signsOk, Bool.and_eq_false_iff]
  right
  rw [List.all_eq_false]
  refine ⟨l[i], List.getElem_mem hi, ?_⟩
  simpa [List.getD, hi] using h

theorem four_range (c : Int) : 0 ≤ four c ∧ four c ≤ 16 := by
  unfold four
  repeat' split
  all_goals omega
theorem idxR_yes {c : Int} (h : four c < 16) : idxR c = four c := by simp [idxR, h]
theorem idxR_no {c : Int} (h : ¬ four c < 16) : idxR c = -1 := by simp [idxR, h]

theorem or_first {f : Int} (h : 0 ≤ f) (h2 : f < 16) : bits BinOp.or IntKind.u8 0 f = f := by
  obtain ⟨F, rfl⟩ := Int.eq_ofNat_of_zero_le h
  have := u8_or_nat 0 F (by omega) (by omega)
  rw [Nat.zero_or] at this
  exact this
theorem or_second {f g : Int} (h : 0 ≤ f) (h2 : f < 16) (k : 0 ≤ g) (k2 : g < 16) : bits BinOp.or IntKind.u8 (f * 16) g = 16 * f + g := by
  obtain ⟨F, rfl⟩ := Int.eq_ofNat_of_zero_le h
  obtain ⟨G, rfl⟩ := Int.eq_ofNat_of_zero_le k
  have e : ((F : Int) * 16) = ((16 * F : Nat) : Int) := by omega
  rw [e, u8_or_nat _ _ (by omega) (by omega), nat_join 4 _ _ (by omega) (by omega)]
  simp

set_option maxHeartbeats 800000 in
theorem unhex_any (s : ByteArray) (w : World) (hbig : s.size ≤ 140737488355328) : Calls Try.prog 25 #[.string s] w (RetBytes (unhexE (nums s)) (unhexR (nums s)) w) := by
  obtain ⟨i0, hi, hz0, hz1, hz2⟩ := info_parts bt.info
  have HI := Lib.hid hi
  have HZ0 := Lib.hid hz0
  have HZ1 := Lib.hid hz1
  have HZ2 := Lib.hid hz2
  clear hi hz0 hz1 hz2
  obtain ⟨H, hH⟩ : ∃ H, H = s.size / 2 := ⟨_, rfl⟩
  have hH1 : 2 * H ≤ s.size := by omega
  have hH2 : s.size ≤ 2 * H + 1 := by omega
  have hHI : ((s.size : Int) / 2) = (H : Int) := by omega
  clear hH
  go_enter Try.func25, Try.ntmps25
  go_wp2_with fail
  go_step3
  go_wp2_with (at_make; refine wpList_make_own _ rfl _ _ 23 rfl w.heap.size 5 i0 (.int .u8 0) 1 Try.underlying23 HI.out HZ0.out HZ1.out _ _ _ H rfl rfl (by omega) ?b1 ?b2 ?b3 ?_)
  case b1 => rw [HZ2.out]; omega
  case b2 => simp only [maxLen]; omega
  case b3 => exact Nat.le_refl _
  intro w1 hown hgr
  have HB : Hid (Below w.heap.size w w1) := (Below.refl _ _).grown hgr (Nat.le_refl _) (fun _ h => by cases h)
  have HO : Hid (OwnB w1 w.heap.size 5 (.slice (some ⟨w.heap.size, 0, none⟩) 0 H) []) := ⟨hown, fun _ h => by cases h⟩
  clear hown hgr
  go_wp2
  go_step3
  go_wp2
  go_loopw [5, 16] (fun v i wr => ∃ (k : Nat) (q : Option Addr) (d : Nat), k ≤ H ∧ i = .int .i64 k ∧ v = .slice q k d ∧ Hid (∀ j, j < 2 * k → four ((nums s).getD j 0) < 16) ∧ Hid (OwnB wr w.heap.size 5 (.slice q k d) (unhL (nums s) k)) ∧ Hid (Below w.heap.size w wr))
    (fun _ i _ => H - (intOf i).toNat)
  case atStart => exact ⟨0, _, _, Nat.zero_le _, rfl, rfl, (fun _ h => by omega), HO, HB⟩
  case round =>
    obtain ⟨k, q, d, hk, rfl, rfl, hgood, ho, hb⟩ := hrel
    have hbs := hb.out.size
    by_cases hlt : k < H
    · have hi1 := fun pf => nums_get s (2 * k) pf
      have hi2 := fun pf => nums_get s (2 * k + 1) pf
      have hs1 := (nums_small s).getD (2 * k)
      have hs2 := (nums_small s).getD (2 * k + 1)
      have hno1 : Hid (16 ≤ four ((nums s).getD (2 * k) 0) → signsOk (nums s) = false) := fun h => signsOk_no (by rw [nums_length]; omega) h
      have hno2 : Hid (16 ≤ four ((nums s).getD (2 * k + 1) 0) → signsOk (nums s) = false) := fun h => signsOk_no (by rw [nums_length]; omega) h
      have hsn := Lib.hid (unhL_succ (nums s) k)
      have hg2 : Hid (∀ j, j < 2 * (k + 1) → j ≠ 2 * k → j ≠ 2 * k + 1 → four ((nums s).getD j 0) < 16) := fun j h1 h2 h3 => hgood.out j (by omega)
      obtain ⟨c1, hc1⟩ : ∃ c, c = (nums s).getD (2 * k) 0 := ⟨_, rfl⟩
      obtain ⟨c2, hc2⟩ : ∃ c, c = (nums s).getD (2 * k + 1) 0 := ⟨_, rfl⟩
      simp only [← hc1, ← hc2] at hi1 hi2 hs1 hs2 hno1 hno2 hsn
      have HC1 := Lib.hid hc1
      have HC2 := Lib.hid hc2
      clear hc1 hc2
      have hf1 := four_range c1
      have hf2 := four_range c2
      by_cases h1 : four c1 < 16
      · have HX1 := Lib.hid (idxR_yes h1)
        go_wp2
        refine wp_loop_rounds 3 ?_
        rw [rounds_succ]
        go_wp2_with fail
        refine (indexByte_any c1 _ hs1).mono ?_
        rintro e w' ⟨rfl, rfl⟩
        rw [HX1.out]
        generalize hF1 : four c1 = f1 at *
        have HF1 := Lib.hid hF1
        clear hF1
        by_cases h2 : four c2 < 16
        · have HX2 := Lib.hid (idxR_yes h2)
          have e1 := or_first hf1.1 h1
          have e2 := or_second hf1.1 h1 hf2.1 h2
          go_wp2_with fail
          rw [rounds_succ]
          go_wp2_with fail
          refine (indexByte_any c2 _ hs2).mono ?_
          rintro e w' ⟨rfl, rfl⟩
          rw [HX2.out]
          generalize hF2 : four c2 = f2 at *
          have HF2 := Lib.hid hF2
          clear hF2
          go_wp2_with fail
          rw [rounds_succ]
          go_wp2_with (at_builtin; refine wpList_app_byt bt rfl (.tmp 37) (.tmp 39) rfl w.heap.size _ _ rfl (ho.out.alloc _) (some ⟨wr.heap.size, 0, none⟩) 1 1 [16 * f1 + f2] rfl ?h1 ?h2 ?h3 ?_)
          case h1 => exact Byt.one wr _ 5 (by omega)
          case h2 => rw [unhL_length]; omega
          case h3 => simp; omega
          intro v' w' own grow
          have HO := Lib.hid (own.as hsn.out.symm)
          have HB : Hid (Below w.heap.size w w') := Below.app (hb.out.alloc hbs _) (by simp; omega) (ho.out.alloc _) grow
          obtain ⟨q', d', hv⟩ := HO.out.shape (k + 1) (unhL_length _ _)
          subst hv
          have HG : Hid (∀ j, j < 2 * (k + 1) → four ((nums s).getD j 0) < 16) := by
            intro j hj
            by_cases j1 : j = 2 * k
            · rw [j1, ← HC1.out, HF1.out]; exact h1
            · by_cases j2 : j = 2 * k + 1
              · rw [j2, ← HC2.out, HF2.out]; exact h2
              · exact hg2.out j hj j1 j2
          clear own grow e1 e2 hi1 hi2
          go_wp2
          go_roundw
          case rel => exact ⟨k + 1, q', d', by omega, by go_num, rfl, HG, HO, HB⟩
          case measure => simp [intOf]; omega
        · have HX2 := Lib.hid (idxR_no h2)
          have e1 := or_first hf1.1 h1
          have HE : Hid (unhexE (nums s) = 4 ∧ unhexR (nums s) = []) := by
            show _ ∧ _
            simp [unhexE, unhexR, hno2.out (by omega)]
          have hne : ((2 * (k : Int)) != (s.size : Int)) = true := by rw [bne_iff_ne]; omega
          go_wp2_with fail
          rw [rounds_succ]
          go_wp2_with fail
          refine (indexByte_any c2 _ hs2).mono ?_
          rintro e w' ⟨rfl, rfl⟩
          rw [HX2.out]
          go_wp2_with fail
          try rw [Exit.noGoto_ret]
          go_ret2
          rw [HE.out.1, HE.out.2]
          exact ⟨none, 0, 0, rfl, Byt.nil _, hb.out, fun _ h => by cases h⟩
      · have HX1 := Lib.hid (idxR_no h1)
        have HE : Hid (unhexE (nums s) = 4 ∧ unhexR (nums s) = []) := by
          show _ ∧ _
          simp [unhexE, unhexR, hno1.out (by omega)]
        have hne : ((2 * (k : Int)) != (s.size : Int)) = true := by rw [bne_iff_ne]; omega
        go_wp2
        refine wp_loop_rounds 3 ?_
        rw [rounds_succ]
        go_wp2_with fail
        refine (indexByte_any c1 _ hs1).mono ?_
        rintro e w' ⟨rfl, rfl⟩
        rw [HX1.out]
        go_wp2_with fail
        try rw [Exit.noGoto_ret]
        go_ret2
        rw [HE.out.1, HE.out.2]
        exact ⟨none, 0, 0, rfl, Byt.nil _, hb.out, fun _ h => by cases h⟩
    · obtain rfl : k = H := by omega
      by_cases hodd : 2 * k = s.size
      · have hne : ((2 * (k : Int)) != (s.size : Int)) = false := by rw [bne_eq_false_iff_eq]; omega
        have HE : Hid (unhexE (nums s) = 0 ∧ unhexR (nums s) = unhL (nums s) k) := by
          have hsz := nums_length s
          have hok : signsOk (nums s) = true := by
            simp only [signsOk, Bool.and_eq_true, decide_eq_true_eq, List.all_eq_true]
            refine ⟨by omega, fun c hc => ?_⟩
            obtain ⟨j, hj, rfl⟩ := List.mem_iff_getElem.1 hc
            have := hgood.out j (by omega)
            simpa [List.getD, hj] using this
          show _ ∧ _
          simp only [unhexE, unhexR, hok, if_true, true_and]
          rw [show (nums s).length / 2 = k by omega]
        clear hodd
        go_wp2_with fail
        try rw [Exit.noGoto_ret]
        go_ret2
        rw [HE.out.1, HE.out.2]
        have hbyt := ho.out.byt.1
        exact ⟨q, k, d, rfl, hbyt, hb.out, ho.out.far⟩
      · have hne : ((2 * (k : Int)) != (s.size : Int)) = true := by rw [bne_iff_ne]; omega
        have HE : Hid (unhexE (nums s) = 4 ∧ unhexR (nums s) = []) := by
          have hsz := nums_length s
          have hok : signsOk (nums s) = false := by
            simp only [signsOk, Bool.and_eq_false_iff]
            left
            simp; omega
          show _ ∧ _
          simp [unhexE, unhexR, hok]
        clear hodd
        go_wp2_with fail
        try rw [Exit.noGoto_ret]
        go_ret2
        rw [HE.out.1, HE.out.2]
        exact ⟨none, 0, 0, rfl, Byt.nil _, hb.out, fun _ h => by cases h⟩

end Go.Proofs.Ytcbmgdigidpbeaa
