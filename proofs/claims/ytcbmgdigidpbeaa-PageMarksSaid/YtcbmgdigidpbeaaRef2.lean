import Derived.Test.YtcbmgdigidpbeaaRef1
namespace Go.Proofs.Ytcbmgdigidpbeaa
open Go.RowKit

set_option maxHeartbeats 400000 in
theorem refPut_any (n k : Nat) (w : World) (hn : n ≤ 18446744073709551615) (hk : k ≤ 8) : Calls Try.prog 12 #[.int .u64 n, .int .i64 k] w (RetByte (Wd.enc k n) w) := by
  go_enter Try.func12, Try.ntmps12
  go_wp2
  go_loopw [0, 5] (fun t v wr => ∃ (j : Nat) (p : Option Addr) (c : Nat), j ≤ k ∧ t = .int .u64 ((n / 256 ^ j : Nat) : Int) ∧ v = .slice p j c ∧ Hid (OwnB wr w.heap.size 5 (.slice p j c) (Wd.enc j n)) ∧ Hid (Below w.heap.size w wr))
    (fun _ v _ => k - lenOf v)
  case atStart => exact ⟨0, none, 0, Nat.zero_le _, by simp, rfl, OwnB.nil _ _ _, Below.refl _ _⟩
  case round =>
    obtain ⟨j, p, c, hj, rfl, rfl, ho, hb⟩ := hrel
    have hd := Lib.hid (div_rounds n j)
    have hmx : n / 256 ^ j ≤ 18446744073709551615 := Nat.le_trans (Nat.div_le_self _ _) hn
    have hsn := Lib.hid (Wd.enc_snoc j n)
    have hl := Lib.hid (Wd.enc_length j n)
    have hbs := hb.out.size
    generalize hm : n / 256 ^ j = m at *
    have HM := Lib.hid hm
    clear hm
    by_cases hlt : j < k
    · go_wp2_with (at_builtin; refine wpList_app_byt bt rfl (.tmp 10) (.tmp 14) rfl w.heap.size _ _ rfl (ho.out.alloc _) (some ⟨wr.heap.size, 0, none⟩) 1 1 [((m % 256 : Nat) : Int)] rfl ?h1 ?h2 ?h3 ?_)
      case h1 => simpa using Byt.one wr ((m % 256 : Nat) : Int) 5 (by omega)
      case h2 => rw [hl.out]; omega
      case h3 => simp; omega
      intro v' w' own grow
      have HO := Lib.hid (own.as (ys := Wd.enc (j + 1) n) (by rw [hsn.out]; simp))
      have HB : Hid (Below w.heap.size w w') := Below.app (hb.out.alloc hbs _) (by simp; omega) (ho.out.alloc _) grow
      obtain ⟨p', c', hv⟩ := HO.out.shape (j + 1) (Wd.enc_length _ _)
      subst hv
      clear own grow
      go_wp2
      go_roundw
      case rel => exact ⟨j + 1, p', c', by omega, by rw [← hd.out]; rfl, rfl, HO, HB⟩
      case measure => simp [lenOf]; omega
    · obtain rfl : j = k := by omega
      go_wp2
      go_ret
      exact RetByte.of_own ho.out hb.out

theorem refWord_no (p : Option Addr) (n c : Nat) (xs : List Int) (i : Int) (w : World) (h : Byt w p n c xs) (hi : i < 0 ∨ n < i) : Calls Try.prog 18 #[.slice p n c, .int .i64 i] w fun e w' => e = .returned (.int .u64 (wordR xs i)) ∧ Gr w w' := by
  have hl := h.len
  have hR : Hid (wordR xs i = 0) := by
    show _ = _
    rcases hi with hi | hi
    · simp [wordR, hi]
    · exact wordR_past (by omega)
  have hz := Lib.hid (Byt.nil w)
  rcases hi with hi | hi
  all_goals
    go_enter Try.func18, Try.ntmps18
    go_wp2
    go_loop [5, 6] (fun v t => ∃ k : Nat, k ≤ 8 ∧ t = .int .i64 k ∧ v = .slice none 0 0) (fun _ t => 8 - (intOf t).toNat)
    case atStart => exact ⟨0, by omega, rfl, rfl⟩
    case round =>
      obtain ⟨k, hk, rfl, rfl⟩ := hrel
      by_cases hlt : k < 8
      · go_wp2
        go_round
        case rel => exact ⟨k + 1, by omega, by go_num, rfl⟩
        case measure => simp [intOf]; omega
      · go_wp2_with fail
        refine (refGet_any _ _ _ _ _ hz.out (by omega)).mono ?_
        rintro e w' ⟨rfl, rfl⟩
        go_wp2_with fail
        go_ret
        exact ⟨by rw [hR.out]; rfl, Gr.refl _⟩

theorem take_snoc (l : List Int) (k : Nat) (h : k < l.length) : l.take (k + 1) = l.take k ++ [l.getD k 0] := by
  rw [List.take_succ_eq_append_getElem h]
  simp [List.getD, h]

set_option maxHeartbeats 400000 in
theorem refWord_in (p : Option Addr) (n c : Nat) (xs : List Int) (I : Nat) (w : World) (h : Byt w p n c xs) (hbig : n ≤ 140737488355328) (hi : I ≤ n) : Calls Try.prog 18 #[.slice p n c, .int .i64 I] w fun e w' => e = .returned (.int .u64 (wordR xs I)) ∧ Gr w w' := by
  have HLen := Lib.hid h.len
  have hR : Hid (wordR xs I = Wd.dec ((xs.drop (8 * I)).take 8)) := by show _ = _; simp only [wordR, Int.toNat_natCast]; rw [if_neg (by omega)]
  have HH := Lib.hid h
  have hsd := Lib.hid (h.small.drop (8 * I))
  have hld : Hid ((xs.drop (8 * I)).length = n - 8 * I) := by show _ = _; rw [List.length_drop, h.len]
  clear h
  go_enter Try.func18, Try.ntmps18
  go_wp2
  go_loopw [5, 6] (fun v t wr => ∃ (k : Nat) (q : Option Addr) (m d : Nat), k ≤ 8 ∧ t = .int .i64 k ∧ v = .slice q m d ∧ Hid (OwnB wr w.heap.size 5 (.slice q m d) ((xs.drop (8 * I)).take k)) ∧ Hid (Below w.heap.size w wr))
    (fun _ t _ => 8 - (intOf t).toNat)
  case atStart => exact ⟨0, none, 0, 0, by omega, rfl, rfl, OwnB.nil _ _ _, Below.refl _ _⟩
  case round =>
    obtain ⟨k, q, m, d, hk, rfl, rfl, ho, hb⟩ := hrel
    have hbs := hb.out.size
    by_cases hlt : k < 8
    · by_cases hin : 8 * I + k < n
      · obtain ⟨b, o, rfl, _⟩ := HH.out.at (by omega)
        have hcell : wr.cell? ⟨b, o + (8 * I + k), none⟩ = some (.int .u8 (xs.getD (8 * I + k) 0)) := by
          obtain ⟨b', o', e, hc⟩ := (HH.out.kept hb.out).at (by omega)
          cases e
          exact hc _ (by omega)
        have hx := HH.out.small.getD (8 * I + k)
        have hsn : Hid ((xs.drop (8 * I)).take (k + 1) = (xs.drop (8 * I)).take k ++ [xs.getD (8 * I + k) 0]) := by
          show _ = _
          rw [take_snoc _ _ (by rw [hld.out]; omega)]
          simp [List.getD]
        have hlen : Hid (((xs.drop (8 * I)).take k).length = k) := by show _ = _; rw [List.length_take, hld.out]; omega
        generalize xs.getD (8 * I + k) 0 = x at *
        go_wp2_with (at_builtin; refine wpList_app_byt bt rfl (.tmp 28) (.tmp 36) rfl w.heap.size _ _ rfl (ho.out.alloc _) (some ⟨wr.heap.size, 0, none⟩) 1 1 [x] rfl ?h1 ?h2 ?h3 ?_)
        case h1 => exact Byt.one wr x 5 hx
        case h2 => rw [hlen.out]; omega
        case h3 => simp; omega
        intro v' w' own grow
        have HO := Lib.hid (own.as hsn.out.symm)
        have HB : Hid (Below w.heap.size w w') := Below.app (hb.out.alloc hbs _) (by simp; omega) (ho.out.alloc _) grow
        obtain ⟨q', d', hv⟩ := HO.out.shape _ rfl
        subst hv
        clear own grow
        go_wp2
        go_roundw
        case rel => exact ⟨k + 1, q', _, d', by omega, by go_num, rfl, HO, HB⟩
        case measure => simp [intOf]; omega
      · have hsn : Hid ((xs.drop (8 * I)).take (k + 1) = (xs.drop (8 * I)).take k) := by
          show _ = _
          rw [List.take_of_length_le (by rw [hld.out]; omega), List.take_of_length_le (by rw [hld.out]; omega)]
        go_wp2
        go_roundw
        case rel => exact ⟨k + 1, q, m, d, by omega, by go_num, rfl, ho.out.as hsn.out.symm, hb⟩
        case measure => simp [intOf]; omega
    · obtain rfl : k = 8 := by omega
      obtain ⟨hbyt, hm⟩ := ho.out.byt
      have hm8 : m ≤ 8 := by rw [hm, List.length_take]; omega
      clear hm
      have HByt := Lib.hid hbyt
      clear hbyt
      go_wp2_with fail
      refine (refGet_any _ _ _ _ _ HByt.out hm8).mono ?_
      rintro e w' ⟨rfl, rfl⟩
      go_wp2_with fail
      go_ret
      exact ⟨by rw [hR.out]; rfl, hb.out⟩

theorem refWord_any (p : Option Addr) (n c : Nat) (xs : List Int) (i : Int) (w : World) (h : Byt w p n c xs) (hbig : n ≤ 140737488355328) : Calls Try.prog 18 #[.slice p n c, .int .i64 i] w fun e w' => e = .returned (.int .u64 (wordR xs i)) ∧ Gr w w' := by
  by_cases h1 : i < 0 ∨ n < i
  · exact refWord_no p n c xs i w h h1
  · obtain ⟨I, rfl⟩ := Int.eq_ofNat_of_zero_le (show 0 ≤ i by omega)
    exact refWord_in p n c xs I w h hbig (by omega)

end Go.Proofs.Ytcbmgdigidpbeaa
