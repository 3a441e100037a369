import Derived.Test.YtcbmgdigidpbeaaHex2
namespace Go.Proofs.Ytcbmgdigidpbeaa
open Go.RowKit

theorem hexL_getD : ∀ (l : List Int) (k : Nat), k < 2 * l.length → (hexL l).getD k 0 = if k % 2 = 1 then sign (l.getD (k / 2) 0 % 16) else sign (l.getD (k / 2) 0 / 16)
  | [], k, h => by simp at h
  | x :: r, 0, _ => by simp [hexL]
  | x :: r, 1, _ => by simp [hexL]
  | x :: r, k + 2, h => by
    have := hexL_getD r k (by simp only [List.length_cons] at h; omega)
    have e1 : (k + 2) / 2 = k / 2 + 1 := by omega
    have e2 : (k + 2) % 2 = k % 2 := by omega
    rw [e1, e2]
    simpa [hexL] using this

set_option maxHeartbeats 800000 in
theorem refHex_any (p : Option Addr) (n c : Nat) (xs : List Int) (w : World) (h : Byt w p n c xs) (hbig : n ≤ 70368744177664) : Calls Try.prog 26 #[.slice p n c] w fun e w' => e = .returned (.string (strOfNums (hexL xs))) ∧ Gr w w' := by
  have HLen := Lib.hid h.len
  have HH := Lib.hid h
  clear h
  go_enter Try.func26, Try.ntmps26
  go_wp2_with fail
  refine (signs_any _).mono ?_
  rintro e w' ⟨rfl, rfl⟩
  go_wp2
  go_loopw [4, 5] (fun v i wr => ∃ (k : Nat) (q : Option Addr) (d : Nat), k ≤ 2 * n ∧ i = .int .i64 k ∧ v = .slice q k d ∧ Hid (OwnB wr w.heap.size 5 (.slice q k d) ((hexL xs).take k)) ∧ Hid (Below w.heap.size w wr))
    (fun _ i _ => 2 * n - (intOf i).toNat)
  case atStart => exact ⟨0, none, 0, Nat.zero_le _, rfl, rfl, OwnB.nil _ _ _, Below.refl _ _⟩
  case round =>
    obtain ⟨k, q, d, hk, rfl, rfl, ho, hb⟩ := hrel
    have hbs := hb.out.size
    by_cases hlt : k < 2 * n
    · obtain ⟨b, o, rfl, _⟩ := HH.out.at (by omega)
      have hcell : wr.cell? ⟨b, o + k / 2, none⟩ = some (.int .u8 (xs.getD (k / 2) 0)) := by
        obtain ⟨b', o', e, hc⟩ := (HH.out.kept hb.out).at (by omega)
        cases e
        exact hc _ (by omega)
      have hx := HH.out.small.getD (k / 2)
      have hgd := Lib.hid (hexL_getD xs k (by rw [HLen.out]; exact hlt))
      have hsn : Hid ((hexL xs).take (k + 1) = (hexL xs).take k ++ [(hexL xs).getD k 0]) := by
        show _ = _
        rw [take_snoc _ _ (by rw [hexL_length, HLen.out]; omega)]
      have hlen : Hid (((hexL xs).take k).length = k) := by show _ = _; rw [List.length_take, hexL_length, HLen.out]; omega
      generalize xs.getD (k / 2) 0 = x at *
      obtain ⟨X, rfl⟩ := Int.eq_ofNat_of_zero_le hx.1
      have hx2 : X < 256 := by omega
      clear hx
      have hq1 : (0 : Int) ≤ (X : Int) / 16 := by omega
      have hq2 : (X : Int) / 16 < 16 := by omega
      have hq3 : (0 : Int) ≤ (X : Int) % 16 := by omega
      have hq4 : (X : Int) % 16 < 16 := by omega
      have hg1 := signs_get ((X : Int) / 16) hq1 hq2
      have hg2 := signs_get ((X : Int) % 16) hq3 hq4
      have hq5 : (k : Int) / 2 < n := by omega
      by_cases hpar : k % 2 = 1
      · have ht : ((k : Int) % 2 == 1) = true := by simp; omega
        have hsn2 : Hid ((hexL xs).take (k + 1) = (hexL xs).take k ++ [sign ((X : Int) % 16)]) := by show _ = _; rw [hsn.out, hgd.out, if_pos hpar]
        clear hpar
        go_wp2_with (at_builtin; refine wpList_app_byt bt rfl (.tmp 30) (.tmp 34) rfl w.heap.size _ _ rfl (ho.out.alloc _) (some ⟨wr.heap.size, 0, none⟩) 1 1 [sign ((X : Int) % 16)] rfl ?h1 ?h2 ?h3 ?_)
        case h1 => exact Byt.one wr _ 5 (sign_small (by omega))
        case h2 => rw [hlen.out]; omega
        case h3 => simp; omega
        intro v' w' own grow
        have HO := Lib.hid (own.as hsn2.out.symm)
        have HB : Hid (Below w.heap.size w w') := Below.app (hb.out.alloc hbs _) (by simp; omega) (ho.out.alloc _) grow
        obtain ⟨q', d', hv⟩ := HO.out.shape (k + 1) (by rw [List.length_take, hexL_length, HLen.out]; omega)
        subst hv
        clear own grow
        go_wp2
        go_roundw
        case rel => exact ⟨k + 1, q', d', by omega, by go_num, rfl, HO, HB⟩
        case measure => simp [intOf]; omega
      · have ht : ((k : Int) % 2 == 1) = false := by simp; omega
        have hsn2 : Hid ((hexL xs).take (k + 1) = (hexL xs).take k ++ [sign ((X : Int) / 16)]) := by show _ = _; rw [hsn.out, hgd.out, if_neg hpar]
        clear hpar
        go_wp2_with (at_builtin; refine wpList_app_byt bt rfl (.tmp 30) (.tmp 34) rfl w.heap.size _ _ rfl (ho.out.alloc _) (some ⟨wr.heap.size, 0, none⟩) 1 1 [sign ((X : Int) / 16)] rfl ?h1 ?h2 ?h3 ?_)
        case h1 => exact Byt.one wr _ 5 (sign_small (by omega))
        case h2 => rw [hlen.out]; omega
        case h3 => simp; omega
        intro v' w' own grow
        have HO := Lib.hid (own.as hsn2.out.symm)
        have HB : Hid (Below w.heap.size w w') := Below.app (hb.out.alloc hbs _) (by simp; omega) (ho.out.alloc _) grow
        obtain ⟨q', d', hv⟩ := HO.out.shape (k + 1) (by rw [List.length_take, hexL_length, HLen.out]; omega)
        subst hv
        clear own grow
        go_wp2
        go_roundw
        case rel => exact ⟨k + 1, q', d', by omega, by go_num, rfl, HO, HB⟩
        case measure => simp [intOf]; omega
    · obtain rfl : k = 2 * n := by omega
      have hbyt := ho.out.byt.1
      have hxs : (hexL xs).take (2 * n) = hexL xs := List.take_of_length_le (by rw [hexL_length, HLen.out]; exact Nat.le_refl _)
      rw [hxs] at hbyt
      have hconv := hbyt.lies.convert hbyt.len d 23 5 9 Try.underlying23 Try.underlying5 Try.underlying9
      clear hbyt hxs
      obtain ⟨r, hr⟩ : ∃ r, r = strOfNums (hexL xs) := ⟨_, rfl⟩
      rw [← hr] at hconv
      have HR := Lib.hid hr
      clear hr
      go_wp2
      go_ret
      exact ⟨by rw [← HR.out]; rfl, hb.out⟩

end Go.Proofs.Ytcbmgdigidpbeaa
