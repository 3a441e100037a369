import Derived.Test.YtmmhfjcaejkmiaaKnownc
namespace Go.Proofs.Ytmmhfjcaejkmiaa
open Go.RowKit Cr

set_option maxRecDepth 100000 in
set_option maxHeartbeats 1600000 in
theorem sumsDivide_walk (p : Option Addr) (n c : Nat) (xss : List (List Int)) (w : World) (h : Rows w p n c xss) (hz : ∀ i, i < n → (xss.getD i []).length ≤ 140737488351232) : Calls Try.prog 3 #[.slice p n c] w fun e w' => e = .returned (.bool true) ∧ Gr w w' := by
  have HLen := Lib.hid h.len
  have hn63 : n ≤ 9223372036854775807 := by have := h.cap; have := h.most; unfold maxLen at this; omega
  have HH := Lib.hid h
  have HZ := Lib.hid hz
  clear h hz
  go_enter Try.func3, Try.ntmps3
  go_wp2
  go_loopw [3, 4] (fun v i wr => ∃ (j m : Nat) (q : Option Addr) (d : Nat), j ≤ n ∧ i = .int .i64 j ∧ m ≤ 4000 ∧ v = .slice q m d ∧ Hid (OwnB wr w.heap.size 5 (.slice q m d) (xss.take j).flatten) ∧ Hid (Below w.heap.size w wr)) (fun _ i _ => n - (intOf i).toNat)
  case atStart => exact ⟨0, 0, none, 0, Nat.zero_le _, rfl, Nat.zero_le _, rfl, OwnB.nil _ _ _, Below.refl _ _⟩
  case round =>
    obtain ⟨j, m, q, d, hj, rfl, hm, rfl, ho, hb⟩ := hrel
    have hbs := hb.out.size
    have HM := Lib.hid ho.out.byt.2
    by_cases hlt : j < n
    · obtain ⟨b, o, rfl, hc⟩ := (HH.out.kept hb.out).lies (by omega)
      obtain ⟨q2, m2, d2, hcell, hby⟩ := hc j hlt
      have hm2 : m2 ≤ 140737488351232 := by have := HZ.out j hlt; rw [hby.len] at this; exact this
      have HY := Lib.hid hby
      have hfs := Lib.hid (flat_succ xss j (by rw [HLen.out]; exact hlt))
      clear hc hby
      by_cases hbig : m + m2 ≤ 4000
      · have hle : (m : Int) + (m2 : Int) ≤ 4000 := by omega
        have hsz : Hid ((xss.take j).flatten.length + m2 ≤ 140737488355328) := Lib.hid (by rw [← HM.out]; omega)
        go_wp2_with (at_builtin; refine wpList_app_byt btc rfl (.tmp 21) (.tmp 25) rfl w.heap.size _ _ rfl ho.out q2 m2 d2 _ rfl HY.out hsz.out hbs ?_)
        intro v' w' own grow
        have HO2 := Lib.hid (own.as hfs.out.symm)
        have HB2 : Hid (Below w.heap.size w w') := Lib.hid (Below.app hb.out hbs ho.out grow)
        obtain ⟨q3, d3, hv⟩ := HO2.out.shape (m + m2) (by rw [hfs.out, List.length_append, ← HM.out, HY.out.len])
        subst hv
        clear own grow
        go_wp2
        go_roundw
        case rel => exact ⟨j + 1, m + m2, q3, d3, by omega, by go_num, hbig, rfl, HO2, HB2⟩
        case measure => simp [intOf]; omega
      · have hle : ¬ (m : Int) + (m2 : Int) ≤ 4000 := by omega
        have HG := hb
        clear hb
        go_wp2_with fail
        refine (known_any _).mono ?_
        rintro e w1 ⟨rfl, g1⟩
        have HG1 := Lib.hid (Gr.trans HG.out g1)
        clear g1
        go_wp2_with fail
        go_ret
        exact ⟨rfl, HG1.out⟩
    · obtain rfl : j = n := by omega
      have hall : xss.take j = xss := List.take_of_length_le (by rw [HLen.out]; exact Nat.le_refl _)
      rw [hall] at ho
      have HO := ho
      clear hall ho HM
      have HR := Lib.hid (HH.out.kept hb.out)
      go_wp2_with fail
      refine (sum_any _ _ _ _ _ HR.out).mono ?_
      rintro e w1 ⟨rfl, g1⟩
      have HB1 := Lib.hid (HO.out.byt.1.kept g1)
      have HG1 := Lib.hid (Gr.trans hb.out g1)
      clear g1 HR
      obtain ⟨F, hF⟩ : ∃ F, F = xss.flatten := ⟨_, rfl⟩
      rw [← hF] at HB1 ⊢
      clear hF
      go_wp2_with fail
      refine (refSum_any _ _ _ _ _ HB1.out).mono ?_
      rintro e w' ⟨rfl, rfl⟩
      go_wp2_with fail
      have HR2 := Lib.hid (Rows.one (t := 23) HB1.out rfl)
      have hgn := (Gr.refl w1).alloc (Nat.le_refl _) (.cells #[.slice q m d] 23)
      have HG2 := Lib.hid (Gr.trans HG1.out hgn)
      have HB2 := Lib.hid (HB1.out.kept hgn)
      clear hgn
      refine (sum_any _ _ _ _ _ HR2.out).mono ?_
      rintro e w2 ⟨rfl, g2⟩
      rw [show [F].flatten = F by simp]
      have HG3 := Lib.hid (Gr.trans HG2.out g2)
      have HB3 := Lib.hid (HB2.out.kept g2)
      clear g2 HR2
      go_wp2_with fail
      refine (refSum_any _ _ _ _ _ HB3.out).mono ?_
      rintro e w' ⟨rfl, rfl⟩
      go_wp2_with fail
      refine (known_any _).mono ?_
      rintro e w4 ⟨rfl, g4⟩
      have HG4 := Lib.hid (Gr.trans HG3.out g4)
      clear g4
      go_wp2_with fail
      go_ret
      exact ⟨rfl, HG4.out⟩

end Go.Proofs.Ytmmhfjcaejkmiaa
