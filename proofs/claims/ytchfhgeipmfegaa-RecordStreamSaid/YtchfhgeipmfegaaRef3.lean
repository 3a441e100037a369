
import Derived.Test.YtchfhgeipmfegaaJoin
import Derived.Deep.DeepCutAuto
namespace Go.Proofs.Ytchfhgeipmfegaa
open Go.RowKit

/-- Much: have lists more bytes, and lists, together than this? -/
def muchB (xss : List (List Int)) (most : Nat) : Bool := decide (most < xss.length + tot xss)

set_option maxHeartbeats 400000 in
theorem refJoin_any (p : Option Addr) (n c : Nat) (xss : List (List Int)) (w : World) (h : Rows w p n c xss) (hbig : tot xss ≤ 140737488355328) : Calls Try.prog 71 #[.slice p n c] w (RetByte xss.flatten w) := by
  have HLen := Lib.hid h.len
  have hn63 : n ≤ 9223372036854775807 := by have := h.cap; have := h.most; unfold maxLen at this; omega
  have HH := Lib.hid h
  have Hbig := Lib.hid hbig
  clear h hbig
  go_enter Try.func71, Try.ntmps71
  go_wp2
  have HO : Hid (OwnB (w.alloc (.cells #[] 5)) w.heap.size 5 (.slice (some ⟨w.heap.size, 0, none⟩) 0 0) []) := ⟨World.ownsRow_made (w := w) #[] 0 (Nat.le_refl _) (Nat.zero_le _) rfl, fun _ h => by cases h⟩
  have HB : Hid (Below w.heap.size w (w.alloc (.cells #[] 5))) := (Below.refl _ _).alloc (Nat.le_refl _) _
  go_loopw [3, 4] (fun v i wr => ∃ j : Nat, j ≤ n ∧ i = .int .i64 j ∧ Hid (OwnB wr w.heap.size 5 v (xss.take j).flatten) ∧ Hid (Below w.heap.size w wr)) (fun _ i _ => n - (intOf i).toNat)
  case atStart => exact ⟨0, Nat.zero_le _, rfl, HO, HB⟩
  case round =>
    obtain ⟨j, hj, rfl, ho, hb⟩ := hrel
    have hbs := hb.out.size
    by_cases hlt : j < n
    · obtain ⟨b, o, rfl, hc⟩ := (HH.out.kept hb.out).lies (by omega)
      obtain ⟨q, m, d, hcell, hby⟩ := hc j hlt
      have hfs := Lib.hid (flat_succ xss j (by rw [HLen.out]; exact hlt))
      have hsz : Hid ((xss.take j).flatten.length + m ≤ 140737488355328) := by
        have h1 := tot_le xss (j + 1)
        rw [tot_succ xss j m (by rw [HLen.out]; exact hlt) hby.len] at h1
        exact Nat.le_trans h1 Hbig.out
      have HBY := Lib.hid hby
      clear hby hc
      go_wp2_with (at_builtin; refine wpList_app_byt bt rfl (.tmp 12) (.tmp 16) rfl w.heap.size _ _ rfl ho.out q m d _ rfl HBY.out hsz.out hbs ?_)
      intro v' w' own grow
      have HO2 := Lib.hid (own.as hfs.out.symm)
      have HB2 : Hid (Below w.heap.size w w') := Below.app hb.out hbs ho.out grow
      clear own grow
      go_wp2
      go_roundw
      case rel => exact ⟨j + 1, by omega, by go_num, HO2, HB2⟩
      case measure => simp [intOf]; omega
    · obtain rfl : j = n := by omega
      have hall : xss.take j = xss := List.take_of_length_le (by rw [HLen.out]; exact Nat.le_refl _)
      have ho2 := ho.out
      rw [hall] at ho2
      obtain ⟨q, d, hv⟩ := ho2.shape (tot xss) rfl
      subst hv
      have HO2 := Lib.hid ho2
      clear ho2 hall
      go_wp2
      go_ret
      exact RetByte.of_own HO2.out hb.out

end Go.Proofs.Ytchfhgeipmfegaa
