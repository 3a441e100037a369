
import Derived.Test.YtchfhgeipmfegaaRef1
namespace Go.Proofs.Ytchfhgeipmfegaa
open Go.RowKit

set_option maxHeartbeats 400000 in
theorem refPut_any (n k : Nat) (w : World) (hn : n ≤ 18446744073709551615) (hk : k ≤ 8) : Calls Try.prog 87 #[.int .u64 n, .int .i64 k] w (RetByte (Wd.enc k n) w) := by
  go_enter Try.func87, Try.ntmps87
  go_wp2
  go_loopw [0, 5] (fun t v wr => ∃ (j : Nat) (p : Option Addr) (c : Nat), j ≤ k ∧ t = .int .u64 ((n / 256 ^ j : Nat) : Int) ∧ v = .slice p j c ∧ Hid (OwnB wr w.heap.size 5 (.slice p j c) (Wd.enc j n)) ∧ Hid (Below w.heap.size w wr))
    (fun _ v _ => k - lenOf v)
  case atStart => exact ⟨0, none, 0, Nat.zero_le _, by simp, rfl, OwnB.nil _ _ _, Below.refl _ _⟩
  case round =>
    obtain ⟨j, p, c, hj, rfl, rfl, ho, hb⟩ := hrel
    have hd := Lib.hid (div_rounds n j)
    have hmx : n / 256 ^ j ≤ 18446744073709551615 := Nat.le_trans (Nat.div_le_self _ _) hn
    have hsn := Lib.hid (Wd.enc_snoc j n)
    have hl := Lib.hid (Wd.enc_length j n)
    have hbs := hb.out.size
    generalize hm : n / 256 ^ j = m at *
    have HM := Lib.hid hm
    clear hm
    by_cases hlt : j < k
    · go_wp2_with (at_builtin; refine wpList_app_byt bt rfl (.tmp 10) (.tmp 14) rfl w.heap.size _ _ rfl (ho.out.alloc _) (some ⟨wr.heap.size, 0, none⟩) 1 1 [((m % 256 : Nat) : Int)] rfl ?h1 ?h2 ?h3 ?_)
      case h1 => simpa using Byt.one wr ((m % 256 : Nat) : Int) 5 (by omega)
      case h2 => rw [hl.out]; omega
      case h3 => simp; omega
      intro v' w' own grow
      have HO := Lib.hid (own.as (ys := Wd.enc (j + 1) n) (by rw [hsn.out]; simp))
      have HB : Hid (Below w.heap.size w w') := Below.app (hb.out.alloc hbs _) (by simp; omega) (ho.out.alloc _) grow
      obtain ⟨p', c', hv⟩ := HO.out.shape (j + 1) (Wd.enc_length _ _)
      subst hv
      clear own grow
      go_wp2
      go_roundw
      case rel => exact ⟨j + 1, p', c', by omega, by rw [← hd.out]; rfl, rfl, HO, HB⟩
      case measure => simp [lenOf]; omega
    · obtain rfl : j = k := by omega
      go_wp2
      go_ret
      exact RetByte.of_own ho.out hb.out

theorem take_snoc (l : List Int) (k : Nat) (h : k < l.length) : l.take (k + 1) = l.take k ++ [l.getD k 0] := by
  rw [List.take_succ_eq_append_getElem h]
  simp [List.getD, h]

end Go.Proofs.Ytchfhgeipmfegaa
