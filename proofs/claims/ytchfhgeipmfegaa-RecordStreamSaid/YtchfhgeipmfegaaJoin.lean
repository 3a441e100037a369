
import Derived.Test.YtchfhgeipmfegaaHex4
import Derived.Test.YtchfhgeipmfegaaLists
namespace Go.Proofs.Ytchfhgeipmfegaa
open Go.RowKit

/-- Grow(nil, n): nil, or a new row of its own, with room. -/
def Grown0 (tB : Nat) (w : World) (e : Ending) (w' : World) : Prop := ∃ v, e = .returned v ∧ OwnB w' w.heap.size tB v [] ∧ Gr w w'

set_option maxHeartbeats 400000 in
theorem grow_any (n : Nat) (w : World) (hbig : n ≤ 140737488355328) : Calls Try.prog 93 #[.slice none 0 0, .int .i64 n] w (Grown0 5 w) := by
  rcases Nat.eq_zero_or_pos n with rfl | hn
  · go_enter Try.func93, Try.ntmps93
    go_wp2
    go_ret
    exact ⟨_, rfl, OwnB.nil _ _ _, Gr.refl _⟩
  · obtain ⟨i0, hi, hz0, hz1, hz2⟩ := info_parts bt.info
    have hrz : ∀ ty, (Builtin.append_ #[22, 3] ty #[.slice none 0 0, .int .i64 (n : Int)]).run Try.prog w =
        .ok (.slice (some ⟨w.heap.size, 0, none⟩) n (grownCap w n 0 5)) (w.drew.alloc (.cells (#[] ++ Builtin.zeroCells (Value.int .u8 0).cells n ++ Builtin.zeroCells (Value.int .u8 0).cells (grownCap w n 0 5 - n)) 5)) := fun ty => by
      have h := Lib.run_append_grow_zeros (P := Try.prog) w 22 3 ty 5 i0 (.int .u8 0) .i64 .i64 Try.underlying22 Try.underlying3 hi hz0 none 0 0 [] (by rw [hz1]; exact run_firstCells_none w.drew 1 0 0 0) n hn (by omega) (by omega) (by omega)
        (by rw [hz2]; omega) (by rw [hz2]; exact growslice_fits (by omega) (by omega))
      simpa using h
    have hGn : n ≤ grownCap w n 0 5 := grownCap_ge w _ _ _
    have hG63 : grownCap w n 0 5 ≤ maxLen := grownCap_le_maxLen w n 0 5 (by unfold maxLen; omega)
    obtain ⟨G, hG⟩ : ∃ G, G = grownCap w n 0 5 := ⟨_, rfl⟩
    rw [← hG] at hrz hGn hG63
    clear hG hi hz0 hz1 hz2
    have HG := Lib.hid hG63
    have hG63' : G ≤ 9223372036854775807 := by unfold maxLen at hG63; omega
    clear hG63
    obtain ⟨C, hC⟩ : ∃ C, C = #[] ++ Builtin.zeroCells (Value.int .u8 0).cells n ++ Builtin.zeroCells (Value.int .u8 0).cells (G - n) := ⟨_, rfl⟩
    have hCs : Hid (C.size = G * 1) := by
      show _ = _
      rw [hC]
      simp only [Array.size_append, size_zeroCells, Array.size_empty, Value.cells]
      simp
      omega
    rw [← hC] at hrz
    clear hC
    go_enter Try.func93, Try.ntmps93
    go_wp2_with (at_builtin; refine Lib.wpList_append_run _ rfl _ _ _ _ rfl _ _ rfl rfl _ _ (hrz _) ?_)
    go_ret
    refine ⟨_, rfl, ⟨?_, fun _ h => by cases h⟩, ?_⟩
    · exact World.ownsRow_made (w := w.drew) C G (Nat.le_refl _) HG.out hCs.out
    · exact (Below.refl _ _).drew.alloc (Nat.le_refl _) _

set_option maxHeartbeats 800000 in
theorem concat_any (p : Option Addr) (n c : Nat) (xss : List (List Int)) (w : World) (h : Rows w p n c xss) (hbig : tot xss ≤ 140737488355328) : Calls Try.prog 81 #[.slice p n c] w (RetByte xss.flatten w) := by
  have HLen := Lib.hid h.len
  have hn63 : n ≤ 9223372036854775807 := by have := h.cap; have := h.most; unfold maxLen at this; omega
  have HH := Lib.hid h
  have Hbig := Lib.hid hbig
  clear h hbig
  go_enter Try.func81, Try.ntmps81
  go_wp2
  go_loop [3, 11] (fun t i => ∃ k : Nat, k ≤ n ∧ i = .int .i64 k ∧ t = .int .i64 (tot (xss.take k) : Nat)) (fun _ i => n - (intOf i).toNat)
  case atStart => exact ⟨0, Nat.zero_le _, rfl, rfl⟩
  case round =>
    obtain ⟨k, hk, rfl, rfl⟩ := hrel
    have hle := tot_le xss k
    have hb2 := Hbig.out
    by_cases hlt : k < n
    · obtain ⟨b, o, rfl, hc⟩ := HH.out.lies (by omega)
      obtain ⟨q, m, d, hcell, hby⟩ := hc k hlt
      have hle2 := tot_le xss (k + 1)
      have hL := tot_succ xss k m (by rw [HLen.out]; exact hlt) hby.len
      have HL := Lib.hid hL
      have hSm : tot (xss.take k) + m ≤ 140737488355328 := by omega
      clear hL hle2 hc hby hb2 hle
      go_wp2
      go_round
      case rel => exact ⟨k + 1, by omega, by go_num, congrArg (Value.int .i64) (by rw [HL.out]; rfl)⟩
      case measure => simp [intOf]; omega
    · obtain rfl : k = n := by omega
      have hall : xss.take k = xss := List.take_of_length_le (by rw [HLen.out]; exact Nat.le_refl _)
      rw [hall]
      clear hall hle
      go_wp2_with fail
      refine (grow_any _ _ hb2).mono ?_
      rintro e w1 ⟨v, rfl, own, gr⟩
      have HO := Lib.hid own
      have HB := Lib.hid gr
      clear own gr hb2
      go_wp2
      go_loopw [6, 27] (fun v i wr => ∃ j : Nat, j ≤ k ∧ i = .int .i64 j ∧ Hid (OwnB wr w.heap.size 5 v (xss.take j).flatten) ∧ Hid (Below w.heap.size w wr)) (fun _ i _ => k - (intOf i).toNat)
      case atStart => exact ⟨0, Nat.zero_le _, rfl, HO, HB⟩
      case round =>
        obtain ⟨j, hj, rfl, ho, hb⟩ := hrel
        have hbs := hb.out.size
        by_cases hlt : j < k
        · obtain ⟨b, o, rfl, hc⟩ := (HH.out.kept hb.out).lies (by omega)
          obtain ⟨q, m, d, hcell, hby⟩ := hc j hlt
          have hfs := Lib.hid (flat_succ xss j (by rw [HLen.out]; exact hlt))
          have hsz : Hid ((xss.take j).flatten.length + m ≤ 140737488355328) := by
            have h1 := tot_le xss (j + 1)
            rw [tot_succ xss j m (by rw [HLen.out]; exact hlt) hby.len] at h1
            exact Nat.le_trans h1 Hbig.out
          have HBY := Lib.hid hby
          clear hby hc
          go_wp2_with (at_builtin; refine wpList_app_byt bt rfl (.tmp 31) (.tmp 32) rfl w.heap.size _ _ rfl ho.out q m d _ rfl HBY.out hsz.out hbs ?_)
          intro v' w' own grow
          have HO2 := Lib.hid (own.as hfs.out.symm)
          have HB2 : Hid (Below w.heap.size w w') := Below.app hb.out hbs ho.out grow
          clear own grow
          go_wp2
          go_roundw
          case rel => exact ⟨j + 1, by omega, by go_num, HO2, HB2⟩
          case measure => simp [intOf]; omega
        · obtain rfl : j = k := by omega
          have hall : xss.take j = xss := List.take_of_length_le (by rw [HLen.out]; exact Nat.le_refl _)
          have ho2 := ho.out
          rw [hall] at ho2
          obtain ⟨q, d, hv⟩ := ho2.shape (tot xss) rfl
          subst hv
          have HO2 := Lib.hid ho2
          clear ho2 hall
          go_wp2
          go_ret
          exact RetByte.of_own HO2.out hb.out

theorem join_any (p : Option Addr) (n c : Nat) (xss : List (List Int)) (w : World) (h : Rows w p n c xss) (hbig : tot xss ≤ 140737488355328) : Calls Try.prog 61 #[.slice p n c] w (RetByte xss.flatten w) := by
  go_enter Try.func61, Try.ntmps61
  go_wp2_with fail
  refine (concat_any _ _ _ _ _ h hbig).mono ?_
  rintro e w' ⟨q, m, d, rfl, hby, hg, hf⟩
  go_wp2
  go_ret
  exact ⟨q, m, d, rfl, hby, hg, hf⟩

end Go.Proofs.Ytchfhgeipmfegaa
