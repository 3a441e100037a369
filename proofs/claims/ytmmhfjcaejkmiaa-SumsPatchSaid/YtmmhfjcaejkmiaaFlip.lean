import Derived.Test.YtmmhfjcaejkmiaaKnownc
namespace Go.Proofs.Ytmmhfjcaejkmiaa
open Go.RowKit Cr

theorem OwnB.set {w : World} {base tB g n cap : Nat} {xs : List Int} (h : OwnB w base tB (.slice (some ⟨g, 0, none⟩) n cap) xs) (k : Nat) (x : Int) (hx : 0 ≤ x ∧ x < 256) : OwnB (w.setCell ⟨g, k, none⟩ (.int .u8 x)) base tB (.slice (some ⟨g, 0, none⟩) n cap) (xs.set k x) := by
  have hs := h.small
  obtain ⟨hr, rfl⟩ := h.byt
  obtain ⟨⟨h1, h2⟩, _⟩ := h
  rcases h2 with ⟨h0, _⟩ | ⟨g', cap', cur, h0, hb, hg, hnc, hcm, hcs, ht⟩
  · simp at h0
  · simp only [Value.slice.injEq, Option.some.injEq, Addr.mk.injEq, and_true, true_and] at h0
    obtain ⟨rfl, rfl⟩ := h0
    refine ⟨⟨by simp, .inr ⟨g, cap, cur.setIfInBounds k (.int .u8 x), by simp, hb, heap_setCell_same w g k cur tB _ hg, by simpa using hnc, hcm, by simpa using hcs, ?_⟩⟩, ?_⟩
    · simp only [List.length_set, List.map_set, ← ht, Array.toList_setIfInBounds, List.take_set]
    · intro y hy
      rcases List.mem_or_eq_of_mem_set hy with h | h
      · exact hs y h
      · subst h; exact hx
theorem OwnB.opened {w : World} {base tB n : Nat} {p : Option Addr} {cap : Nat} {xs : List Int} (h : OwnB w base tB (.slice p n cap) xs) (hn : 0 < n) : ∃ g, p = some ⟨g, 0, none⟩ ∧ base ≤ g ∧ g < w.heap.size ∧ ∀ k, k < n → w.cell? ⟨g, k, none⟩ = some (.int .u8 (xs.getD k 0)) ∧ w.frozen? ⟨g, k, none⟩ = false := by
  obtain ⟨hr, rfl⟩ := h.byt
  rcases h.row.2 with ⟨h0, h1⟩ | ⟨g', cap', cur, h0, hb, hg, hnc, hcm, hcs, ht⟩
  · simp only [Value.slice.injEq] at h0; omega
  · cases h0
    obtain ⟨b, o, e, hc⟩ := hr.at hn
    cases e
    refine ⟨g', rfl, hb, ?_, fun k hk => ⟨by have := hc k hk; simpa using this, frozen_of_row w g' k cur tB hg⟩⟩
    have := hc 0 hn
    exact blk_lt this

theorem flip_spell (x : Int) (hx : 0 ≤ x ∧ x < 256) (F : W) (k : Nat) : bits .xor .u8 x (U F / 2 ^ (8 * k) % 256) = Cr.flip x (F.toNat / 256 ^ k % 256) := by
  have e : U F / 2 ^ (8 * k) % 256 = ((F.toNat / 256 ^ k % 256 : Nat) : Int) := by
    unfold U
    rw [Wd.pow256, Int.natCast_emod, Int.natCast_ediv, Int.natCast_pow]
    rfl
  rw [e, u8_xor x _ hx.1 hx.2 (by omega) (by omega)]
  rfl
theorem flip_small (x : Int) (hx : 0 ≤ x ∧ x < 256) (v : Nat) (hv : v < 256) : 0 ≤ Cr.flip x v ∧ Cr.flip x v < 256 := by
  unfold Cr.flip
  have := Nat.xor_lt_two_pow (n := 8) (show x.toNat < 2 ^ 8 by omega) (show v < 2 ^ 8 by omega)
  omega

set_option maxRecDepth 100000 in
theorem flipped_no (p : Option Addr) (n c : Nat) (A f : Int) (w : World) (hl : (n : Int) ≤ 4000) (h : A < 0 ∨ (n : Int) - 4 < A) : Calls Try.prog 12 #[.slice p n c, .int .i64 A, .int .u32 f] w fun e w' => e = .returned (.slice none 0 0) ∧ w = w' := by
  by_cases h0 : A < 0
  · clear h
    go_enter Try.func12, Try.ntmps12
    go_wp2
    go_ret
    exact ⟨rfl, rfl⟩
  · have h1 : ¬ A ≤ (n : Int) - 4 := by omega
    clear h
    go_enter Try.func12, Try.ntmps12
    go_wp2
    go_ret
    exact ⟨rfl, rfl⟩

set_option maxRecDepth 100000 in
set_option maxHeartbeats 400000 in
theorem flipped_yes (p : Option Addr) (n c : Nat) (xs : List Int) (A : Nat) (F : W) (w : World) (h : Byt w p n c xs) (hl : n ≤ 4000) (ha : A + 4 ≤ n) : Calls Try.prog 12 #[.slice p n c, .int .i64 A, .int .u32 (U F)] w fun e w' => ∃ q d, e = .returned (.slice (some q) n d) ∧ Byt w' (some q) n d (turn xs A F.toNat 4) ∧ Gr w w' := by
  have HH := Lib.hid h
  have HL := Lib.hid h.len
  have h0 : ¬ (A : Int) < 0 := by omega
  have h1 : (A : Int) ≤ (n : Int) - 4 := by omega
  have hb1 : decide ((n : Int) - 4 < (A : Int)) = false := by simp; omega
  clear h
  go_enter Try.func12, Try.ntmps12
  go_wp2_with (at_builtin; refine wpList_app_byt btc rfl (.const (.slice none 0 0)) (.tmp 18) rfl w.heap.size (.slice none 0 0) [] rfl (OwnB.nil _ _ _) p n c _ rfl HH.out (by simp; omega) (Nat.le_refl _) ?_)
  intro v' w' own grow
  have own : OwnB w' w.heap.size 5 v' xs := own.as (by simp)
  obtain ⟨p', c', hv⟩ := own.shape n HL.out
  subst hv
  obtain ⟨g, rfl, hgb, hgl, _⟩ := own.opened (by omega)
  have HO := Lib.hid own
  have HG : Hid (Gr w w') := Lib.hid (Below.app (Gr.refl w) (Nat.le_refl _) (OwnB.nil _ _ 5) grow)
  have HGB := Lib.hid hgb
  clear own grow hgb hgl
  go_wp2
  go_loopw [8] (fun i wr => ∃ k : Nat, k ≤ 4 ∧ i = .int .i64 k ∧ OwnB wr w.heap.size 5 (.slice (some ⟨g, 0, none⟩) n c') (turn xs A F.toNat k) ∧ Gr w wr) (fun i _ => 4 - (intOf i).toNat)
  case atStart => exact ⟨0, Nat.zero_le _, rfl, HO.out, HG.out⟩
  case round =>
    clear HO HG
    obtain ⟨k, hk, rfl, ho, hg⟩ := hrel
    have HO := Lib.hid ho
    have HG := Lib.hid hg
    clear ho hg
    by_cases hlt : k < 4
    · obtain ⟨g', e, _, _, hcell⟩ := HO.out.opened (by omega)
      cases e
      obtain ⟨hc, hf⟩ := hcell (A + k) (by omega)
      have HX := HO.out.small.getD (A + k)
      have HT : Hid (turn xs A F.toNat (k + 1) = (turn xs A F.toNat k).set (A + k) (Cr.flip ((turn xs A F.toNat k).getD (A + k) 0) (F.toNat / 256 ^ k % 256))) := Lib.hid rfl
      obtain ⟨x, hx⟩ : ∃ x, x = (turn xs A F.toNat k).getD (A + k) 0 := ⟨_, rfl⟩
      rw [← hx] at HX hc HT
      clear hx hcell
      have HS := Lib.hid (flip_spell x HX F k)
      have HN := Lib.hid (flip_small x HX (F.toNat / 256 ^ k % 256) (Nat.mod_lt _ (by omega)))
      have HY := Lib.hid HX
      clear HX
      go_wp2
      go_roundw
      case rel => exact ⟨k + 1, by omega, by go_num, by rw [HT.out, HS.out]; exact HO.out.set _ _ HN.out, HG.out.setCell HGB.out _⟩
      case measure => simp [intOf]; omega
    · obtain rfl : k = 4 := by omega
      go_wp2
      go_ret
      exact ⟨_, _, rfl, HO.out.byt.1, HG.out⟩

end Go.Proofs.Ytmmhfjcaejkmiaa
