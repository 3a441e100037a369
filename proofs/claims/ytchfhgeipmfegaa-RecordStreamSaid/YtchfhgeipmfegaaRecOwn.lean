
/-
  Bytes that a call made itself, which may be written: joined; a record's.
-/
import Derived.Test.YtchfhgeipmfegaaRecBytes
namespace Go.Proofs.Ytchfhgeipmfegaa
open Go.RowKit Cr

theorem OwnB.set {w : World} {base tB g n cap : Nat} {xs : List Int} (h : OwnB w base tB (.slice (some ⟨g, 0, none⟩) n cap) xs) (k : Nat) (x : Int) (hx : 0 ≤ x ∧ x < 256) : OwnB (w.setCell ⟨g, k, none⟩ (.int .u8 x)) base tB (.slice (some ⟨g, 0, none⟩) n cap) (xs.set k x) := by
  have hs := h.small
  obtain ⟨hr, rfl⟩ := h.byt
  obtain ⟨⟨h1, h2⟩, _⟩ := h
  rcases h2 with ⟨h0, _⟩ | ⟨g', cap', cur, h0, hb, hg, hnc, hcm, hcs, ht⟩
  · simp at h0
  · simp only [Value.slice.injEq, Option.some.injEq, Addr.mk.injEq, and_true, true_and] at h0
    obtain ⟨rfl, rfl⟩ := h0
    refine ⟨⟨by simp, .inr ⟨g, cap, cur.setIfInBounds k (.int .u8 x), by simp, hb, heap_setCell_same w g k cur tB _ hg, by simpa using hnc, hcm, by simpa using hcs, ?_⟩⟩, ?_⟩
    · simp only [List.length_set, List.map_set, ← ht, Array.toList_setIfInBounds, List.take_set]
    · intro y hy
      rcases List.mem_or_eq_of_mem_set hy with h | h
      · exact hs y h
      · subst h; exact hx
theorem OwnB.opened {w : World} {base tB n : Nat} {p : Option Addr} {cap : Nat} {xs : List Int} (h : OwnB w base tB (.slice p n cap) xs) (hn : 0 < n) : ∃ g, p = some ⟨g, 0, none⟩ ∧ base ≤ g ∧ g < w.heap.size ∧ ∀ k, k < n → w.cell? ⟨g, k, none⟩ = some (.int .u8 (xs.getD k 0)) ∧ w.frozen? ⟨g, k, none⟩ = false := by
  obtain ⟨hr, rfl⟩ := h.byt
  rcases h.row.2 with ⟨h0, h1⟩ | ⟨g', cap', cur, h0, hb, hg, hnc, hcm, hcs, ht⟩
  · simp only [Value.slice.injEq] at h0; omega
  · cases h0
    obtain ⟨b, o, e, hc⟩ := hr.at hn
    cases e
    refine ⟨g', rfl, hb, ?_, fun k hk => ⟨by have := hc k hk; simpa using this, frozen_of_row w g' k cur tB hg⟩⟩
    have := hc 0 hn
    exact blk_lt this

/-- A row stays, as the world grows. -/
theorem OwnB.below' {w w' : World} {base tB : Nat} {v : Value} {xs : List Int} (h : OwnB w base tB v xs) (g : Below w.heap.size w w') : OwnB w' base tB v xs := by
  refine ⟨⟨h.row.1, ?_⟩, h.small⟩
  rcases h.row.2 with h2 | ⟨b, cap, cur, e, h0, hg, r⟩
  · exact .inl h2
  · have hlt : b < w.heap.size := (Array.getElem?_eq_some_iff.1 hg).1
    exact .inr ⟨b, cap, cur, e, h0, (g.block b hlt).trans hg, r⟩
/-- The answer: a row of the call's own. -/
def RetOwn (tB : Nat) (xs : List Int) (w : World) (e : Ending) (w' : World) : Prop := ∃ v, e = .returned v ∧ OwnB w' w.heap.size tB v xs ∧ Gr w w'
/-- What was made behind a later point was made behind an earlier one. -/
theorem OwnB.base_le {w : World} {B B' tB : Nat} {v : Value} {xs : List Int} (h : OwnB w B tB v xs) (hb : B' ≤ B) : OwnB w B' tB v xs := by
  refine ⟨⟨h.row.1, ?_⟩, h.small⟩
  rcases h.row.2 with h2 | ⟨g, cap, cur, e, h0, r⟩
  · exact .inl h2
  · exact .inr ⟨g, cap, cur, e, Nat.le_trans hb h0, r⟩

set_option maxHeartbeats 800000 in
theorem concat_own (p : Option Addr) (n c : Nat) (xss : List (List Int)) (w : World) (h : Rows w p n c xss) (hbig : tot xss ≤ 140737488355328) : Calls Try.prog 81 #[.slice p n c] w (RetOwn 5 xss.flatten w) := by
  have HLen := Lib.hid h.len
  have hn63 : n ≤ 9223372036854775807 := by have := h.cap; have := h.most; unfold maxLen at this; omega
  have HH := Lib.hid h
  have Hbig := Lib.hid hbig
  clear h hbig
  go_enter Try.func81, Try.ntmps81
  go_wp2
  go_loop [3, 11] (fun t i => ∃ k : Nat, k ≤ n ∧ i = .int .i64 k ∧ t = .int .i64 (tot (xss.take k) : Nat)) (fun _ i => n - (intOf i).toNat)
  case atStart => exact ⟨0, Nat.zero_le _, rfl, rfl⟩
  case round =>
    obtain ⟨k, hk, rfl, rfl⟩ := hrel
    have hle := tot_le xss k
    have hb2 := Hbig.out
    by_cases hlt : k < n
    · obtain ⟨b, o, rfl, hc⟩ := HH.out.lies (by omega)
      obtain ⟨q, m, d, hcell, hby⟩ := hc k hlt
      have hle2 := tot_le xss (k + 1)
      have hL := tot_succ xss k m (by rw [HLen.out]; exact hlt) hby.len
      have HL := Lib.hid hL
      have hSm : tot (xss.take k) + m ≤ 140737488355328 := by omega
      clear hL hle2 hc hby hb2 hle
      go_wp2
      go_round
      case rel => exact ⟨k + 1, by omega, by go_num, congrArg (Value.int .i64) (by rw [HL.out]; rfl)⟩
      case measure => simp [intOf]; omega
    · obtain rfl : k = n := by omega
      have hall : xss.take k = xss := List.take_of_length_le (by rw [HLen.out]; exact Nat.le_refl _)
      rw [hall]
      clear hall hle
      go_wp2_with fail
      refine (grow_any _ _ hb2).mono ?_
      rintro e w1 ⟨v, rfl, own, gr⟩
      have HO := Lib.hid own
      have HB := Lib.hid gr
      clear own gr hb2
      go_wp2
      go_loopw [6, 27] (fun v i wr => ∃ j : Nat, j ≤ k ∧ i = .int .i64 j ∧ Hid (OwnB wr w.heap.size 5 v (xss.take j).flatten) ∧ Hid (Below w.heap.size w wr)) (fun _ i _ => k - (intOf i).toNat)
      case atStart => exact ⟨0, Nat.zero_le _, rfl, HO, HB⟩
      case round =>
        obtain ⟨j, hj, rfl, ho, hb⟩ := hrel
        have hbs := hb.out.size
        by_cases hlt : j < k
        · obtain ⟨b, o, rfl, hc⟩ := (HH.out.kept hb.out).lies (by omega)
          obtain ⟨q, m, d, hcell, hby⟩ := hc j hlt
          have hfs := Lib.hid (flat_succ xss j (by rw [HLen.out]; exact hlt))
          have hsz : Hid ((xss.take j).flatten.length + m ≤ 140737488355328) := by
            have h1 := tot_le xss (j + 1)
            rw [tot_succ xss j m (by rw [HLen.out]; exact hlt) hby.len] at h1
            exact Nat.le_trans h1 Hbig.out
          have HBY := Lib.hid hby
          clear hby hc
          go_wp2_with (at_builtin; refine wpList_app_byt bt rfl (.tmp 31) (.tmp 32) rfl w.heap.size _ _ rfl ho.out q m d _ rfl HBY.out hsz.out hbs ?_)
          intro v' w' own grow
          have HO2 := Lib.hid (own.as hfs.out.symm)
          have HB2 : Hid (Below w.heap.size w w') := Below.app hb.out hbs ho.out grow
          clear own grow
          go_wp2
          go_roundw
          case rel => exact ⟨j + 1, by omega, by go_num, HO2, HB2⟩
          case measure => simp [intOf]; omega
        · obtain rfl : j = k := by omega
          have hall : xss.take j = xss := List.take_of_length_le (by rw [HLen.out]; exact Nat.le_refl _)
          have ho2 := ho.out
          rw [hall] at ho2
          obtain ⟨q, d, hv⟩ := ho2.shape (tot xss) rfl
          subst hv
          have HO2 := Lib.hid ho2
          clear ho2 hall
          go_wp2
          go_ret
          exact ⟨_, rfl, HO2.out, hb.out⟩

theorem join_own (p : Option Addr) (n c : Nat) (xss : List (List Int)) (w : World) (h : Rows w p n c xss) (hbig : tot xss ≤ 140737488355328) : Calls Try.prog 61 #[.slice p n c] w (RetOwn 5 xss.flatten w) := by
  go_enter Try.func61, Try.ntmps61
  go_wp2_with fail
  refine (concat_own _ _ _ _ _ h hbig).mono ?_
  rintro e w' ⟨v, rfl, ho, hg⟩
  go_wp2
  go_ret
  exact ⟨v, rfl, ho, hg⟩


set_option maxRecDepth 100000 in
set_option maxHeartbeats 2000000 in
theorem bytes_own (c : Rc) (pb : Option Addr) (nb cb : Nat) (pa : Option Addr) (na ca : Nat) (at' : Nat) (w : World) (hm : mayR c = true) (hi : c.In) (hb : Byt w pb nb cb c.b) (ha : Byt w pa na ca c.a) (hat : at' ≤ 18446744073709551615) :
    Calls Try.prog 27 #[.agg #[.int .i64 c.k, .int .u64 c.t, .int .u64 c.p, .int .u64 c.x, .int .i64 c.g, .int .i64 c.o, .slice pb nb cb, .slice pa na ca], .int .u64 at'] w fun e w' => ∃ v, e = .returned (.tuple #[v, .int .i64 0]) ∧ OwnB w' w.heap.size 5 v (recL c at') ∧ Gr w w' := by
  have HG0 := Lib.hid ((Gr.refl w).alloc (Nat.le_refl _) (.cells #[.int .i64 c.k, .int .u64 c.t, .int .u64 c.p, .int .u64 c.x, .int .i64 c.g, .int .i64 c.o, .slice pb nb cb, .slice pa na ca] TR))
  have HMa := mayR_any c pb nb cb pa na ca (w.alloc (.cells #[.int .i64 c.k, .int .u64 c.t, .int .u64 c.p, .int .u64 c.x, .int .i64 c.g, .int .i64 c.o, .slice pb nb cb, .slice pa na ca] TR)) (hb.kept HG0.out) (ha.kept HG0.out)
  rw [hm] at HMa
  have HM := Lib.hid HMa
  have HBO := Lib.hid (fun W (gr : Gr (w.alloc (.cells #[.int .i64 c.k, .int .u64 c.t, .int .u64 c.p, .int .u64 c.x, .int .i64 c.g, .int .i64 c.o, .slice pb nb cb, .slice pa na ca] TR)) W) => body_any c pb nb cb pa na ca W hm hi ((hb.kept HG0.out).kept gr) ((ha.kept HG0.out).kept gr))
  have HB := Lib.hid (Blk.new w TR #[.int .i64 c.k, .int .u64 c.t, .int .u64 c.p, .int .u64 c.x, .int .i64 c.g, .int .i64 c.o, .slice pb nb cb, .slice pa na ca])
  have hf := mayR_fits hm
  have f7 := hf.na
  have f9 := hf.nb1
  have hlen := bodyL_len c
  have HREC : Hid (∀ B0 n m, B0 = bodyL c → n = 29 + c.b.length + c.a.length → m = (sumW (Wd.enc 8 at' ++ [Wd.enc 2 n, B0].flatten)).toNat → [Wd.enc 2 n, Wd.enc 4 m, B0].flatten = recL c at') := Lib.hid (fun B0 n m h1 h2 h3 => by
    subst h1 h2 h3
    unfold recL sumL sizeL
    simp)
  obtain ⟨B0, hB0⟩ : ∃ B0, B0 = bodyL c := ⟨_, rfl⟩
  rw [← hB0] at hlen HBO
  have HB0 := Lib.hid hB0
  obtain ⟨N, hN⟩ : ∃ N, N = 29 + c.b.length + c.a.length := ⟨_, rfl⟩
  rw [← hN] at hlen
  have hn1 : N ≤ 600 := by omega
  have HN := Lib.hid hN
  have HAT := Lib.hid hat
  have HLB := Lib.hid hlen
  obtain ⟨R0, hR0⟩ : ∃ R0, R0 = recL c at' := ⟨_, rfl⟩
  have HREC2 : Hid (∀ m, m = (sumW (Wd.enc 8 at' ++ [Wd.enc 2 N, B0].flatten)).toNat → [Wd.enc 2 N, Wd.enc 4 m, B0].flatten = R0) := Lib.hid fun m h => by rw [hR0]; exact HREC.out B0 N m HB0.out HN.out h
  rw [← hR0]
  clear hR0 HREC
  have hfit : fitsB N (2 : Nat) = true := fitK (k := 2) (by omega) (by omega) (by omega)
  have HFI := Lib.hid (fun W => word_fit N 2 W hfit)
  have HFM := Lib.hid (fun m (h : m ≤ 4294967295) W => word_fit m 4 W (fitK (k := 4) (by omega) (by omega) (by omega)))
  obtain ⟨k, t, p, x, g, o, b, a⟩ := c
  simp only at HM HB HG0 HBO
  obtain ⟨c0, c1, c2, c3, c4, c5, c6, c7⟩ := HB.out.c8
  clear hm hb ha hf f7 f9 hi hB0 hN hlen HMa hat hfit HN HB0
  go_enter Try.func27, Try.ntmps27
  go_wp2_with fail
  refine HM.out.mono ?_
  rintro e w1 ⟨rfl, g1⟩
  have HB1 := HB.out.below g1 HB.out.lt
  have HBO1 := Lib.hid (HBO.out w1 g1)
  have HG1 := Lib.hid (Below.trans HG0.out (g1.mono HG0.out.size))
  clear g1 HM c0 c1 c2 c3 c4 c5 c6 c7 HBO
  obtain ⟨c0, c1, c2, c3, c4, c5, c6, c7⟩ := HB1.c8
  clear HB1
  go_wp2_with fail
  refine HBO1.out.mono ?_
  rintro e w2 ⟨q, nr, cr, rfl, hy, g2, _⟩
  have hl := hy.len
  rw [HLB.out] at hl
  subst hl
  have HR2 := Lib.hid hy
  have HG2 := Lib.hid (Below.trans HG1.out (g2.mono HG1.out.size))
  clear g2 hy HBO1 c0 c1 c2 c3 c4 c5 c6 c7
  go_wp2_with fail
  refine (HFI.out _).mono ?_
  rintro e w3 ⟨q3, m3, d3, rfl, hy3, g3, _⟩
  have HR3 := Lib.hid (HR2.out.kept g3)
  have HY3 := Lib.hid hy3
  have HG3 := Lib.hid (Below.trans HG2.out (g3.mono HG2.out.size))
  have HRows := Lib.hid (Rows.two (t := 22) hy3 HR3.out rfl)
  clear g3 hy3 HR2 HFI
  go_wp2_with fail
  refine (at_crc _ _ _ _ _ _ HAT.out HRows.out).mono ?_
  rintro e w4 ⟨rfl, g4⟩
  have HR4 := Lib.hid (HR3.out.kept (grow1 g4))
  have HY4 := Lib.hid (HY3.out.kept (grow1 g4))
  have HG4 := Lib.hid (Below.trans HG3.out ((grow1 g4).mono HG3.out.size))
  clear g4 HR3 HY3 HRows
  obtain ⟨S, hS⟩ : ∃ S, S = sumW (Wd.enc 8 at' ++ [Wd.enc 2 N, B0].flatten) := ⟨_, rfl⟩
  rw [← hS]
  have hU : U S = ((S.toNat : Nat) : Int) := rfl
  obtain ⟨m, hm⟩ : ∃ m, m = S.toNat := ⟨_, rfl⟩
  have hm1 : m ≤ 4294967295 := by have := S.isLt; omega
  rw [hU, ← hm]
  have HS := Lib.hid hS
  have HM := Lib.hid hm
  clear hS hm hU
  go_wp2_with fail
  refine (HFM.out m hm1 _).mono ?_
  rintro e w5 ⟨q5, m5, d5, rfl, hy5, g5, _⟩
  have HR5 := Lib.hid (HR4.out.kept g5)
  have HY5 := Lib.hid (HY4.out.kept g5)
  have HG5 := Lib.hid (Below.trans HG4.out (g5.mono HG4.out.size))
  have HRows := Lib.hid (Rows.three (t := 22) HY5.out hy5 HR5.out rfl)
  clear hy5 g5 HR4 HY4
  go_wp2_with fail
  refine (join_own _ _ _ _ _ HRows.out (by have := HLB.out; unfold tot; simp only [List.flatten_cons, List.flatten_nil, List.length_append, Wd.enc_length, List.length_nil]; omega)).mono ?_
  rintro e w6 ⟨v6, rfl, ho6, g6⟩
  have HG6 := Lib.hid (Below.trans HG5.out ((grow1 g6).mono HG5.out.size))
  have hle : w.heap.size ≤ (w5.alloc (.cells #[.slice q3 m3 d3, .slice q5 m5 d5, .slice q N cr] 22)).heap.size := by have := HG5.out.size; simp; omega
  have HJ6 := Lib.hid ((ho6.base_le hle).as (HREC2.out m (by rw [HM.out, HS.out])))
  obtain ⟨q6, d6, hv⟩ := HJ6.out.shape _ rfl
  subst hv
  clear ho6 g6 hle HRows
  go_wp2_with fail
  go_ret2
  exact ⟨_, rfl, HJ6.out, HG6.out⟩


end Go.Proofs.Ytchfhgeipmfegaa
