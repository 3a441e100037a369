
/-
  What the law calls: the two Splits as slices, same, known.
-/
import Derived.Test.YtiffbkgohlbgeaaPa9
namespace Go.Proofs.Ytiffbkgohlbgeaa
open Go.RowKit Go.Shelf
set_option linter.unusedVariables false
set_option linter.unusedSimpArgs false

theorem gr_drewN (w : World) (n : Nat) : Gr w (w.drewN n) := ⟨rfl, rfl, rfl, Nat.le_refl _, fun _ _ => rfl⟩
/-- A Split's answer: its names, as a slice; what is wrong. -/
def RetSl (n : Nat) (C : Int) (xs : List ByteArray) (w : World) (en : Ending) (w' : World) : Prop := ∃ p c, en = .returned (.tuple #[.slice p n c, .int .i64 C]) ∧ SSl w' p n c xs ∧ Gr w w'
theorem split_sl (s : ByteArray) (w : World) (n : Nat) (C : Int) (xs : List ByteArray) (hx : splitR s = xs) (hn : xs.length = n) (hC : wrongR s = C) : Calls Try.prog 10 #[.string s] w (RetSl n C xs w) := (split_any s w).mono fun e w' ⟨v, he, hv, g⟩ => by
  obtain ⟨p, c, e2, h⟩ := hv.sl
  rw [hx, hn] at e2 h
  exact ⟨p, c, by rw [he, e2, hC], h, g⟩
theorem refSplit_sl (s : ByteArray) (w : World) (n : Nat) (C : Int) (xs : List ByteArray) (hs : s.size ≤ 4611686018427387904) (hx : splitR s = xs) (hn : xs.length = n) (hC : wrongR s = C) : Calls Try.prog 9 #[.string s] w (RetSl n C xs w) := (refSplit_any s w hs).mono fun e w' ⟨v, he, hv, g⟩ => by
  obtain ⟨p, c, e2, h⟩ := hv.sl
  rw [hx, hn] at e2 h
  exact ⟨p, c, by rw [he, e2, hC], h, g⟩

set_option maxRecDepth 100000 in
set_option maxHeartbeats 1000000 in
theorem same_any (p q : Option Addr) (n c m d : Nat) (xs ys : List ByteArray) (w : World) (h1 : SSl w p n c xs) (h2 : SSl w q m d ys) (hn : n ≤ 1000) :
    Calls Try.prog 11 #[.slice p n c, .slice q m d] w (RetBl (decide (xs = ys)) w) := by
  have H1 := Lib.hid h1
  have H2 := Lib.hid h2
  have hc1 := h1.cap
  have hc2 : (c : Int) ≤ 9223372036854775807 := by have := h1.most; unfold maxLen at this; omega
  have hd1 := h2.cap
  have hd2 : (d : Int) ≤ 9223372036854775807 := by have := h2.most; unfold maxLen at this; omega
  clear h1 h2
  by_cases hnm : n = m
  · subst hnm
    go_enter Try.func11, Try.ntmps11
    go_wp2_with fail
    go_loopw [5] (fun i wr => ∃ k : Nat, k ≤ n ∧ i = .int .i64 k ∧ Hid (xs.take k = ys.take k) ∧ Hid (Gr w wr)) (fun i _ => n - (intOf i).toNat)
    case atStart => exact ⟨0, Nat.zero_le _, rfl, Lib.hid rfl, Lib.hid (Gr.refl _)⟩
    case round =>
      obtain ⟨k, hk, rfl, hs, hg⟩ := hrel
      by_cases hlt : k < n
      · obtain ⟨b, o, rfl, hc⟩ := H1.out.at' (by omega)
        obtain ⟨b2, o2, rfl, hc'⟩ := H2.out.at' (by omega)
        have hl1 : k < xs.length := by rw [H1.out.len]; exact hlt
        have hl2 : k < ys.length := by rw [H2.out.len]; exact hlt
        have hck : wr.cell? ⟨b, o + k, none⟩ = some (.string xs[k]) := (Below.cell hg.out (p := ⟨b, o + k, none⟩) (World.block_lt_of_cell? w _ (hc k _ (List.getElem?_eq_getElem hl1)))).trans (hc k _ (List.getElem?_eq_getElem hl1))
        have hck2 : wr.cell? ⟨b2, o2 + k, none⟩ = some (.string ys[k]) := (Below.cell hg.out (p := ⟨b2, o2 + k, none⟩) (World.block_lt_of_cell? w _ (hc' k _ (List.getElem?_eq_getElem hl2)))).trans (hc' k _ (List.getElem?_eq_getElem hl2))
        have HT1 := Lib.hid (List.take_succ_eq_append_getElem hl1)
        have HT2 := Lib.hid (List.take_succ_eq_append_getElem hl2)
        have HNE : Hid (xs[k] ≠ ys[k] → xs ≠ ys) := Lib.hid fun h e => h (by subst e; rfl)
        obtain ⟨x, hx⟩ : ∃ x, x = xs[k] := ⟨_, rfl⟩
        obtain ⟨y, hy⟩ : ∃ y, y = ys[k] := ⟨_, rfl⟩
        rw [← hx] at hck HT1 HNE
        rw [← hy] at hck2 HT2 HNE
        clear hc hc' hx hy hl1 hl2
        by_cases hxy : x = y
        · subst hxy
          go_wp2_with fail
          go_quiet (fail)
          go_wp2_with fail
          go_roundw
          case rel => exact ⟨k + 1, by omega, by go_num, Lib.hid (by rw [HT1.out, HT2.out, hs.out]), Lib.hid (Gr.trans hg.out (gr_drewN _ _))⟩
          case measure => first | (simp [intOf]; done) | (simp [intOf]; omega)
        · have hxy' : (x.toList == y.toList) = false := (Lib.bytes_beq_false_iff _ _).2 hxy
          have hxy2 : (x.toList != y.toList) = true := by simpa using hxy'
          have HN := Lib.hid (HNE.out hxy)
          clear hxy
          go_wp2_with fail
          go_quiet (fail)
          go_wp2_with fail
          all_goals
            go_ret
            exact ⟨by rw [decide_eq_false HN.out]; rfl, Gr.trans hg.out (gr_drewN _ _)⟩
      · obtain rfl : k = n := by omega
        have HE : Hid (xs = ys) := Lib.hid (by
          have := hs.out
          rwa [List.take_of_length_le (by rw [H1.out.len]; omega), List.take_of_length_le (by rw [H2.out.len]; omega)] at this)
        go_wp2_with fail
        go_ret
        exact ⟨by rw [decide_eq_true HE.out]; rfl, hg.out⟩
  · have HN : Hid (xs ≠ ys) := Lib.hid fun e => hnm (by rw [← H1.out.len, ← H2.out.len, e])
    have hnm' : ¬ (n : Int) = (m : Int) := by omega
    clear hnm
    go_enter Try.func11, Try.ntmps11
    go_wp2_with fail
    go_ret
    exact ⟨by rw [decide_eq_false HN.out]; rfl, Gr.refl _⟩

/-- The chapter's paths that are none. -/
def badP : Nat → ByteArray
  | 0 => ⟨#[97]⟩ | 1 => ⟨#[47, 97, 47]⟩ | 2 => ⟨#[47, 47]⟩ | 3 => ⟨#[47, 97, 47, 47, 98]⟩ | _ => ⟨#[47, 46]⟩
theorem bad_wrong (k : Nat) : wrongR (badP k) = 6 := by
  match k with
  | 0 => decide +kernel
  | 1 => decide +kernel
  | 2 => decide +kernel
  | 3 => decide +kernel
  | n + 4 => show wrongR ⟨#[47, 46]⟩ = 6; decide +kernel
theorem bad_split (k : Nat) : splitR (badP k) = [] := by unfold splitR; rw [bad_wrong, if_neg (by decide)]
theorem top_wrong : wrongR ⟨#[47]⟩ = 0 := by decide +kernel
theorem top_split : splitR ⟨#[47]⟩ = [] := by decide +kernel
theorem ab_wrong : wrongR ⟨#[47, 97, 47, 98]⟩ = 0 := by decide +kernel
theorem ab_split : splitR ⟨#[47, 97, 47, 98]⟩ = [⟨#[97]⟩, ⟨#[98]⟩] := by decide +kernel
theorem a17_wrong : wrongR ⟨#[47, 97, 97, 97, 97, 97, 97, 97, 97, 97, 97, 97, 97, 97, 97, 97, 97, 97]⟩ = 11 := by decide +kernel
theorem a17_split : splitR ⟨#[47, 97, 97, 97, 97, 97, 97, 97, 97, 97, 97, 97, 97, 97, 97, 97, 97, 97]⟩ = [] := by decide +kernel

set_option maxRecDepth 100000 in
set_option maxHeartbeats 2000000 in
theorem known_any (w : World) : Calls Try.prog 6 #[] w (RetBl true w) := by
  have HB := Lib.hid (fun k w => split_sl (badP k) w 0 6 [] (bad_split k) rfl (bad_wrong k))
  go_enter Try.func6, Try.ntmps6
  go_wp2_with fail
  refine (split_sl _ w 0 0 [] top_split rfl top_wrong).mono ?_
  rintro e w1 ⟨p1, c1, rfl, s1, g1⟩
  have HG1 := Lib.hid g1
  clear s1 g1
  go_wp2_with fail
  refine (split_sl _ w1 2 0 _ ab_split rfl ab_wrong).mono ?_
  rintro e w2 ⟨p2, c2, rfl, s2, g2⟩
  have HS := Lib.hid s2
  have HG2 := Lib.hid (Gr.trans HG1.out g2)
  clear s2 g2 HG1
  go_wp2_with fail
  have hb := Blk.new w2 TStr #[.string ⟨#[97]⟩, .string ⟨#[47, 97, 47]⟩, .string ⟨#[47, 47]⟩, .string ⟨#[47, 97, 47, 47, 98]⟩, .string ⟨#[47, 46]⟩]
  have gV := (Gr.refl w2).alloc (Nat.le_refl _) (.cells #[.string ⟨#[97]⟩, .string ⟨#[47, 97, 47]⟩, .string ⟨#[47, 47]⟩, .string ⟨#[47, 97, 47, 47, 98]⟩, .string ⟨#[47, 46]⟩] TStr)
  obtain ⟨V, hV⟩ : ∃ V, V = w2.alloc (.cells #[.string ⟨#[97]⟩, .string ⟨#[47, 97, 47]⟩, .string ⟨#[47, 47]⟩, .string ⟨#[47, 97, 47, 47, 98]⟩, .string ⟨#[47, 46]⟩] TStr) := ⟨_, rfl⟩
  rw [← hV] at hb gV
  rw [show w2.alloc (.cells #[.string ⟨#[97]⟩, .string ⟨#[47, 97, 47]⟩, .string ⟨#[47, 47]⟩, .string ⟨#[47, 97, 47, 47, 98]⟩, .string ⟨#[47, 46]⟩] 9) = V from hV.symm]
  have HV : Hid (∀ wr, Gr V wr → ∀ k, k < 5 → wr.cell? ⟨w2.heap.size, k, none⟩ = some (.string (badP k))) := Lib.hid fun wr g k hk => by
    have h2 := (hb.below g hb.lt).cell k
    rw [h2]
    match k, hk with
    | 0, _ => rfl
    | 1, _ => rfl
    | 2, _ => rfl
    | 3, _ => rfl
    | 4, _ => rfl
  have HSV := Lib.hid (HS.out.gr gV)
  have HGV := Lib.hid (Gr.trans HG2.out gV)
  clear hb gV hV HS HG2
  go_loopw [6] (fun i wr => ∃ k : Nat, k ≤ 5 ∧ i = .int .i64 k ∧ Hid (Gr V wr)) (fun i _ => 5 - (intOf i).toNat)
  case atStart => exact ⟨0, Nat.zero_le _, rfl, Lib.hid (Gr.refl _)⟩
  case round =>
    obtain ⟨k, hk, rfl, hg⟩ := hrel
    by_cases hlt : k < 5
    · have hc := HV.out wr hg.out k hlt
      go_wp2_with fail
      refine (HB.out k wr).mono ?_
      rintro e w3 ⟨p3, c3, rfl, s3, g3⟩
      have HG3 := Lib.hid (Gr.trans hg.out g3)
      clear s3 g3
      go_wp2_with fail
      go_roundw
      case rel => exact ⟨k + 1, by omega, by go_num, HG3⟩
      case measure => first | (simp [intOf]; done) | (simp [intOf]; omega)
    · obtain rfl : k = 5 := by omega
      go_wp2_with fail
      refine (split_sl _ wr 0 11 [] a17_split rfl a17_wrong).mono ?_
      rintro e w3 ⟨p3, c3, rfl, s3, g3⟩
      have hs := HSV.out.gr (Gr.trans hg.out g3)
      obtain ⟨b, o, rfl, hc⟩ := hs.at' (by decide)
      have hc0 := hc 0 _ rfl
      have hc1 := hc 1 _ rfl
      rw [Nat.add_zero] at hc0
      have hcap := hs.cap
      have hmost : (c2 : Int) ≤ 9223372036854775807 := by have := hs.most; unfold maxLen at this; omega
      have HG3 := Lib.hid (Gr.trans HGV.out (Gr.trans hg.out g3))
      clear s3 g3 hs hc
      go_wp2_with fail
      go_ret
      exact ⟨rfl, HG3.out⟩
end Go.Proofs.Ytiffbkgohlbgeaa
