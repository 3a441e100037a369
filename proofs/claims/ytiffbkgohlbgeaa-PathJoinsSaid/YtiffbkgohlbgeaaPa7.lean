
/-
  Paths put together: the document's way, the code's.
-/
import Derived.Test.YtiffbkgohlbgeaaPa6
namespace Go.Proofs.Ytiffbkgohlbgeaa
open Go.RowKit Go.Shelf
set_option linter.unusedVariables false
set_option linter.unusedSimpArgs false

theorem txt_add (a : List UInt8) (s : ByteArray) : txt a ++ s = txt (a ++ bys s) := by
  apply bys_inj
  rw [bys_add, bys_txt, bys_txt]
theorem jn_take (xs : List ByteArray) (k : Nat) (h : k < xs.length) : txt (jn (xs.take k)) ++ ⟨#[47]⟩ ++ xs[k] = txt (jn (xs.take (k + 1))) := by
  rw [List.take_succ_eq_append_getElem h, jn_app, jn_cons, jn_nil, txt_add, txt_add, show bys ⟨#[47]⟩ = [47] from rfl]
  simp
theorem jn_le (xs : List ByteArray) (m : Nat) (h : ∀ x ∈ xs, x.size ≤ m) : (jn xs).length ≤ xs.length * (m + 1) := by
  induction xs with
  | nil => simp [jn_nil]
  | cons x r ih =>
    rw [jn_cons, List.length_cons, List.length_append, List.length_cons, Nat.add_mul, bys_len]
    have := ih fun y hy => h y (by simp [hy])
    have := h x (by simp)
    omega
theorem pathB_nil : pathB [] = ⟨#[47]⟩ := rfl
theorem pathB_some {xs : List ByteArray} (h : xs ≠ []) : pathB xs = txt (jn xs) := by unfold pathB; rw [if_neg h]

set_option maxRecDepth 100000 in
set_option maxHeartbeats 1000000 in
theorem refJoin_any (p : Option Addr) (n c : Nat) (xs : List ByteArray) (w : World) (h : SSl w p n c xs) (hb : ∀ x ∈ xs, x.size ≤ 1000) (hn : n ≤ 1000) :
    Calls Try.prog 8 #[.slice p n c] w fun e w' => e = .returned (.string (pathB xs)) ∧ w = w' := by
  have HS := Lib.hid h
  have HB := Lib.hid hb
  have hcap := h.cap
  have hmost : (c : Int) ≤ 9223372036854775807 := by have := h.most; unfold maxLen at this; omega
  clear h hb
  go_enter Try.func8, Try.ntmps8
  go_wp2_with fail
  go_loop [3, 4] (fun t i => ∃ k : Nat, k ≤ n ∧ i = .int .i64 k ∧ t = .string (txt (jn (xs.take k)))) (fun _ i => n - (intOf i).toNat)
  case atStart => exact ⟨0, Nat.zero_le _, rfl, rfl⟩
  case round =>
    obtain ⟨k, hk, rfl, rfl⟩ := hrel
    by_cases hlt : k < n
    · obtain ⟨b, o, rfl, hc⟩ := HS.out.at' (by omega)
      have hlt2 : k < xs.length := by rw [HS.out.len]; exact hlt
      have hck := hc k _ (List.getElem?_eq_getElem hlt2)
      have HJ := Lib.hid (jn_take xs k hlt2)
      obtain ⟨x, hx⟩ : ∃ x, x = xs[k] := ⟨_, rfl⟩
      have hxs : x.size ≤ 1000 := by rw [hx]; exact HB.out _ (List.getElem_mem hlt2)
      have hl1 : (txt (jn (xs.take k))).size ≤ 1000 * 1001 := by
        have h1 := jn_le (xs.take k) 1000 fun y hy => HB.out y (List.mem_of_mem_take hy)
        rw [← bys_len, bys_txt]
        have h2 : (xs.take k).length ≤ 1000 := by rw [List.length_take]; omega
        have h3 := Nat.mul_le_mul_right 1001 h2
        omega
      rw [← hx] at HJ hck
      obtain ⟨t, ht⟩ : ∃ t, t = txt (jn (xs.take k)) := ⟨_, rfl⟩
      rw [← ht] at HJ hl1 ⊢
      clear hc hx ht
      go_wp2_with fail
      go_round
      case rel => exact ⟨k + 1, by omega, by go_num, by rw [HJ.out]⟩
      case measure => first | (simp [intOf]; done) | (simp [intOf]; omega)
    · obtain rfl : k = n := by omega
      have HT : Hid (xs.take k = xs) := Lib.hid (List.take_of_length_le (by rw [HS.out.len]; omega))
      rw [HT.out]
      by_cases h0 : k = 0
      · have HX : Hid (pathB xs = ⟨#[47]⟩) := Lib.hid (by rw [List.eq_nil_of_length_eq_zero (HS.out.len.trans h0)]; rfl)
        subst h0
        clear hcap
        go_wp2_with fail
        go_ret
        exact ⟨by rw [HX.out]; rfl, rfl⟩
      · have HX : Hid (pathB xs = txt (jn xs)) := Lib.hid (pathB_some (fun e => h0 (by rw [← HS.out.len, e]; rfl)))
        have hq : ((k : Int) == 0) = false := beq_eq_false_iff_ne.2 (by omega)
        go_wp2_with fail
        go_ret
        exact ⟨by rw [HX.out]; rfl, rfl⟩

theorem jn_step (xs : List ByteArray) (k : Nat) (h : k < xs.length) : (jn (xs.take (k + 1))).length = (jn (xs.take k)).length + (1 + xs[k].size) := by
  rw [List.take_succ_eq_append_getElem h, jn_app, jn_cons, jn_nil, ← bys_len]
  simp
  omega

set_option maxRecDepth 100000 in
set_option maxHeartbeats 1000000 in
theorem long_any (p : Option Addr) (n c : Nat) (xs : List ByteArray) (w : World) (h : SSl w p n c xs) (hb : ∀ x ∈ xs, x.size ≤ 1000) (hn : n ≤ 1000) :
    Calls Try.prog 17 #[.slice p n c] w fun e w' => e = .returned (.bool (decide ((128 : Int) < ((jn xs).length : Nat)))) ∧ w = w' := by
  have HS := Lib.hid h
  have HB := Lib.hid hb
  have hcap := h.cap
  have hmost : (c : Int) ≤ 9223372036854775807 := by have := h.most; unfold maxLen at this; omega
  clear h hb
  go_enter Try.func17, Try.ntmps17
  go_wp2_with fail
  go_loop [3, 8] (fun t i => ∃ k m : Nat, k ≤ n ∧ i = .int .i64 k ∧ t = .int .i64 m ∧ Hid (m = (jn (xs.take k)).length)) (fun _ i => n - (intOf i).toNat)
  case atStart => exact ⟨0, 0, Nat.zero_le _, rfl, rfl, Lib.hid rfl⟩
  case round =>
    obtain ⟨k, m, hk, rfl, rfl, hm⟩ := hrel
    by_cases hlt : k < n
    · obtain ⟨b, o, rfl, hc⟩ := HS.out.at' (by omega)
      have hlt2 : k < xs.length := by rw [HS.out.len]; exact hlt
      have hck := hc k _ (List.getElem?_eq_getElem hlt2)
      have HJ := Lib.hid (jn_step xs k hlt2)
      obtain ⟨x, hx⟩ : ∃ x, x = xs[k] := ⟨_, rfl⟩
      have hxs : x.size ≤ 1000 := by rw [hx]; exact HB.out _ (List.getElem_mem hlt2)
      have hl1 : m ≤ 1000 * 1001 := by
        rw [hm.out]
        have h1 := jn_le (xs.take k) 1000 fun y hy => HB.out y (List.mem_of_mem_take hy)
        have h2 : (xs.take k).length ≤ 1000 := by rw [List.length_take]; omega
        have h3 := Nat.mul_le_mul_right 1001 h2
        omega
      rw [← hx, ← hm.out] at HJ
      rw [← hx] at hck
      clear hc hx
      go_wp2_with fail
      go_round
      case rel => exact ⟨k + 1, m + (1 + x.size), by omega, by go_num, by go_num, Lib.hid HJ.out.symm⟩
      case measure => first | (simp [intOf]; done) | (simp [intOf]; omega)
    · obtain rfl : k = n := by omega
      have HT : Hid (xs.take k = xs) := Lib.hid (List.take_of_length_le (by rw [HS.out.len]; omega))
      go_wp2_with fail
      go_ret
      refine ⟨?_, rfl⟩
      have e := hm.out
      rw [HT.out] at e
      rw [← e]
      rfl

def RetIdx (P : Prop) (w : World) (en : Ending) (w' : World) : Prop := ∃ I : Int, en = .returned (.int .i64 I) ∧ (0 ≤ I ↔ P) ∧ w = w'
set_option maxRecDepth 100000 in
set_option maxHeartbeats 1000000 in
theorem indexf_any (p : Option Addr) (n c : Nat) (xs : List ByteArray) (w : World) (h : SSl w p n c xs) :
    Calls Try.prog 25 #[.slice p n c, .func (.func 16) #[] #[]] w (RetIdx (xs.any (fun x => hasB x 47) = true) w) := by
  have HS := Lib.hid h
  have hcap := h.cap
  have hmost : (c : Int) ≤ 9223372036854775807 := by have := h.most; unfold maxLen at this; omega
  clear h
  have e16 : ∀ args w, (callFunc 16 args).run Try.prog w = .ok (.enter 16 args) w := enters_of Try.func16 (by kernel_rfl) rfl
  go_enter Try.func25, Try.ntmps25
  go_wp2_with fail
  go_loop [8] (fun i => ∃ k : Nat, k ≤ n ∧ i = .int .i64 k ∧ Hid (∀ x ∈ xs.take k, hasB x 47 = false)) (fun i => n - (intOf i).toNat)
  case atStart => exact ⟨0, Nat.zero_le _, rfl, Lib.hid fun x hx => by simp at hx⟩
  case round =>
    obtain ⟨k, hk, rfl, ha⟩ := hrel
    by_cases hlt : k < n
    · obtain ⟨b, o, rfl, hc⟩ := HS.out.at' (by omega)
      have hlt2 : k < xs.length := by rw [HS.out.len]; exact hlt
      have hck := hc k _ (List.getElem?_eq_getElem hlt2)
      have HTK := Lib.hid (List.take_succ_eq_append_getElem hlt2)
      have HMM := Lib.hid (List.getElem_mem hlt2)
      obtain ⟨x, hx⟩ : ∃ x, x = xs[k] := ⟨_, rfl⟩
      rw [← hx] at hck HTK HMM
      have HM := Lib.hid (marked_any x w)
      clear hc hx
      cases h47 : hasB x 47
      · have H4 := Lib.hid h47
        clear h47
        go_wp2_with (first | (go_at_fn 16; refine HM.out.mono ?_; rintro e w' ⟨rfl, rfl⟩; rw [H4.out]))
        go_round
        case rel => exact ⟨k + 1, by omega, by go_num, Lib.hid fun y hy => by
          rw [HTK.out] at hy
          rcases List.mem_append.1 hy with hy | hy
          · exact ha.out y hy
          · rw [List.mem_singleton.1 hy]; exact H4.out⟩
        case measure => first | (simp [intOf]; done) | (simp [intOf]; omega)
      · have H4 := Lib.hid h47
        clear h47
        go_wp2_with (first | (go_at_fn 16; refine HM.out.mono ?_; rintro e w' ⟨rfl, rfl⟩; rw [H4.out]))
        go_ret
        exact ⟨(k : Int), rfl, ⟨fun _ => List.any_eq_true.2 ⟨x, HMM.out, H4.out⟩, fun _ => by omega⟩, rfl⟩
    · have HT : Hid (xs.take k = xs) := Lib.hid (List.take_of_length_le (by rw [HS.out.len]; omega))
      have hA := ha.out
      rw [HT.out] at hA
      have HA := Lib.hid hA
      clear hA
      go_wp2_with fail
      go_ret
      exact ⟨-1, rfl, ⟨fun h => by omega, fun h => by
        obtain ⟨x, hx, e⟩ : ∃ x, x ∈ xs ∧ hasB x 47 = true := by simpa using h
        rw [HA.out x hx] at e
        cases e⟩, rfl⟩

theorem contains_any (p : Option Addr) (n c : Nat) (xs : List ByteArray) (w : World) (h : SSl w p n c xs) :
    Calls Try.prog 15 #[.slice p n c, .func (.func 16) #[] #[]] w fun e w' => e = .returned (.bool (xs.any (fun x => hasB x 47))) ∧ w = w' := by
  have HI := Lib.hid (indexf_any p n c xs w h)
  clear h
  go_enter Try.func15, Try.ntmps15
  go_wp2_with fail
  refine HI.out.mono ?_
  rintro e w' ⟨I, rfl, hI, rfl⟩
  have HH := Lib.hid (show decide (0 ≤ I) = xs.any (fun x => hasB x 47) by rw [Bool.eq_iff_iff, decide_eq_true_eq]; exact hI)
  clear hI
  go_wp2_with fail
  go_ret
  refine ⟨?_, rfl⟩
  rw [← HH.out]
  rfl
end Go.Proofs.Ytiffbkgohlbgeaa
