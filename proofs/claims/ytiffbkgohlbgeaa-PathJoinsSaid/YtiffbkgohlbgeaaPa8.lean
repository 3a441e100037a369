
/-
  The code's Join, Parent, Under.
-/
import Derived.Test.YtiffbkgohlbgeaaPa7
namespace Go.Proofs.Ytiffbkgohlbgeaa
open Go.RowKit Go.Shelf
set_option linter.unusedVariables false
set_option linter.unusedSimpArgs false

/-- What Join answers. -/
def joinC (xs : List ByteArray) : Int := if slash xs = true then 6 else wrongR (pathB xs)
def joinS (xs : List ByteArray) : ByteArray := if joinC xs = 0 then pathB xs else ⟨#[]⟩
def RetJoin (xs : List ByteArray) (w : World) (en : Ending) (w' : World) : Prop := en = .returned (.tuple #[.string (joinS xs), .int .i64 (joinC xs)]) ∧ Gr w w'
theorem join_mk {xs : List ByteArray} {c : Int} {s : ByteArray} {w w' : World} (h1 : joinC xs = c) (h2 : (if c = 0 then pathB xs else ⟨#[]⟩) = s) (g : Gr w w') : RetJoin xs w (.returned (.tuple #[.string s, .int .i64 c])) w' := by
  unfold RetJoin joinS
  rw [h1, h2]
  exact ⟨rfl, g⟩

theorem join_text {xs : List ByteArray} (h : (jn xs).length ≤ 128) : (Go.Lib.join (xs.map (·.data.toList)) [47]).length ≤ 140737488355328 ∧ (⟨#[47]⟩ : ByteArray) ++ ⟨(Go.Lib.join (xs.map (·.data.toList)) [47]).toArray⟩ = pathB xs := by
  cases xs with
  | nil => exact ⟨by simp [Go.Lib.join_nil], by apply bys_inj; rw [bys_add]; rfl⟩
  | cons x r =>
    rw [jn_cons] at h
    rw [List.map_cons, Go.Lib.join_cons, show Go.Lib.joinTail [47] (r.map (·.data.toList)) = jn r from rfl]
    refine ⟨?_, ?_⟩
    · rw [List.length_cons] at h
      show (bys x ++ jn r).length ≤ _
      omega
    · apply bys_inj
      rw [bys_add, pathB_bys (by simp), jn_cons]
      rfl

set_option maxRecDepth 100000 in
set_option maxHeartbeats 1000000 in
theorem join_any (p : Option Addr) (n c : Nat) (xs : List ByteArray) (w : World) (h : SSl w p n c xs) (hb : ∀ x ∈ xs, x.size ≤ 1000) (hn : n ≤ 1000) :
    Calls Try.prog 7 #[.slice p n c] w (RetJoin xs w) := by
  have HC := Lib.hid (contains_any p n c xs w h)
  have HL := Lib.hid (long_any p n c xs w h hb hn)
  have HS := Lib.hid h
  have hcap := h.cap
  have hmost : (c : Int) ≤ 9223372036854775807 := by have := h.most; unfold maxLen at this; omega
  clear h hb
  cases hA : xs.any (fun x => hasB x 47)
  · have HA := Lib.hid hA
    by_cases hE : xs = [⟨#[]⟩]
    · have HJ : Hid (joinC xs = 6) := Lib.hid (by unfold joinC slash; rw [hE]; rfl)
      have hn1 : n = 1 := by rw [← HS.out.len, hE]; rfl
      subst hn1
      obtain ⟨b, o, rfl, hc⟩ := HS.out.at' (by omega)
      have hc0 := hc 0 ⟨#[]⟩ (by rw [hE]; rfl)
      rw [Nat.add_zero] at hc0
      clear hA hE hc hn
      go_enter Try.func7, Try.ntmps7
      go_wp2_with (first | (go_at_call 15; refine HC.out.mono ?_; rintro e w' ⟨rfl, rfl⟩; rw [HA.out]))
      go_ret2
      exact join_mk HJ.out rfl (Gr.refl _)
    · have hsl : slash xs = false := by unfold slash; rw [hA]; simpa using hE
      have HJ : Hid (joinC xs = wrongR (pathB xs)) := Lib.hid (by unfold joinC; rw [hsl]; rfl)
      -- one name alone is not empty
      have HX : Hid (n = 1 → ∃ b o x, p = some ⟨b, o, none⟩ ∧ w.cell? ⟨b, o, none⟩ = some (.string x) ∧ (x.toList == []) = false ∧ ¬ x.toList = []) := Lib.hid fun h1 => by
        obtain ⟨b, o, e, hc⟩ := HS.out.at' (by omega)
        have hl := HS.out.len
        rw [h1] at hl
        obtain ⟨x, rfl⟩ := List.length_eq_one_iff.1 hl
        have hne : x ≠ ⟨#[]⟩ := fun e => hE (by rw [e])
        exact ⟨b, o, x, e, hc 0 x rfl, text_ne (l := []) hne⟩
      by_cases hl : 128 < (jn xs).length
      · have HW : Hid (joinC xs = 11) := Lib.hid (by rw [HJ.out]; exact wrong_long hl)
        have HLD : Hid (decide ((128 : Int) < ((jn xs).length : Nat)) = true) := Lib.hid (decide_eq_true (by omega))
        clear hA hE hsl hl
        by_cases h1 : n = 1
        · obtain ⟨b, o, x, rfl, hc, hx1, hx2⟩ := HX.out h1
          have hx3 : (!x.toList.isEmpty) = true := by simpa using hx2
          subst h1
          clear hn
          go_enter Try.func7, Try.ntmps7
          go_wp2_with (first
            | (go_at_call 15; refine HC.out.mono ?_; rintro e w' ⟨rfl, rfl⟩; rw [HA.out])
            | (go_at_call 17; refine HL.out.mono ?_; rintro e w' ⟨rfl, rfl⟩; rw [HLD.out]))
          all_goals
            go_ret2
            exact join_mk HW.out rfl (Gr.refl _)
        · have hq : ((n : Int) == 1) = false := beq_eq_false_iff_ne.2 (by omega)
          go_enter Try.func7, Try.ntmps7
          go_wp2_with (first
            | (go_at_call 15; refine HC.out.mono ?_; rintro e w' ⟨rfl, rfl⟩; rw [HA.out])
            | (go_at_call 17; refine HL.out.mono ?_; rintro e w' ⟨rfl, rfl⟩; rw [HLD.out]))
          all_goals
            go_ret2
            exact join_mk HW.out rfl (Gr.refl _)
      · have HLD : Hid (decide ((128 : Int) < ((jn xs).length : Nat)) = false) := Lib.hid (decide_eq_false (by omega))
        obtain ⟨hj1, hj2⟩ := join_text (xs := xs) (by omega)
        have HJ2 := Lib.hid hj2
        have HSJ : Hid (Calls Try.prog 18 #[.slice p n c, .string ⟨#[47]⟩] w fun e w' => e = .returned (.string ⟨(Go.Lib.join (xs.map (·.data.toList)) [47]).toArray⟩) ∧ Gr w w') := Lib.hid (by
          by_cases h0 : n = 0
          · subst h0
            refine (Shl.strings_Join_none p c ⟨#[47]⟩ w).mono ?_
            rintro e w' ⟨rfl, rfl⟩
            rw [List.eq_nil_of_length_eq_zero HS.out.len]
            exact ⟨rfl, Gr.refl _⟩
          · obtain ⟨b, o, rfl, hc⟩ := HS.out.at' (by omega)
            have hl := HS.out.len
            subst hl
            exact Shl.strings_Join b o c xs ⟨#[47]⟩ w hc (World.block_lt_of_cell? w _ (hc 0 _ (List.getElem?_eq_getElem (by omega)))) (by omega) hcap hj1)
        obtain ⟨T, hT⟩ : ∃ T : ByteArray, T = ⟨(Go.Lib.join (xs.map (·.data.toList)) [47]).toArray⟩ := ⟨_, rfl⟩
        rw [← hT] at HSJ HJ2
        have hTs : T.size ≤ 140737488355328 := by rw [hT, ← bys_len]; show (bys (txt _)).length ≤ _; rw [bys_txt]; exact hj1
        obtain ⟨R, hR⟩ : ∃ R, R = pathB xs := ⟨_, rfl⟩
        rw [← hR] at HJ2
        have HRR := Lib.hid hR
        have HWR := Lib.hid (fun w => wrong_any R w)
        obtain ⟨C, hC⟩ : ∃ C, C = wrongR R := ⟨_, rfl⟩
        rw [← hC] at HWR
        have HCC : Hid (joinC xs = C) := Lib.hid (by rw [HJ.out, hC, hR])
        clear hA hE hsl hl hj1 hj2 hT hR hC
        have tail : Hid (∀ w', Gr w w' → Calls Try.prog 19 #[.string R] w' (RetI2 C w')) := Lib.hid fun w' _ => HWR.out w'
        by_cases h1 : n = 1
        · obtain ⟨b, o, x, rfl, hc, hx1, hx2⟩ := HX.out h1
          have hx3 : (!x.toList.isEmpty) = true := by simpa using hx2
          subst h1
          clear hn
          by_cases hC0 : C = 0
          · have HC0 := Lib.hid hC0
            clear hC0
            go_enter Try.func7, Try.ntmps7
            go_wp2_with (first
              | (go_at_call 15; refine HC.out.mono ?_; rintro e w' ⟨rfl, rfl⟩; rw [HA.out])
              | (go_at_call 17; refine HL.out.mono ?_; rintro e w' ⟨rfl, rfl⟩; rw [HLD.out])
              | (go_at_call 18; refine HSJ.out.mono ?_; rintro e w1 ⟨rfl, g1⟩; have HG1 := Lib.hid g1; clear g1)
              | (go_at_call 19; rw [HJ2.out]; refine (HWR.out _).mono ?_; rintro e w2 ⟨rfl, g2⟩; rw [HC0.out]; have HG2 := Lib.hid g2; clear g2))
            all_goals
              go_ret2
              exact join_mk (HCC.out.trans HC0.out) (by rw [if_pos rfl, HRR.out]) (Gr.trans HG1.out HG2.out)
          · have hb : (C != 0) = true := by simpa using hC0
            have HC0 := Lib.hid hC0
            clear hC0
            go_enter Try.func7, Try.ntmps7
            go_wp2_with (first
              | (go_at_call 15; refine HC.out.mono ?_; rintro e w' ⟨rfl, rfl⟩; rw [HA.out])
              | (go_at_call 17; refine HL.out.mono ?_; rintro e w' ⟨rfl, rfl⟩; rw [HLD.out])
              | (go_at_call 18; refine HSJ.out.mono ?_; rintro e w1 ⟨rfl, g1⟩; have HG1 := Lib.hid g1; clear g1)
              | (go_at_call 19; rw [HJ2.out]; refine (HWR.out _).mono ?_; rintro e w2 ⟨rfl, g2⟩; have HG2 := Lib.hid g2; clear g2))
            all_goals
              go_ret2
              exact join_mk HCC.out (by rw [if_neg HC0.out]) (Gr.trans HG1.out HG2.out)
        · have hq : ((n : Int) == 1) = false := beq_eq_false_iff_ne.2 (by omega)
          by_cases hC0 : C = 0
          · have HC0 := Lib.hid hC0
            clear hC0
            go_enter Try.func7, Try.ntmps7
            go_wp2_with (first
              | (go_at_call 15; refine HC.out.mono ?_; rintro e w' ⟨rfl, rfl⟩; rw [HA.out])
              | (go_at_call 17; refine HL.out.mono ?_; rintro e w' ⟨rfl, rfl⟩; rw [HLD.out])
              | (go_at_call 18; refine HSJ.out.mono ?_; rintro e w1 ⟨rfl, g1⟩; have HG1 := Lib.hid g1; clear g1)
              | (go_at_call 19; rw [HJ2.out]; refine (HWR.out _).mono ?_; rintro e w2 ⟨rfl, g2⟩; rw [HC0.out]; have HG2 := Lib.hid g2; clear g2))
            all_goals
              go_ret2
              exact join_mk (HCC.out.trans HC0.out) (by rw [if_pos rfl, HRR.out]) (Gr.trans HG1.out HG2.out)
          · have hb : (C != 0) = true := by simpa using hC0
            have HC0 := Lib.hid hC0
            clear hC0
            go_enter Try.func7, Try.ntmps7
            go_wp2_with (first
              | (go_at_call 15; refine HC.out.mono ?_; rintro e w' ⟨rfl, rfl⟩; rw [HA.out])
              | (go_at_call 17; refine HL.out.mono ?_; rintro e w' ⟨rfl, rfl⟩; rw [HLD.out])
              | (go_at_call 18; refine HSJ.out.mono ?_; rintro e w1 ⟨rfl, g1⟩; have HG1 := Lib.hid g1; clear g1)
              | (go_at_call 19; rw [HJ2.out]; refine (HWR.out _).mono ?_; rintro e w2 ⟨rfl, g2⟩; have HG2 := Lib.hid g2; clear g2))
            all_goals
              go_ret2
              exact join_mk HCC.out (by rw [if_neg HC0.out]) (Gr.trans HG1.out HG2.out)
  · have HJ : Hid (joinC xs = 6) := Lib.hid (by unfold joinC slash; rw [hA]; rfl)
    have HA := Lib.hid hA
    clear hA
    go_enter Try.func7, Try.ntmps7
    go_wp2_with (first | (go_at_call 15; refine HC.out.mono ?_; rintro e w' ⟨rfl, rfl⟩; rw [HA.out]))
    go_ret2
    exact join_mk HJ.out rfl (Gr.refl _)
end Go.Proofs.Ytiffbkgohlbgeaa
