
/-
  The law PathJoins, walked.
-/
import Derived.Test.YtiffbkgohlbgeaaPa10
namespace Go.Proofs.Ytiffbkgohlbgeaa
open Go.RowKit Go.Shelf
set_option linter.unusedVariables false
set_option linter.unusedSimpArgs false

/-- Has a byte so far been a '/'? -/
def hasTo (s : ByteArray) (k : Nat) : Bool := ((bys s).take k).contains 47
theorem hasTo_zero (s : ByteArray) : hasTo s 0 = false := rfl
theorem hasTo_succ (s : ByteArray) (k : Nat) (h : k < s.size) : hasTo s (k + 1) = (hasTo s k || decide (s[k] = 47)) := by
  unfold hasTo
  rw [List.take_succ_eq_append_getElem (by rw [bys_len]; exact h)]
  have e : (bys s)[k]'(by rw [bys_len]; exact h) = s[k] := by
    have := bys_at s k h
    rw [List.getElem?_eq_getElem (by rw [bys_len]; exact h)] at this
    exact Option.some.inj this
  rw [e, Bool.eq_iff_iff]
  simp only [List.contains_iff_mem, Bool.or_eq_true, decide_eq_true_eq, List.mem_append, List.mem_singleton]
  exact ⟨fun h => h.imp id Eq.symm, fun h => h.imp id Eq.symm⟩
theorem hasTo_all (s : ByteArray) : hasTo s s.size = hasB s 47 := by
  unfold hasTo hasB
  rw [List.take_of_length_le (by rw [bys_len]; exact Nat.le_refl _)]
def slTo (e : Bool) (xs : List ByteArray) (k : Nat) : Bool := e || (xs.take k).any (fun x => hasB x 47)
theorem slTo_succ (e : Bool) (xs : List ByteArray) (k : Nat) (h : k < xs.length) : slTo e xs (k + 1) = (slTo e xs k || hasB xs[k] 47) := by
  unfold slTo
  rw [List.take_succ_eq_append_getElem h, List.any_append, Bool.or_assoc]
  simp
theorem slTo_all (xs : List ByteArray) : slTo (decide (xs = [⟨#[]⟩])) xs xs.length = slash xs := by
  unfold slTo slash
  rw [List.take_of_length_le (Nat.le_refl _), Bool.or_comm]

/-- Behind the loops. -/
theorem joins_facts {xs : List ByteArray} (h : slash xs = false) : joinC xs = wrongR (pathB xs) ∧ (wrongR (pathB xs) = 0 → joinS xs = pathB xs ∧ splitR (pathB xs) = xs) ∧ (wrongR (pathB xs) ≠ 0 → joinS xs = ⟨#[]⟩) := by
  have hc : joinC xs = wrongR (pathB xs) := by unfold joinC; rw [h]; rfl
  refine ⟨hc, fun h0 => ⟨?_, ?_⟩, fun h0 => ?_⟩
  · unfold joinS; rw [hc, if_pos h0]
  · unfold splitR; rw [if_pos h0, names_path h]
  · unfold joinS; rw [hc, if_neg h0]

set_option maxRecDepth 100000 in
set_option maxHeartbeats 4000000 in
theorem pathJoins_walk (p : Option Addr) (n c : Nat) (xs : List ByteArray) (w : World) (h : SSl w p n c xs) :
    Calls Try.prog 3 #[.slice p n c] w (RetBl true w) := by
  have HS := Lib.hid h
  have hcap := h.cap
  have hmost : (c : Int) ≤ 9223372036854775807 := by have := h.most; unfold maxLen at this; omega
  clear h
  by_cases h20 : 20 < n
  · go_enter Try.func3, Try.ntmps3
    go_wp2_with fail
    refine (known_any _).mono ?_
    rintro e w1 ⟨rfl, g1⟩
    go_wp2_with fail
    go_ret
    exact ⟨rfl, g1⟩
  obtain ⟨E, hE⟩ : ∃ E : Bool, E = decide (xs = [⟨#[]⟩]) := ⟨_, rfl⟩
  have HE := Lib.hid hE
  -- ahead of the loops: is there one name alone, which is empty?
  have h3 : (∃ (b o : Nat), n = 1 ∧ p = some ⟨b, o, none⟩ ∧ w.cell? ⟨b, o, none⟩ = some (.string ⟨#[]⟩) ∧ E = true) ∨ (∃ (b o : Nat) (x : ByteArray), n = 1 ∧ p = some ⟨b, o, none⟩ ∧ w.cell? ⟨b, o, none⟩ = some (.string x) ∧ (x.toList == []) = false ∧ ¬ x.toList = [] ∧ E = false) ∨ (((n : Int) == 1) = false ∧ E = false) := by
    by_cases h1 : n = 1
    · obtain ⟨b, o, e, hc⟩ := HS.out.at' (by omega)
      have hl := HS.out.len
      rw [h1] at hl
      obtain ⟨x, rfl⟩ := List.length_eq_one_iff.1 hl
      have hc0 := hc 0 x rfl
      by_cases hx : x = ⟨#[]⟩
      · exact .inl ⟨b, o, h1, e, by rw [← hx]; exact hc0, by rw [hE, hx]; rfl⟩
      · obtain ⟨t1, t2⟩ := text_ne (l := []) hx
        exact .inr (.inl ⟨b, o, x, h1, e, hc0, t1, t2, by rw [hE]; exact decide_eq_false (fun e => hx (List.cons.inj e).1)⟩)
    · exact .inr (.inr ⟨beq_eq_false_iff_ne.2 (by omega), by rw [hE]; exact decide_eq_false (fun e => h1 (by rw [← HS.out.len, e]; rfl))⟩)
  clear hE
  obtain ⟨E2, hE2⟩ : ∃ E2, E2 = E := ⟨_, rfl⟩
  have HE2 := Lib.hid hE2
  clear hE2
  rcases h3 with ⟨b, o, h1, rfl, hc0, hEt⟩ | ⟨b, o, x, h1, rfl, hc0, ht1, ht2, hEt⟩ | ⟨hq, hEt⟩
  all_goals
    first
      | have hq : ((n : Int) == 1) = true := by rw [h1]; rfl
      | skip
    first
      | have ht3 : (!x.toList.isEmpty) = true := by simpa using ht2
      | skip
    first
      | have hn1 : 0 < n := by omega
      | skip
    first
      | (have H1 := Lib.hid h1; clear h1)
      | skip
    have HEt := Lib.hid hEt
    clear hEt
    go_enter Try.func3, Try.ntmps3
    go_wp2_with fail
    go_loop [3, 4] (fun t i => ∃ (k : Nat) (B : Bool), k ≤ n ∧ i = .int .i64 k ∧ t = .bool B ∧ Hid (B = slTo E xs k) ∧ Hid (∀ y ∈ xs.take k, y.size ≤ 200)) (fun _ i => n - (intOf i).toNat)
    case atStart => exact ⟨0, _, Nat.zero_le _, rfl, rfl, Lib.hid (by rw [HEt.out]; rfl), Lib.hid (fun y hy => by simp at hy)⟩
    case round =>
      obtain ⟨k, B, hk, rfl, rfl, hB, hsm⟩ := hrel
      by_cases hlt : k < n
      · obtain ⟨b', o', hp, hc⟩ := HS.out.at' (by omega)
        cases hp
        have hl1 : k < xs.length := by rw [HS.out.len]; exact hlt
        have hck := hc k _ (List.getElem?_eq_getElem hl1)
        have HT1 := Lib.hid (List.take_succ_eq_append_getElem hl1)
        have HSL := Lib.hid (slTo_succ E xs k hl1)
        obtain ⟨y, hy⟩ : ∃ y, y = xs[k] := ⟨_, rfl⟩
        rw [← hy] at hck HT1 HSL
        clear hc hy hl1
        by_cases h200 : 200 < y.size
        · go_wp2_with fail
          refine (known_any _).mono ?_
          rintro e w1 ⟨rfl, g1⟩
          go_wp2_with fail
          go_ret
          exact ⟨rfl, g1⟩
        · go_wp2_with fail
          go_loop [3, 5] (fun t i => ∃ (j : Nat) (B2 : Bool), j ≤ y.size ∧ i = .int .i64 j ∧ t = .bool B2 ∧ Hid (B2 = (B || hasTo y j))) (fun _ i => y.size - (intOf i).toNat)
          case atStart => exact ⟨0, B, Nat.zero_le _, rfl, rfl, Lib.hid (by rw [hasTo_zero, Bool.or_false])⟩
          case round =>
            obtain ⟨j, B2, hj, rfl, rfl, hB2⟩ := hrel
            by_cases hlj : j < y.size
            · have HH := Lib.hid (hasTo_succ y j hlj)
              cases B2
              · by_cases h47 : y[j] = 47
                · have hv : ((y[j].toNat : Int) == 47) = true := u8_is h47
                  have HF : Hid (true = (B || hasTo y (j + 1))) := Lib.hid (by rw [HH.out, h47]; simp)
                  clear h47
                  go_wp2_with fail
                  go_round
                  case rel => exact ⟨j + 1, true, by omega, by go_num, rfl, HF⟩
                  case measure => first | (simp [intOf]; done) | (simp [intOf]; omega)
                · have hv : ((y[j].toNat : Int) == 47) = false := u8_not h47
                  have HF : Hid (false = (B || hasTo y (j + 1))) := Lib.hid (by rw [HH.out, decide_eq_false h47, Bool.or_false]; exact hB2.out)
                  clear h47
                  go_wp2_with fail
                  go_round
                  case rel => exact ⟨j + 1, false, by omega, by go_num, rfl, HF⟩
                  case measure => first | (simp [intOf]; done) | (simp [intOf]; omega)
              · have HF : Hid (true = (B || hasTo y (j + 1))) := Lib.hid (by rw [HH.out, ← Bool.or_assoc, ← hB2.out]; rfl)
                go_wp2_with fail
                go_round
                case rel => exact ⟨j + 1, true, by omega, by go_num, rfl, HF⟩
                case measure => first | (simp [intOf]; done) | (simp [intOf]; omega)
            · obtain rfl : j = y.size := by omega
              have HF : Hid (B2 = slTo E xs (k + 1)) := Lib.hid (by rw [HSL.out, hB2.out, hasTo_all, hB.out])
              go_wp2_with fail
              go_round
              case rel => exact ⟨k + 1, B2, by omega, by go_num, rfl, HF, Lib.hid (fun z hz => by
                rw [HT1.out] at hz
                rcases List.mem_append.1 hz with hz | hz
                · exact hsm.out z hz
                · rw [List.mem_singleton.1 hz]; omega)⟩
              case measure => first | (simp [intOf]; done) | (simp [intOf]; omega)
      · obtain rfl : k = n := by omega
        have HB : Hid (slash xs = B) := Lib.hid (by
          have e := hB.out
          rw [← HS.out.len, HE.out, slTo_all] at e
          exact e.symm)
        have HSM : Hid (∀ z ∈ xs, z.size ≤ 1000) := Lib.hid fun z hz => by
          have e := hsm.out z (by rw [List.take_of_length_le (by rw [HS.out.len]; exact Nat.le_refl _)]; exact hz)
          omega
        have HJN := Lib.hid (join_any _ k c xs w HS.out HSM.out (by omega))
        have HRJ := Lib.hid (fun w' (g : Gr w w') => refJoin_any _ k c xs w' (HS.out.gr g) HSM.out (by omega))
        clear hB hsm
        cases B
        · have HF := Lib.hid (joins_facts HB.out)
          have HPS : Hid ((pathB xs).size ≤ 4611686018427387904) := Lib.hid (by
            rw [pathB_size]
            split
            · omega
            · have h5 := jn_le xs 1000 HSM.out
              have h6 : xs.length ≤ 20 := by rw [HS.out.len]; omega
              have h7 := Nat.mul_le_mul_right 1001 h6
              omega)
          obtain ⟨R, hR⟩ : ∃ R, R = pathB xs := ⟨_, rfl⟩
          obtain ⟨D, hD⟩ : ∃ D, D = wrongR R := ⟨_, rfl⟩
          obtain ⟨m, hm⟩ : ∃ m, m = (splitR R).length := ⟨_, rfl⟩
          rw [← hR] at HPS HRJ
          have HSP := Lib.hid (fun w => refSplit_sl R w m D _ HPS.out rfl hm.symm hD.symm)
          by_cases hD0 : D = 0
          · have HC : Hid (joinC xs = 0 ∧ joinS xs = R ∧ splitR R = xs) := Lib.hid (by
              have h5 := HF.out.1
              have h6 := HF.out.2.1
              rw [← hR, ← hD, hD0] at h5 h6
              exact ⟨h5, h6 rfl⟩)
            have HC2 := Lib.hid (fun w => split_sl R w k 0 xs HC.out.2.2 HS.out.len (hD.symm.trans hD0))
            subst hD0
            have hRR : (R.toList == R.toList) = true := by simp
            clear hR hD hm HF
            go_wp2_with fail
            refine HJN.out.mono ?_
            rintro e w1 ⟨rfl, g1⟩
            rw [HC.out.1, HC.out.2.1]
            have HG1 := Lib.hid g1
            clear g1
            go_wp2_with fail
            refine (HRJ.out w1 HG1.out).mono ?_
            rintro e w2 ⟨rfl, rfl⟩
            go_wp2_with fail
            refine (HSP.out _).mono ?_
            rintro e w3 ⟨q, d, rfl, s3, g3⟩
            have HG3 := Lib.hid (Gr.trans HG1.out g3)
            clear s3 g3 HG1
            go_wp2_with fail
            refine (HC2.out _).mono ?_
            rintro e w4 ⟨q2, d2, rfl, s4, g4⟩
            have HG4 := Lib.hid (Gr.trans HG3.out g4)
            have HSA := Lib.hid (by
              have h5 := same_any q2 _ k d2 k c xs xs w4 s4 (HS.out.gr HG4.out) (by omega)
              rwa [decide_eq_true (show xs = xs from rfl)] at h5)
            clear s4 g4 HG3
            go_wp2_with fail
            refine HSA.out.mono ?_
            rintro e w5 ⟨rfl, g5⟩
            have HG5 := Lib.hid (Gr.trans HG4.out g5)
            clear g5
            go_wp2_with fail
            refine (known_any _).mono ?_
            rintro e w6 ⟨rfl, g6⟩
            go_wp2_with fail
            go_ret
            exact ⟨rfl, Gr.trans HG5.out g6⟩
          · have HC : Hid (joinC xs = D ∧ joinS xs = ⟨#[]⟩) := Lib.hid (by
              have h5 := HF.out.1
              have h6 := HF.out.2.2
              rw [← hR, ← hD] at h5 h6
              exact ⟨h5, h6 hD0⟩)
            have hb : (D != 0) = true := by simpa using hD0
            have hb2 : (D == D) = true := by simp
            clear hR hD hm HF hD0
            go_wp2_with fail
            refine HJN.out.mono ?_
            rintro e w1 ⟨rfl, g1⟩
            rw [HC.out.1, HC.out.2]
            have HG1 := Lib.hid g1
            clear g1
            go_wp2_with fail
            refine (HRJ.out w1 HG1.out).mono ?_
            rintro e w2 ⟨rfl, rfl⟩
            go_wp2_with fail
            refine (HSP.out _).mono ?_
            rintro e w3 ⟨q, d, rfl, s3, g3⟩
            have HG3 := Lib.hid (Gr.trans HG1.out g3)
            clear s3 g3 HG1
            go_wp2_with fail
            refine (known_any _).mono ?_
            rintro e w6 ⟨rfl, g6⟩
            go_wp2_with fail
            go_ret
            exact ⟨rfl, Gr.trans HG3.out g6⟩
        · have HC : Hid (joinC xs = 6 ∧ joinS xs = ⟨#[]⟩) := Lib.hid (by
            have h5 : joinC xs = 6 := by unfold joinC; rw [HB.out]; rfl
            exact ⟨h5, by unfold joinS; rw [h5]; rfl⟩)
          go_wp2_with fail
          refine HJN.out.mono ?_
          rintro e w1 ⟨rfl, g1⟩
          rw [HC.out.1, HC.out.2]
          have HG1 := Lib.hid g1
          clear g1
          go_wp2_with fail
          refine (known_any _).mono ?_
          rintro e w6 ⟨rfl, g6⟩
          go_wp2_with fail
          go_ret
          exact ⟨rfl, Gr.trans HG1.out g6⟩
end Go.Proofs.Ytiffbkgohlbgeaa
