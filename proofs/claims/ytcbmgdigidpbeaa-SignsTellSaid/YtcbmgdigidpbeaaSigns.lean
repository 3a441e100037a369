import Derived.Test.YtcbmgdigidpbeaaHex4
namespace Go.Proofs.Ytcbmgdigidpbeaa
open Go.RowKit

/-! Signs and bytes, there and back. -/

theorem four_sign {x : Int} (h : 0 ≤ x ∧ x < 16) : four (sign x) = x := by
  unfold four sign
  repeat' split
  all_goals omega
theorem sign_four {c : Int} (h : four c < 16) : sign (four c) = c := by
  unfold four at h ⊢
  unfold sign
  repeat' split
  all_goals (first | omega | (split at h <;> omega))

theorem nums_str {l : List Int} (h : Wd.Small l) : nums (strOfNums l) = l := by
  unfold nums
  show ((strOfNums l).data.toList.map fun b => (b.toNat : Int)) = l
  rw [strOfNums_data, List.map_map]
  have : ∀ x ∈ l, ((fun b : UInt8 => (b.toNat : Int)) ∘ fun n : Int => UInt8.ofNat n.toNat) x = x := fun x hx => by
    have := h x hx
    simp only [Function.comp, UInt8.toNat_ofNat']
    omega
  rw [List.map_congr_left this, List.map_id']
theorem str_nums (s : ByteArray) : strOfNums (nums s) = s := by
  have h : (nums s).map (fun n => UInt8.ofNat n.toNat) = s.data.toList := by
    unfold nums
    rw [List.map_map]
    have : ∀ b ∈ s.data.toList, ((fun n : Int => UInt8.ofNat n.toNat) ∘ fun b : UInt8 => (b.toNat : Int)) b = b := fun b _ => by simp [Function.comp]
    rw [List.map_congr_left this, List.map_id']
  unfold strOfNums
  rw [h]

theorem hexL_at : ∀ (l : List Int) (k : Nat), k < l.length → (hexL l).getD (2 * k) 0 = sign (l.getD k 0 / 16) ∧ (hexL l).getD (2 * k + 1) 0 = sign (l.getD k 0 % 16) := fun l k h => by
  have h1 := hexL_getD l (2 * k) (by omega)
  have h2 := hexL_getD l (2 * k + 1) (by omega)
  rw [if_neg (by omega), show 2 * k / 2 = k by omega] at h1
  rw [if_pos (by omega), show (2 * k + 1) / 2 = k by omega] at h2
  exact ⟨h1, h2⟩

theorem list_ext {a b : List Int} (hl : a.length = b.length) (h : ∀ k, k < a.length → a.getD k 0 = b.getD k 0) : a = b := by
  apply List.ext_getElem hl
  intro i h1 h2
  have := h i h1
  simpa [List.getD, h1, h2] using this

theorem unh_hex (l : List Int) (h : Wd.Small l) : unhL (hexL l) l.length = l := by
  apply list_ext (unhL_length _ _)
  intro k hk
  rw [unhL_length] at hk
  obtain ⟨h1, h2⟩ := hexL_at l k hk
  have hx := h.getD k
  have : (unhL (hexL l) l.length).getD k 0 = 16 * four ((hexL l).getD (2 * k) 0) + four ((hexL l).getD (2 * k + 1) 0) := by
    simp [unhL, List.getD, hk]
  rw [this, h1, h2, four_sign (by omega), four_sign (by omega)]
  omega

theorem hex_ok (l : List Int) (h : Wd.Small l) : signsOk (hexL l) = true := by
  simp only [signsOk, Bool.and_eq_true, decide_eq_true_eq, List.all_eq_true]
  refine ⟨by rw [hexL_length]; omega, fun c hc => ?_⟩
  obtain ⟨j, hj, rfl⟩ := List.mem_iff_getElem.1 hc
  rw [hexL_length] at hj
  have hg := hexL_getD l j hj
  have hx := h.getD (j / 2)
  have e : (hexL l)[j] = (hexL l).getD j 0 := by simp [List.getD, hexL_length, hj]
  rw [e, hg]
  split
  · rw [four_sign (by omega)]; omega
  · rw [four_sign (by omega)]; omega

theorem unhex_hex (l : List Int) (h : Wd.Small l) : unhexR (hexL l) = l ∧ unhexE (hexL l) = 0 := by
  have hok := hex_ok l h
  refine ⟨?_, by simp [unhexE, hok]⟩
  rw [unhexR, if_pos hok, hexL_length, show 2 * l.length / 2 = l.length by omega]
  exact unh_hex l h

theorem hex_inj {a b : List Int} (ha : Wd.Small a) (hb : Wd.Small b) : hexL a = hexL b ↔ a = b := by
  constructor
  · intro h
    rw [← (unhex_hex a ha).1, ← (unhex_hex b hb).1, h]
  · rintro rfl
    rfl

theorem unhL_small {l : List Int} (k : Nat) (h : ∀ i, i < 2 * k → four (l.getD i 0) < 16) : Wd.Small (unhL l k) := fun x hx => by
  simp only [unhL, List.mem_map, List.mem_range] at hx
  obtain ⟨i, hi, rfl⟩ := hx
  have h1 := h (2 * i) (by omega)
  have h2 := h (2 * i + 1) (by omega)
  have h3 := four_range (l.getD (2 * i) 0)
  have h4 := four_range (l.getD (2 * i + 1) 0)
  omega

theorem signsOk_iff {l : List Int} : signsOk l = true ↔ l.length % 2 = 0 ∧ ∀ i, i < l.length → four (l.getD i 0) < 16 := by
  simp only [signsOk, Bool.and_eq_true, decide_eq_true_eq, List.all_eq_true]
  refine and_congr_right fun _ => ⟨fun h i hi => ?_, fun h c hc => ?_⟩
  · have := h l[i] (List.getElem_mem hi)
    simpa [List.getD, hi] using this
  · obtain ⟨j, hj, rfl⟩ := List.mem_iff_getElem.1 hc
    simpa [List.getD, hj] using h j hj

theorem hex_unh {l : List Int} (h : signsOk l = true) : hexL (unhexR l) = l ∧ unhexE l = 0 := by
  refine ⟨?_, by simp [unhexE, h]⟩
  obtain ⟨h1, h2⟩ := signsOk_iff.1 h
  rw [unhexR, if_pos h]
  have hlen : (hexL (unhL l (l.length / 2))).length = l.length := by rw [hexL_length, unhL_length]; omega
  apply list_ext hlen
  intro k hk
  rw [hlen] at hk
  rw [hexL_getD _ _ (by rw [unhL_length]; omega)]
  have hu : (unhL l (l.length / 2)).getD (k / 2) 0 = 16 * four (l.getD (2 * (k / 2)) 0) + four (l.getD (2 * (k / 2) + 1) 0) := by
    have : k / 2 < l.length / 2 := by omega
    simp [unhL, List.getD, this]
  have f1 := four_range (l.getD (2 * (k / 2)) 0)
  have f2 := four_range (l.getD (2 * (k / 2) + 1) 0)
  have g1 := h2 (2 * (k / 2)) (by omega)
  have g2 := h2 (2 * (k / 2) + 1) (by omega)
  rw [hu]
  split
  · have e : 2 * (k / 2) + 1 = k := by omega
    rw [show (16 * four (l.getD (2 * (k / 2)) 0) + four (l.getD (2 * (k / 2) + 1) 0)) % 16 = four (l.getD (2 * (k / 2) + 1) 0) by omega, sign_four g2, e]
  · have e : 2 * (k / 2) = k := by omega
    rw [show (16 * four (l.getD (2 * (k / 2)) 0) + four (l.getD (2 * (k / 2) + 1) 0)) / 16 = four (l.getD (2 * (k / 2)) 0) by omega, sign_four g1, e]

theorem unhexR_small {l : List Int} : Wd.Small (unhexR l) := by
  unfold unhexR
  split
  · rename_i h
    exact unhL_small _ (fun i hi => (signsOk_iff.1 h).2 i (by omega))
  · exact fun _ h => by cases h

end Go.Proofs.Ytcbmgdigidpbeaa
