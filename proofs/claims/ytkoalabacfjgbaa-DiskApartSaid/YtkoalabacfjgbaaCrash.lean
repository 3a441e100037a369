
import Derived.Test.YtkoalabacfjgbaaClone
namespace Go.Proofs.Ytkoalabacfjgbaa
open Go.RowKit Go.Maps

/-! ### which is chosen -/
theorem filter_at (p : Nat → Bool) : ∀ (N k i : Nat), ((List.range N).filter p)[k]? = some i → ((List.range i).filter p).length = k ∧ i < N ∧ p i = true
  | 0, k, i, h => by simp at h
  | N + 1, k, i, h => by
    rw [List.range_succ, List.filter_append] at h
    by_cases hk : k < ((List.range N).filter p).length
    · rw [List.getElem?_append_left hk] at h
      obtain ⟨h1, h2, h3⟩ := filter_at p N k i h
      exact ⟨h1, by omega, h3⟩
    · rw [List.getElem?_append_right (by omega)] at h
      cases hp : p N with
      | false => simp [hp] at h
      | true =>
        simp only [hp, List.filter_cons, List.filter_nil, if_true] at h
        have hk0 : k - ((List.range N).filter p).length = 0 := by
          cases hq : k - ((List.range N).filter p).length with
          | zero => rfl
          | succ m => rw [hq] at h; simp at h
        rw [hk0] at h
        simp at h
        subst h
        exact ⟨by omega, by omega, hp⟩

def St.rank (s : St) (i : Nat) : Nat := ((List.range i).filter fun j => !(s.t j).isEmpty).length
theorem St.loose_at {s : St} {k i : Nat} (h : s.loose[k]? = some i) : s.rank i = k ∧ i < s.ls.length ∧ s.t i ≠ [] := by
  obtain ⟨h1, h2, h3⟩ := filter_at _ _ _ _ h
  exact ⟨h1, h2, by cases ht : s.t i with
    | nil => rw [ht] at h3; cases h3
    | cons x r => simp⟩
theorem St.rank_lt {s : St} {i : Nat} (hi : i < s.ls.length) (ht : s.t i ≠ []) : s.rank i < s.loose.length := by
  obtain ⟨k, hk, e⟩ := List.mem_iff_getElem.1 (St.mem_loose.2 ⟨hi, ht⟩)
  have := (St.loose_at (List.getElem?_eq_some_iff.2 ⟨hk, e⟩)).1
  omega
theorem St.rank_at {s : St} {i : Nat} (hi : i < s.ls.length) (ht : s.t i ≠ []) : s.loose[s.rank i]? = some i := by
  obtain ⟨k, hk, e⟩ := List.mem_iff_getElem.1 (St.mem_loose.2 ⟨hi, ht⟩)
  have h1 := List.getElem?_eq_some_iff.2 ⟨hk, e⟩
  rw [(St.loose_at h1).1]
  exact h1

/-- A pick's bits as an unsigned number. -/
def pickAt (picks : List Int) (k : Nat) : Nat := if k < picks.length then (picks.getD k 0 % 18446744073709551616).toNat else 0
theorem pickAt_lt (picks : List Int) (k : Nat) : pickAt picks k < 18446744073709551616 := by
  unfold pickAt
  split <;> omega
/-- What a sector is behind a loss of power. -/
def St.chosen (s : St) (picks : List Int) (i : Nat) : Sec := (s.ls.getD i Sec.zero :: s.t i).getD (pickAt picks (s.rank i) % ((s.t i).length + 1)) Sec.zero
def St.crash (s : St) (picks : List Int) : St := fresh ((List.range s.ls.length).map (s.chosen picks))
/-- Behind k rounds. -/
def St.upto (s : St) (picks : List Int) (k : Nat) : List Sec := (s.loose.take k).foldl (fun l i => l.set i (s.chosen picks i)) s.ls
theorem fold_set (f : Nat → Sec) : ∀ (is : List Nat) (l : List Sec), (is.foldl (fun l i => l.set i (f i)) l).length = l.length ∧ ∀ j, j < l.length → (is.foldl (fun l i => l.set i (f i)) l).getD j Sec.zero = if j ∈ is then f j else l.getD j Sec.zero
  | [], l => ⟨rfl, fun j _ => by simp⟩
  | i :: r, l => by
    obtain ⟨h1, h2⟩ := fold_set f r (l.set i (f i))
    rw [List.length_set] at h1
    refine ⟨h1, fun j hj => ?_⟩
    rw [List.foldl_cons, h2 j (by rw [List.length_set]; exact hj)]
    by_cases hr : j ∈ r
    · simp [hr]
    · rw [if_neg hr]
      by_cases hji : j = i
      · subst hji
        simp [List.getD, hj]
      · simp [hji, hr, List.getD, List.getElem?_set, Ne.symm hji]
theorem St.upto_len (s : St) (picks : List Int) (k : Nat) : (s.upto picks k).length = s.ls.length := (fold_set _ _ _).1
theorem St.upto_succ {s : St} {picks : List Int} {k i : Nat} (h : s.loose[k]? = some i) : s.upto picks (k + 1) = (s.upto picks k).set i (s.chosen picks i) := by
  unfold St.upto
  obtain ⟨hk, e⟩ := List.getElem?_eq_some_iff.1 h
  rw [List.take_succ_eq_append_getElem hk, List.foldl_append, e]
  rfl
theorem chosen_none {s : St} {picks : List Int} {i : Nat} (h : s.t i = []) : s.chosen picks i = s.ls.getD i Sec.zero := by
  unfold St.chosen
  rw [h]
  simp [Nat.mod_one]
theorem St.upto_all (s : St) (picks : List Int) : s.upto picks s.loose.length = (List.range s.ls.length).map (s.chosen picks) := by
  apply List.ext_getElem?
  intro j
  by_cases hj : j < s.ls.length
  · have h1 : j < (s.upto picks s.loose.length).length := by rw [s.upto_len]; exact hj
    have h2 := (fold_set (s.chosen picks) (s.loose.take s.loose.length) s.ls).2 j hj
    rw [List.take_length] at h2
    have h3 : (s.upto picks s.loose.length).getD j Sec.zero = s.chosen picks j := by
      unfold St.upto
      rw [List.take_length, h2]
      split
      · rfl
      · rename_i hn
        have : s.t j = [] := by
          cases ht : s.t j with
          | nil => rfl
          | cons x r => exact absurd (St.mem_loose.2 ⟨hj, by rw [ht]; simp⟩) hn
        rw [chosen_none this]
    rw [List.getElem?_eq_getElem h1]
    simp only [List.getD, List.getElem?_eq_getElem h1, Option.getD_some] at h3
    rw [h3]
    simp [hj]
  · rw [List.getElem?_eq_none (by rw [s.upto_len]; omega), List.getElem?_eq_none (by simp; omega)]
/-- Where the pick is 0, nothing is stored: what lasts stays. -/
theorem St.upto_same {s : St} {picks : List Int} {k i : Nat} (h : s.loose[k]? = some i) (hq : pickAt picks k % ((s.t i).length + 1) = 0) : s.upto picks (k + 1) = s.upto picks k := by
  obtain ⟨h1, h2, h3⟩ := St.loose_at h
  have hc : s.chosen picks i = s.ls.getD i Sec.zero := by unfold St.chosen; rw [h1, hq]; rfl
  rw [St.upto_succ h, hc]
  apply List.ext_getElem?
  intro j
  rw [List.getElem?_set]
  split
  · rename_i e
    subst e
    have hlen := s.upto_len picks k
    have hg := (fold_set (s.chosen picks) (s.loose.take k) s.ls).2 i h2
    have hnot : i ∉ s.loose.take k := fun hm => by
      obtain ⟨k', hk', e'⟩ := List.mem_iff_getElem.1 hm
      have hk2 : k' < k := by rw [List.length_take] at hk'; omega
      rw [List.getElem_take] at e'
      have := (St.loose_at (List.getElem?_eq_some_iff.2 ⟨by rw [List.length_take] at hk'; omega, e'⟩)).1
      omega
    rw [if_neg hnot] at hg
    have hi' : i < (s.upto picks k).length := by rw [hlen]; exact h2
    rw [if_pos hi']
    show _ = (s.upto picks k)[i]?
    rw [List.getElem?_eq_getElem hi']
    have : (s.upto picks k).getD i Sec.zero = s.ls.getD i Sec.zero := hg
    simp only [List.getD, List.getElem?_eq_getElem hi', Option.getD_some] at this
    rw [this]
    rfl
  · rfl
theorem St.chosen_some {s : St} {picks : List Int} {k i q : Nat} (h : s.loose[k]? = some i) (hq : pickAt picks k % ((s.t i).length + 1) = q + 1) (hl : q < (s.t i).length) : (s.t i)[q] = s.chosen picks i := by
  obtain ⟨h1, h2, h3⟩ := St.loose_at h
  unfold St.chosen
  rw [h1, hq]
  simp [List.getD, hl]

/-! ### slices of numbers -/
structure Nums (w : World) (p : Option Addr) (n c : Nat) (zs : List Int) : Prop where
  len : zs.length = n
  most : n ≤ 9223372036854775807
  lies : 0 < n → ∃ b o, p = some ⟨b, o, none⟩ ∧ ∀ i, i < n → w.cell? ⟨b, o + i, none⟩ = some (.int .i64 (zs.getD i 0))
  ok : ∀ z ∈ zs, -9223372036854775808 ≤ z ∧ z ≤ 9223372036854775807
theorem Nums.gr {w w' : World} {p : Option Addr} {n c : Nat} {zs : List Int} (h : Nums w p n c zs) (g : Gr w w') : Nums w' p n c zs :=
  ⟨h.len, h.most, fun hn => by
    obtain ⟨b, o, e, hc⟩ := h.lies hn
    exact ⟨b, o, e, fun i hi => by rw [g.cell (World.block_lt_of_cell? w _ (hc i hi))]; exact hc i hi⟩, h.ok⟩
theorem Nums.nil (w : World) : Nums w none 0 0 [] := ⟨rfl, by omega, fun h => absurd h (Nat.lt_irrefl 0), fun _ h => by cases h⟩
theorem Ints.nums {w : World} {base : Nat} {v : Value} {xs : List Nat} (h : Ints w base v xs) (hs : ∀ x ∈ xs, x < 65536) : ∃ p c, v = .slice p xs.length c ∧ (∀ g, v.ownBlock = some g → base ≤ g ∧ g < w.heap.size) ∧ Nums w p xs.length c (xs.map fun (x : Nat) => (x : Int)) := by
  have hlt := World.ownsRow.lt h
  rcases h.2 with ⟨rfl, h0⟩ | ⟨g, cap, cur, rfl, hb, hg, hn, hm, hsz, ht⟩
  · have : xs = [] := List.eq_nil_of_length_eq_zero h0
    subst this
    exact ⟨none, 0, rfl, (fun g hg => by cases hg), Nums.nil w⟩
  · refine ⟨_, cap, rfl, hlt, by simp, by unfold maxLen at hm; omega, fun _ => ⟨g, 0, rfl, fun i hi => ?_⟩, fun z hz => ?_⟩
    · rw [Nat.zero_add, cell_of_row w g i cur TI (0, 0) hg]
      have h2 : cur.toList[i]? = (xs.map fun (x : Nat) => Value.int .i64 (x : Int))[i]? := by
        rw [← ht, List.getElem?_take, if_pos (by omega)]
      rw [← Array.getElem?_toList, h2]
      simp [List.getD, hi]
    · obtain ⟨x, hx, rfl⟩ := List.mem_map.1 hz
      have := hs x hx
      omega

end Go.Proofs.Ytkoalabacfjgbaa
