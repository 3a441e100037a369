/-
  Texts on locks, put together: Su12 LkFor1.
-/
import Derived.Shelf.SlicesE.Compact
import Derived.Test.YtadopbpfnnpnaaaGreatL24
import Derived.Test.YtadopbpfnnpnaaaGreatL35
set_option linter.unusedVariables false
set_option linter.unusedSimpArgs false
/-
  slices.Compact over uint64: a sorted row without what stands twice.
-/
namespace Go.Proofs.YtadopbpfnnpnaaaGreat
open Go.RowKit Go.Sort Go.Lib

def Shu.comp_ren : Go.Shelf.Ren := ⟨fun | 43 => 46 | n => n, fun | 22 => 38 | 23 => 31 | 3 => 3 | 4 => 4 | 0 => 0 | n => n, fun | n => n⟩
theorem Shu.comp : Go.Proofs.SlLaysE.n43 Tryz.prog Shu.comp_ren := {
  mixed := by kernel_rfl
  f43 := ⟨Tryz.f46.name, by decide, Tryz.func46.trans (congrArg some (by kernel_rfl))⟩
  t0 := Tryz.underlying0
  a0 := Tryz.isAgg0
  z0 := Tryz.sizeOf0
  v0 := Tryz.zeroValue0
  t3 := Tryz.underlying3
  a3 := Tryz.isAgg3
  z3 := Tryz.sizeOf3
  v3 := Tryz.zeroValue3
  t4 := Tryz.underlying4
  a4 := Tryz.isAgg4
  z4 := Tryz.sizeOf4
  v4 := Tryz.zeroValue4
  t22 := Tryz.underlying38
  a22 := Tryz.isAgg38
  z22 := Tryz.sizeOf38
  v22 := Tryz.zeroValue38
  a23 := Tryz.isAgg31
  z23 := Tryz.sizeOf31 }
/-- A sorted row, each number once: the same numbers, rising. -/
theorem compact_mem {d : Array Int} {n : Nat} (hn : d.size = n) (x : Int) : x ∈ compactUpTo d n ↔ x ∈ d.toList := by
  subst hn
  unfold compactUpTo
  simp only [List.mem_map, List.mem_filter, List.mem_range]
  constructor
  · rintro ⟨j, ⟨h1, _⟩, rfl⟩
    rw [getElem!_pos d j h1]
    exact Array.getElem_mem_toList h1
  · intro hx
    obtain ⟨j, hj, e⟩ := List.getElem_of_mem hx
    have hj' : j < d.size := by simpa using hj
    have key : ∀ k, k < d.size → d[k]! = x → ∃ a, (a < d.size ∧ keeps d a = true) ∧ d[a]! = x := by
      intro k
      induction k with
      | zero => intro h0 h1; exact ⟨0, ⟨h0, by simp [keeps]⟩, h1⟩
      | succ k ih =>
        intro h0 h1
        by_cases e2 : d[k]! = x
        · exact ih (by omega) e2
        · refine ⟨k + 1, ⟨h0, ?_⟩, h1⟩
          unfold keeps
          simp only [decide_eq_true_eq]
          exact .inr (by rw [Nat.add_sub_cancel, h1]; exact fun e3 => e2 e3.symm)
    exact key j hj' (by rw [getElem!_pos d j hj']; simpa using e)
theorem compact_rise {d : Array Int} {n : Nat} (hn : d.size = n) (hs : SortedIn ltInt 0 n d) : (compactUpTo d n).Pairwise (· < ·) := by
  subst hn
  unfold compactUpTo
  rw [List.pairwise_map]
  have h1 : ((List.range d.size).filter (keeps d)).Pairwise (· < ·) := List.Pairwise.filter _ List.pairwise_lt_range
  refine List.Pairwise.imp_of_mem (fun {a b} ha hb hab => ?_) h1
  obtain ⟨a1, a2⟩ := List.mem_filter.1 ha
  obtain ⟨b1, b2⟩ := List.mem_filter.1 hb
  simp only [List.mem_range] at a1 b1
  unfold keeps at b2
  simp only [decide_eq_true_eq] at b2
  have hb0 : b ≠ 0 := by omega
  have hne : d[b]! ≠ d[b - 1]! := by
    rcases b2 with e | e
    · exact absurd e hb0
    · exact e
  have le : ∀ i j, i < j → j < d.size → d[i]! ≤ d[j]! := fun i j q1 q2 => by
    have := hs i j (Nat.zero_le _) q1 q2
    simp only [ltInt, decide_eq_false_iff_not] at this
    omega
  have l1 := le (b - 1) b (by omega) b1
  by_cases e : a = b - 1
  · rw [e]; omega
  · have l2 := le a (b - 1) (by omega) (by omega)
    omega
theorem compact_len (d : Array Int) : (compactUpTo d d.size).length ≤ d.size := by
  unfold compactUpTo
  rw [List.length_map]
  exact Nat.le_trans (List.length_filter_le _ _) (by simp)
/-- slices.Compact over uint64. -/
theorem compact_u {w : World} {g off N n cap : Nat} {d : Array Int} (h : SU w w g off N d) (hn : d.size = n) (hsz : n ≤ 4611686018427387904) (hcap : n ≤ cap) :
    Calls Tryz.prog 46 #[.slice (some ⟨g, off, none⟩) n cap] w fun e w' => ∃ d', d'.size = n ∧ SU w w' g off N d' ∧ (∀ j, j < (compactUpTo d n).length → d'[j]! = (compactUpTo d n)[j]!) ∧ e = .returned (.slice (some ⟨g, off, none⟩) (compactUpTo d n).length cap) := by
  subst hn
  have hH : Holds (Value.int .u64) w g off d := fun j hj => ⟨h.cell hj, h.free j⟩
  have hlen := compact_len d
  refine (show Calls Tryz.prog 46 #[.slice (some ⟨g, off, none⟩) d.size cap] w _ from AnyE.slices_Compact (P := Tryz.prog) (ρ := Shu.comp_ren) Shu.comp (Value.int .u64) (fun _ => rfl) (EqlAt.intD _ _ .u64) (NeqAt.intD _ _ .u64) 0 Tryz.zeroValue31 g off cap d w hH (by omega) hcap).mono ?_
  rintro e w' ⟨rfl, q, rfl⟩
  obtain ⟨D, hD⟩ : ∃ D, D = (compactUpTo d d.size ++ List.replicate (d.size - (compactUpTo d d.size).length) 0).toArray := ⟨_, rfl⟩
  have hs : D.size = d.size := by rw [hD]; simp; omega
  rw [← hD]
  refine ⟨D, hs, ?_, fun j hj => ?_, rfl⟩
  · obtain ⟨cs, h1, h2, h3, h4⟩ := h.row
    have e1 : (putRow (Value.int .u64) (Sort.ahead w q) g off D).heap[g]? = some (.cells (putCells (Value.int .u64) off D cs) TQ (0, 0)) := by
      show (w.heap.modify g _)[g]? = _
      rw [Array.getElem?_modify, if_pos rfl, h1]
      rfl
    refine ⟨⟨_, e1, by unfold putCells; simp [h2], by omega, fun j hj => ?_⟩, ⟨rfl, rfl, rfl, by show w.heap.size ≤ (w.heap.modify g _).size; simp, fun n hn hne => ?_⟩⟩
    · unfold putCells
      rw [Array.getElem?_mapIdx]
      have : off + j < cs.size := by omega
      rw [Array.getElem?_eq_getElem this]
      simp [hj]
    · show (w.heap.modify g _)[n]? = _
      rw [Array.getElem?_modify, if_neg (fun e => hne (by rw [e]))]
  · have hj2 : j < D.size := by omega
    rw [getElem!_pos D j hj2, getElem!_pos _ j hj]
    simp only [hD]
    simp [List.getElem_append_left hj]
end Go.Proofs.YtadopbpfnnpnaaaGreat

/-
  Rows of owners, sorted, and each once.
-/
namespace Go.Proofs.YtadopbpfnnpnaaaGreat
open Go.RowKit Go.Maps

/-- Owners as numbers. -/
def nums (xs : List Nat) : Array Int := (xs.map fun n : Nat => (n : Int)).toArray
theorem nums_size (xs : List Nat) : (nums xs).size = xs.length := by unfold nums; simp
theorem nums_at (xs : List Nat) {j : Nat} (hj : j < xs.length) : (nums xs)[j]! = ((xs.getD j 0 : Nat) : Int) := by
  rw [getElem!_pos _ j (by rw [nums_size]; exact hj)]
  unfold nums
  simp [List.getD, hj]
theorem nums_list (xs : List Nat) : (nums xs).toList = xs.map fun n : Nat => (n : Int) := rfl
theorem nat_row {l : List Int} (h : ∀ x, x ∈ l → 0 ≤ x) : ∃ ys : List Nat, l = ys.map (fun n : Nat => (n : Int)) := by
  refine ⟨l.map Int.toNat, ?_⟩
  rw [List.map_map]
  have : l.map ((fun n : Nat => (n : Int)) ∘ Int.toNat) = l.map id := List.map_congr_left fun x hx => by
    have := h x hx
    simp only [Function.comp]
    exact Int.toNat_of_nonneg this
  rw [this, List.map_id]
section
variable {w w' : World} {base g cap : Nat} {xs : List Nat}
theorem Us.su (h : Us w base (.slice (some ⟨g, 0, none⟩) xs.length cap) xs) : SU w w g 0 cap (nums xs) ∧ xs.length ≤ cap ∧ cap ≤ maxLen ∧ base ≤ g := by
  rcases h.2 with ⟨e, _⟩ | ⟨g', cap', cur, e, hb, hh, h1, h2, h3, h4⟩
  · cases e
  · simp only [Value.slice.injEq, Option.some.injEq, Addr.mk.injEq, and_true, true_and] at e
    obtain ⟨rfl, rfl⟩ := e
    refine ⟨⟨⟨cur, hh, by rw [h3, Nat.mul_one], by rw [nums_size]; omega, fun j hj => ?_⟩, World.grownBy.refl _ _⟩, h1, h2, hb⟩
    rw [nums_size] at hj
    have hb2 : Blk w g TOw cur := hh
    have := Us.cellAt h j hj
    rw [hb2.cell] at this
    rw [Nat.zero_add, this, nums_at xs hj]
    rfl
theorem SU.us {w0 : World} {d : Array Int} (h : SU w0 w g 0 cap d) (hb : base ≤ g) (hm : cap ≤ maxLen) (hd : xs.length ≤ d.size) (he : ∀ j, j < xs.length → d[j]! = ((xs.getD j 0 : Nat) : Int)) : Us w base (.slice (some ⟨g, 0, none⟩) xs.length cap) xs := by
  obtain ⟨cs, h1, h2, h3, h4⟩ := h.row
  refine ⟨by simp, .inr ⟨g, cap, cs, rfl, hb, h1, by omega, hm, by omega, ?_⟩⟩
  rw [Nat.mul_one]
  apply List.ext_getElem?
  intro j
  by_cases hj : j < xs.length
  · rw [List.getElem?_take_of_lt hj, Array.getElem?_toList]
    have := h4 j (by omega)
    rw [Nat.zero_add] at this
    rw [this, he j hj, List.getElem?_map]
    simp [List.getD, hj, u64v]
  · rw [List.getElem?_eq_none (by simp; omega), List.getElem?_eq_none (by simp; omega)]
theorem Us.ne_nil {v : Value} (h : Us w base v xs) (hx : xs ≠ []) : ∃ g cap, v = .slice (some ⟨g, 0, none⟩) xs.length cap := by
  rcases h.2 with ⟨_, e⟩ | ⟨g', cap', cur, e, _⟩
  · exact absurd (List.eq_nil_of_length_eq_zero e) hx
  · exact ⟨g', cap', e⟩
/-- slices.Sort over a row of owners. -/
theorem sort_us {g cap : Nat} (h : Us w base (.slice (some ⟨g, 0, none⟩) xs.length cap) xs) (hx : xs.length ≤ 1000000000) :
    Calls Tryz.prog 45 #[.slice (some ⟨g, 0, none⟩) xs.length cap] w fun e w' => e = .returned (.tuple #[]) ∧ ∃ ys, ys.Perm xs ∧ ys.Pairwise (· ≤ ·) ∧ Us w' base (.slice (some ⟨g, 0, none⟩) xs.length cap) ys ∧ w.grownBy w' (some g) := by
  obtain ⟨hs, h1, h2, h3⟩ := h.su
  refine (sort_u hs (nums_size xs) (by omega)).mono ?_
  rintro e w' ⟨rfl, d', hd, hp, hsrt, hs'⟩
  have hl := sorted_list (nums_size xs) hp hsrt
  have hpm : d'.toList.Perm (nums xs).toList := by rw [hl]; exact List.mergeSort_perm _ _
  obtain ⟨ys, hys⟩ := nat_row (l := d'.toList) fun x hx => by
    have := hpm.mem_iff.1 hx
    rw [nums_list] at this
    obtain ⟨n, _, rfl⟩ := List.mem_map.1 this
    exact Int.natCast_nonneg n
  have hlen : ys.length = xs.length := by
    have := hpm.length_eq
    rw [hys, nums_list] at this
    simpa using this
  have hperm : ys.Perm xs := by
    rw [hys, nums_list] at hpm
    have := hpm.map Int.toNat
    rw [List.map_map, List.map_map] at this
    have e : (Int.toNat ∘ fun n : Nat => (n : Int)) = id := by funext n; simp
    rw [e, List.map_id, List.map_id] at this
    exact this
  have hdat : ∀ j, j < ys.length → d'[j]! = ((ys.getD j 0 : Nat) : Int) := fun j hj => by
    have hj2 : j < d'.size := by omega
    rw [getElem!_pos d' j hj2]
    have : d'.toList[j]? = (ys.map fun n : Nat => (n : Int))[j]? := by rw [hys]
    rw [Array.getElem?_toList, Array.getElem?_eq_getElem hj2, List.getElem?_map, List.getElem?_eq_getElem hj] at this
    simp only [Option.map_some, Option.some.injEq] at this
    rw [this]
    simp [List.getD, hj]
  refine ⟨rfl, ys, hperm, ?_, ?_, hs'.on⟩
  · rw [List.pairwise_iff_getElem]
    intro i j hi hj hij
    have := hsrt i j (Nat.zero_le _) hij (by omega)
    rw [hdat i hi, hdat j hj] at this
    simp only [Sort.ltInt, decide_eq_false_iff_not] at this
    simp [List.getD, hi, hj] at this
    omega
  · have := hs'.us (base := base) (xs := ys) h3 h2 (by omega) hdat
    rw [hlen] at this
    exact this
theorem getD_get {α : Type} (l : List α) (j : Nat) (z : α) (hj : j < l.length) : l.getD j z = l[j] := by simp [List.getD, hj]
/-- slices.Compact over a sorted row of owners. -/
theorem compact_us {g cap : Nat} {ys : List Nat} (h : Us w base (.slice (some ⟨g, 0, none⟩) ys.length cap) ys) (hx : ys.length ≤ 1000000000) (hs : ys.Pairwise (· ≤ ·)) :
    Calls Tryz.prog 46 #[.slice (some ⟨g, 0, none⟩) ys.length cap] w fun e w' => ∃ zs v, e = .returned v ∧ (∀ q, q ∈ zs ↔ q ∈ ys) ∧ zs.Pairwise (· < ·) ∧ zs.length ≤ ys.length ∧ Us w' base v zs ∧ w.grownBy w' (some g) := by
  obtain ⟨hsu, h1, h2, h3⟩ := h.su
  have hsrt : Sort.SortedIn Sort.ltInt 0 ys.length (nums ys) := fun i j _ hij hj => by
    rw [nums_at ys hj, nums_at ys (show i < ys.length by omega), getD_get ys i 0 (by omega), getD_get ys j 0 hj]
    have := (List.pairwise_iff_getElem.1 hs) i j (by omega) hj hij
    simp only [Sort.ltInt, decide_eq_false_iff_not]
    omega
  have hm := fun x => compact_mem (nums_size ys) x
  have hr := compact_rise (nums_size ys) hsrt
  have hcl := compact_len (nums ys)
  rw [nums_size] at hcl
  refine (compact_u hsu (nums_size ys) (by omega) h1).mono ?_
  rintro e w' ⟨d', hd, hs', hat, rfl⟩
  obtain ⟨zs, hzs⟩ := nat_row (l := Lib.compactUpTo (nums ys) ys.length) fun x hx => by
    have := (hm x).1 hx
    rw [nums_list] at this
    obtain ⟨n, _, rfl⟩ := List.mem_map.1 this
    exact Int.natCast_nonneg n
  rw [hzs] at hm hr hcl hat ⊢
  rw [List.length_map] at hcl
  simp only [List.length_map] at hat ⊢
  refine ⟨zs, _, rfl, fun q => ?_, ?_, hcl, hs'.us h3 h2 (by omega) fun j hj => ?_, hs'.on⟩
  · have := hm (q : Int)
    rw [nums_list] at this
    have e : ∀ l : List Nat, (q : Int) ∈ l.map (fun n : Nat => (n : Int)) ↔ q ∈ l := fun l => by
      rw [List.mem_map]
      exact ⟨fun ⟨a, h1, h2⟩ => by have : a = q := Int.ofNat.inj h2; exact this ▸ h1, fun h => ⟨q, h, rfl⟩⟩
    rw [e, e] at this
    exact this
  · rw [List.pairwise_map] at hr
    exact hr.imp fun h => by omega
  · rw [hat j hj, getElem!_pos _ j (by simpa using hj), getD_get zs j 0 hj]
    simp
end
end Go.Proofs.YtadopbpfnnpnaaaGreat

