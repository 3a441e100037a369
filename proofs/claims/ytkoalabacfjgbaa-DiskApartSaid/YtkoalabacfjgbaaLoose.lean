
/-
  The sectors of which something does not last yet, rising.
-/
import Derived.Test.YtkoalabacfjgbaaDisk5
import Derived.Test.YtkoalabacfjgbaaSortLay
namespace Go.Proofs.Ytkoalabacfjgbaa
open Go.RowKit Go.Maps Go.Sort Go.Shelf

/-- The sectors that lie loose. -/
def St.loose (s : St) : List Nat := (List.range s.ls.length).filter fun i => !(s.t i).isEmpty
theorem St.mem_loose {s : St} {i : Nat} : i ∈ s.loose ↔ i < s.ls.length ∧ s.t i ≠ [] := by
  unfold St.loose
  rw [List.mem_filter, List.mem_range]
  cases s.t i <;> simp

/-- A slice of numbers of the call's own. -/
def Ints (w : World) (base : Nat) (v : Value) (xs : List Nat) : Prop := w.ownsRow base TI 1 v xs.length (xs.map fun (x : Nat) => Value.int .i64 (x : Int))

theorem keys_any (mb : Option Nat) (w : World) : Calls Try.prog 38 #[.map mb] w fun e w' => e = .returned (.func (.func 42) #[] #[.pointer (some ⟨w.heap.size, 0, none⟩)]) ∧ w.alloc (.cells #[.map mb] TM) = w' := by
  have h := (callsIn_wide (n := 5)).1 (AnyZI.keys_in Shl.keysA Fence.wide 5 trivial rfl mb w)
  exact Calls.mono (P := Try.prog) h fun e w' ⟨h1, h2⟩ => ⟨h1, h2.symm⟩

theorem sortsA (m : Nat) : AnyZI.SortsIn Try.prog Shl.sortedA_ren Fence.wide m :=
  ⟨fun blk off cap ss W hH hblk hsz => callsIn_wide.2 (AnyM.slices_Sort_int Shl.sortA blk off cap ss W hH hblk hsz),
   fun p cap W => callsIn_wide.2 (AnyM.slices_Sort_int_none Shl.sortA p cap W)⟩

/-- Numbers in their order. -/
theorem sorted_nats {xs : List Nat} (hp : xs.Pairwise (· < ·)) {D : DataW Value} {w : World} {b n : Nat} (hown : w.ownsMap Try.prog TI eltR b n D) (hm : ∀ x : Nat, x ∈ xs ↔ has D (key x) = true) (hk : ∀ k, has D k = true → ∃ x : Nat, k = key x) {ss : List Int} (hs : ss.Perm (intKeys D)) :
    (ss.mergeSort fun x y => decide (x ≤ y)) = xs.map fun (x : Nat) => (x : Int) := by
  obtain ⟨es, hD, hpw, hlit⟩ := hown.entries (int_keyed Try.underlying3)
  subst hD
  have hk2 : ∀ p ∈ es, ∃ x, p.1 = .int .i64 x := fun p hp => by
    obtain ⟨x, hx⟩ := hk p.1 (by rw [has_eq, List.any_eq_true]; exact ⟨p, hp, WideAt.sameKey_self (hlit p hp)⟩)
    exact ⟨_, hx⟩
  have hnd : (xs.map fun (x : Nat) => (x : Int)).Nodup := List.pairwise_map.2 (hp.imp fun h e => by omega)
  have hper : (xs.map fun (x : Nat) => (x : Int)).Perm (intKeys (.map es)) := perm_intKeys hpw hk2 hnd fun x => by
    rw [List.mem_map]
    constructor
    · rintro ⟨y, hy, rfl⟩
      exact (hm y).1 hy
    · intro h
      obtain ⟨y, hy⟩ := hk _ h
      unfold key at hy
      simp only [Lit.int.injEq, true_and] at hy
      subst hy
      exact ⟨y, (hm y).2 h, rfl⟩
  have e1 : (ss.mergeSort fun x y => decide (x ≤ y)) = ((xs.map fun (x : Nat) => (x : Int)).mergeSort fun x y => decide (x ≤ y)) := mergeSort_of_perm_i (hs.trans hper.symm)
  rw [e1]
  refine List.mergeSort_of_pairwise (List.pairwise_map.2 (hp.imp fun h => ?_))
  simp only [decide_eq_true_eq]
  omega

set_option maxHeartbeats 1000000 in
theorem sorted_any (B b nn : Nat) (D : DataW Value) (w : World) (hB : B < w.heap.size) (hm : w.cell? ⟨B, 0, none⟩ = some (.map (some b))) (hown : w.ownsMap Try.prog TI eltR b nn D) (hn : nn ≤ 10000000000) :
    Calls Try.prog 37 #[.func (.func 42) #[] #[.pointer (some ⟨B, 0, none⟩)]] w fun e w' => ∃ (v : Value) (ss : List Int), e = .returned v ∧ ss.Perm (intKeys D) ∧
      w'.ownsRow w.heap.size TI 1 v ss.length ((ss.mergeSort (fun x y => decide (x ≤ y))).map encZ) ∧ (v = .slice none 0 0 ↔ ss = []) ∧ Below w.heap.size w w' := by
  refine (callsIn_wide (n := 6)).1 ?_
  have hsz := hown.size_le
  have hseq : SeqGives Fence.wide 3 Try.prog 42 #[.pointer (some ⟨B, 0, none⟩)] encZ (fun ss => ss.Perm (intKeys D)) (Maps.size D) w :=
    AnyZI.keys_gives (ρ := Shl.keysA_ren) { Shl.keysA with } Fence.wide _ trivial rfl (by omega) B b nn D w hB hm hown
  exact AnyZI.sorted_in Shl.sortedA Fence.wide 6 trivial trivial trivial trivial rfl (by omega) (sortsA _) (enters_of Try.func41 (by kernel_rfl) rfl) 42 #[.pointer (some ⟨B, 0, none⟩)] trivial (enters_of Try.func42 (by kernel_rfl) rfl) _ (Maps.size D) (by unfold maxLen; omega) (by omega) w hseq

/-- Answers of Loose. -/
def RetLoose (xs : List Nat) (w : World) (e : Ending) (w' : World) : Prop := ∃ v, e = .returned v ∧ Ints w' w.heap.size v xs ∧ Gr w w'

set_option maxRecDepth 100000 in
set_option maxHeartbeats 1000000 in
theorem Loose_any {F : Nat → Prop} {p : Value} {s : St} (w : World) (h : Dk w F p s) (hw : s.writes ≤ 1000000000) : Calls Try.prog 24 #[p] w fun e w' => RetLoose s.loose w e w' := by
  obtain ⟨b, lv, m, L, rfl, h⟩ := h
  have HM := Lib.hid (missing_no w h)
  obtain ⟨h0, h1, h2, h3, h4⟩ := h.cells
  obtain ⟨D, n, ho, hn, hat, hhas, hkeys⟩ := h.map
  have hk : Gr w (w.alloc (.cells #[.map (some m)] TM)) := (Gr.refl w).alloc (Nat.le_refl _) _
  have HS := Lib.hid (sorted_any w.heap.size m n D (w.alloc (.cells #[.map (some m)] TM)) (by simp) ((Blk.new w TM #[.map (some m)]).cell 0) (ho.alloc _) (by omega))
  have HO : Hid (∀ ss : List Int, ss.Perm (intKeys D) → (ss.mergeSort fun x y => decide (x ≤ y)) = s.loose.map fun (x : Nat) => (x : Int)) := Lib.hid fun ss hs =>
    sorted_nats (by unfold St.loose; exact List.Pairwise.filter _ List.pairwise_lt_range) ho (fun x => by
      rw [St.mem_loose]
      constructor
      · intro ⟨hx, ht⟩
        exact (hhas x hx).2 ht
      · intro hx
        obtain ⟨i, hi, e⟩ := hkeys _ hx
        rw [key_inj e]
        rw [key_inj e] at hx
        exact ⟨hi, (hhas i hi).1 hx⟩) (fun k hk => let ⟨i, _, e⟩ := hkeys k hk; ⟨i, e⟩) hs
  have HG := Lib.hid hk
  clear h h0 h2 h3 h4 ho hn hat hhas hkeys hk hw
  go_enter Try.func24, Try.ntmps24
  go_wp2_with fail
  refine HM.out.mono ?_
  rintro e w1 ⟨rfl, rfl⟩
  go_wp2_with fail
  refine (keys_any _ _).mono ?_
  rintro e w1 ⟨rfl, rfl⟩
  go_wp2_with fail
  refine HS.out.mono ?_
  rintro e w1 ⟨v, ss, rfl, hss, hrow, _, hb⟩
  have HRow := Lib.hid hrow
  have HB := Lib.hid (Gr.trans HG.out hb)
  have HE := Lib.hid (HO.out ss hss)
  have HLen : Hid (ss.length = s.loose.length) := Lib.hid (by have := congrArg List.length (HO.out ss hss); rw [List.length_mergeSort, List.length_map] at this; exact this)
  clear hrow hb hss HS HO HG
  go_wp2_with fail
  go_ret
  refine ⟨_, rfl, ?_, HB.out⟩
  have hr := HRow.out
  rw [HE.out, HLen.out, List.map_map] at hr
  unfold Ints
  obtain ⟨hr1, hr2⟩ := hr
  refine ⟨hr1, hr2.imp id ?_⟩
  rintro ⟨g, cap, cur, h1, h2, h3⟩
  exact ⟨g, cap, cur, h1, by simp at h2; omega, h3⟩

end Go.Proofs.Ytkoalabacfjgbaa
