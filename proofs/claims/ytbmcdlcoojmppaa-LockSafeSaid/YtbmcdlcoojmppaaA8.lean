/-
  Texts on locks, put together: Lk12.
-/
import Derived.Deep.RegionHeld3
import Derived.Test.YtbmcdlcoojmppaaA7
/-
  The keys of a set, rising.
-/
namespace Go.Proofs.Ytbmcdlcoojmppaa
open Go.RowKit Go.Maps Go.Shelf Go.Sort Go.Lib

/-- The order of keys. -/
def cmpK (a b : Key) : Int := if Lib.compareInt a.1 b.1 = 0 then Lib.compareInt a.2 b.2 else Lib.compareInt a.1 b.1
theorem compare_any (x y : Int) (W : World) : Calls Try.prog 57 #[.int .i64 x, .int .i64 y] W fun e w' => e = .returned (.int .i64 (Lib.compareInt x y)) ∧ w' = W := AnyG.cmp_Compare_int Shk.cmpInt x y W
set_option maxRecDepth 100000 in
theorem or_any (w : World) (g : Nat) (x y : Int) (h0 : w.cell? ⟨g, 0, none⟩ = some (.int .i64 x)) (h1 : w.cell? ⟨g, 1, none⟩ = some (.int .i64 y)) :
    Calls Try.prog 56 #[.slice (some ⟨g, 0, none⟩) 2 2] w fun e w' => e = .returned (.int .i64 (if x = 0 then y else x)) ∧ w = w' := by
  by_cases hx : x = 0
  · subst hx
    rw [if_pos rfl]
    by_cases hy : y = 0
    · subst hy
      go_enter Try.func56, Try.ntmps56
      go_wp2
      refine wp_loop_rounds 3 ?_
      rw [rounds_succ]
      go_wp2
      rw [rounds_succ]
      go_wp2
      rw [rounds_succ]
      go_wp2
      go_ret
      exact ⟨rfl, rfl⟩
    · have e : (y == 0) = false := beq_eq_false_iff_ne.2 hy
      have e2 : (y != 0) = true := by simp [bne, e]
      clear hy
      go_enter Try.func56, Try.ntmps56
      go_wp2
      refine wp_loop_rounds 2 ?_
      rw [rounds_succ]
      go_wp2
      rw [rounds_succ]
      go_wp2
      go_ret
      exact ⟨rfl, rfl⟩
  · rw [if_neg hx]
    have e : (x == 0) = false := beq_eq_false_iff_ne.2 hx
    have e2 : (x != 0) = true := by simp [bne, e]
    clear hx
    go_enter Try.func56, Try.ntmps56
    go_wp2
    refine wp_loop_rounds 1 ?_
    rw [rounds_succ]
    go_wp2
    go_ret
    exact ⟨rfl, rfl⟩
set_option maxRecDepth 100000 in
set_option maxHeartbeats 1000000 in
theorem rising_any (a b : Key) (w : World) : Calls Try.prog 40 #[kv a, kv b] w fun e w' => e = .returned (.int .i64 (cmpK a b)) ∧ ∃ q os', w' = grow (w.drewN q) os' := by
  obtain ⟨a1, a2⟩ := a
  obtain ⟨b1, b2⟩ := b
  have hc1 := Lib.hid (fun W => compare_any a1 b1 W)
  have hc2 := Lib.hid (fun W => compare_any a2 b2 W)
  have hv : cmpK (a1, a2) (b1, b2) = if Lib.compareInt a1 b1 = 0 then Lib.compareInt a2 b2 else Lib.compareInt a1 b1 := rfl
  obtain ⟨r1, hr1⟩ : ∃ r, r = Lib.compareInt a1 b1 := ⟨_, rfl⟩
  obtain ⟨r2, hr2⟩ : ∃ r, r = Lib.compareInt a2 b2 := ⟨_, rfl⟩
  rw [hv, ← hr1, ← hr2]
  rw [← hr1] at hc1
  rw [← hr2] at hc2
  have HO := Lib.hid (fun (W : World) (g : Nat) h0 h1 => or_any W g r1 r2 h0 h1)
  obtain ⟨R, hR⟩ : ∃ R, R = (if r1 = 0 then r2 else r1) := ⟨_, rfl⟩
  rw [← hR]
  rw [← hR] at HO
  clear hr1 hr2 hv hR
  show Calls Try.prog 40 #[.agg #[.int .i64 a1, .int .i64 a2], .agg #[.int .i64 b1, .int .i64 b2]] w _
  obtain ⟨W0, hW0⟩ : ∃ W0, W0 = (w.alloc (.cells #[.int .i64 a1, .int .i64 a2] 29)).alloc (.cells #[.int .i64 b1, .int .i64 b2] 29) := ⟨_, rfl⟩
  have ba : Blk W0 w.heap.size 29 #[.int .i64 a1, .int .i64 a2] := by rw [hW0]; exact (Blk.new _ _ _).alloc _
  have bb : Blk W0 (w.heap.size + 1) 29 #[.int .i64 b1, .int .i64 b2] := by
    rw [hW0]
    have := Blk.new (w.alloc (.cells #[.int .i64 a1, .int .i64 a2] 29)) 29 #[.int .i64 b1, .int .i64 b2]
    rwa [World.size_alloc] at this
  have x0 := ba.cell 0
  have x1 := ba.cell 1
  have y0 := bb.cell 0
  have y1 := bb.cell 1
  simp at x0 x1 y0 y1
  have HW := Lib.hid hW0
  clear hW0 ba bb
  go_enter Try.func40, Try.ntmps40
  go_wp2_with fail
  rw [show (w.alloc (.cells #[.int .i64 a1, .int .i64 a2] 29)).alloc (.cells #[.int .i64 b1, .int .i64 b2] 29) = W0 from HW.out.symm]
  have hbl := fun (o : Obj) => Below.heap_alloc W0.drew o
  have HN : Hid (∀ n, n < W0.heap.size → ((W0.drew.alloc (.cells #[.int .i64 r1, .int .i64 r2] TI)).heap[n]? = W0.heap[n]?)) := Lib.hid fun n hn => Below.heap_alloc W0.drew _ n hn
  have HC : Hid ((W0.drew.alloc (.cells #[.int .i64 r1, .int .i64 r2] TI)).cell? ⟨W0.heap.size, 0, none⟩ = some (.int .i64 r1) ∧ (W0.drew.alloc (.cells #[.int .i64 r1, .int .i64 r2] TI)).cell? ⟨W0.heap.size, 1, none⟩ = some (.int .i64 r2)) := Lib.hid ⟨(Blk.new W0.drew TI #[.int .i64 r1, .int .i64 r2]).cell 0, (Blk.new W0.drew TI #[.int .i64 r1, .int .i64 r2]).cell 1⟩
  have z0 := World.cell?_of_block (a := ⟨w.heap.size, 0, none⟩) (HN.out w.heap.size (World.block_lt_of_cell? W0 ⟨w.heap.size, 0, none⟩ x0)) |>.trans x0
  have z1 := World.cell?_of_block (a := ⟨w.heap.size, 1, none⟩) (HN.out w.heap.size (World.block_lt_of_cell? W0 ⟨w.heap.size, 0, none⟩ x0)) |>.trans x1
  have u0 := World.cell?_of_block (a := ⟨w.heap.size + 1, 0, none⟩) (HN.out (w.heap.size + 1) (World.block_lt_of_cell? W0 ⟨w.heap.size + 1, 0, none⟩ y0)) |>.trans y0
  have u1 := World.cell?_of_block (a := ⟨w.heap.size + 1, 1, none⟩) (HN.out (w.heap.size + 1) (World.block_lt_of_cell? W0 ⟨w.heap.size + 1, 0, none⟩ y0)) |>.trans y1
  clear hbl
  go_region_held3 (fun V => V.cell? ⟨w.heap.size, 0, none⟩ = some (.int .i64 a1) ∧ V.cell? ⟨w.heap.size, 1, none⟩ = some (.int .i64 a2) ∧ V.cell? ⟨w.heap.size + 1, 0, none⟩ = some (.int .i64 b1) ∧ V.cell? ⟨w.heap.size + 1, 1, none⟩ = some (.int .i64 b2)) (first | exact ⟨x0, x1, y0, y1⟩ | exact ⟨z0, z1, u0, u1⟩) (first
    | (go_at_call 57; ((first | (with_reducible refine (hc1.out _).mono ?_) | (with_reducible refine (hc2.out _).mono ?_)); rintro e w' ⟨rfl, rfl⟩))
    | (go_at_call 56; ((refine (HO.out _ _ HC.out.1 HC.out.2).mono ?_); rintro e w' ⟨rfl, rfl⟩)))
  go_wp2_with fail
  go_ret
  refine ⟨rfl, 1, #[.cells #[.int .i64 a1, .int .i64 a2] 29, .cells #[.int .i64 b1, .int .i64 b2] 29, .cells #[.int .i64 r1, .int .i64 r2] TI], ?_⟩
  rw [HW.out, alloc_eq_grow, alloc_eq_grow, alloc_eq_grow, grow_grow, grow_grow]
  rfl
/-! ### The sort -/
instance : Inhabited Key := ⟨(0, 0)⟩
theorem ltK (x y : Key) : ltOf cmpK x y = decide (x.1 < y.1 ∨ x.1 = y.1 ∧ x.2 < y.2) := by
  unfold ltOf cmpK Lib.compareInt
  by_cases h1 : x.1 < y.1
  · simp [h1]
  · by_cases h2 : y.1 < x.1
    · have : ¬ x.1 = y.1 := by omega
      simp [h1, h2, this]
    · have e : x.1 = y.1 := by omega
      by_cases h3 : x.2 < y.2
      · simp [e, h3]
      · by_cases h4 : y.2 < x.2 <;> simp [e, h3, h4]
theorem swoK : SWO (ltOf cmpK) where
  irrefl x := by rw [ltK]; simp
  trans x y z h1 h2 := by rw [ltK] at *; simp at *; omega
  ntrans x y z h1 h2 := by rw [ltK] at *; simp at *; omega
theorem totK (x y : Key) (h1 : ltOf cmpK x y = false) (h2 : ltOf cmpK y x = false) : x = y := by
  rw [ltK] at *
  simp at *
  apply Prod.ext <;> omega
/-- Keys, rising. -/
def sortK (ks : List Key) : List Key := ks.mergeSort fun x y => !(ltOf cmpK) y x
theorem sortK_len (ks : List Key) : (sortK ks).length = ks.length := by simp [sortK]
theorem sortK_perm (ks : List Key) : (sortK ks).Perm ks := List.mergeSort_perm ks _
theorem sortK_one (k : Key) : sortK [k] = [k] := by simp [sortK]
theorem flat_get : ∀ (ss : List Key) (t : Nat), t < ss.length * 2 → (ss.flatMap kcells)[t]? = some (kcells (ss.getD (t / 2) (0, 0)))[t % 2]!
  | [], t, h => by simp at h
  | a :: r, 0, h => by simp [List.flatMap_cons, kcells]
  | a :: r, 1, h => by simp [List.flatMap_cons, kcells]
  | a :: r, t + 2, h => by
    have e1 : (t + 2) / 2 = t / 2 + 1 := by omega
    have e2 : (t + 2) % 2 = t % 2 := by omega
    rw [e1, e2]
    have := flat_get r t (by simp at h; omega)
    simp only [List.flatMap_cons, kcells, List.cons_append, List.nil_append, List.getElem?_cons_succ, List.getD_cons_succ]
    exact this
theorem flatK_eq (ss : List Key) : flatK kcells 2 ss.toArray = (ss.flatMap kcells).toArray := by
  apply Array.ext_getElem?
  intro t
  by_cases h : t < ss.length * 2
  · rw [show ((ss.flatMap kcells).toArray)[t]? = (ss.flatMap kcells)[t]? from List.getElem?_toArray .., flat_get ss t h]
    have hs : t < (flatK kcells 2 ss.toArray).size := by simp; exact h
    rw [Array.getElem?_eq_getElem hs]
    have := get_flatK kcells 2 ss.toArray t (by simpa using h)
    rw [getElem!_pos _ t hs] at this
    rw [this]
    have hlt : t / 2 < ss.length := by omega
    simp [List.getD, hlt]
  · rw [Array.getElem?_eq_none (by simp; omega), Array.getElem?_eq_none (by rw [List.size_toArray, kcells_len]; omega)]
theorem heap_sortK {w : World} {g n : Nat} {os : Array Obj} {cur : Array Value} {e : TypeId} {fr : Nat × Nat} (F : Array Value) (hb : w.heap[g]? = some (.cells cur e fr)) :
    (grow (putRow id (Sort.ahead w n) g 0 F) os).heap[g]? = some (.cells (putCells id 0 F cur) e fr) := by
  have hg : g < w.heap.size := (Array.getElem?_eq_some_iff.1 hb).1
  rw [heap_grow_old _ _ (by simpa using hg)]
  simp [putRow, mapBlock, Sort.ahead, Array.getElem?_modify, hb, onCells]
theorem grown_sortK {w : World} {g n : Nat} {os : Array Obj} (F : Array Value) : w.grownBy (grow (putRow id (Sort.ahead w n) g 0 F) os) (some g) := by
  refine ⟨rfl, rfl, rfl, by simp, fun k hk hne => ?_⟩
  rw [heap_grow_old _ _ (by simpa using hk)]
  have : g ≠ k := fun e => hne (by rw [e])
  simp [putRow, mapBlock, Sort.ahead, Array.getElem?_modify, this]
theorem take_putK (cur : Array Value) (F : List Value) (h : F.length ≤ cur.size) : (putCells id 0 F.toArray cur).toList.take F.length = F := by
  apply List.ext_getElem?
  intro j
  by_cases hj : j < F.length
  · rw [List.getElem?_take_of_lt hj, Array.getElem?_toList]
    simp [putCells, hj, show j < cur.size by omega]
  · rw [List.getElem?_take_eq_none (by omega), List.getElem?_eq_none (by omega)]
theorem sortFunc_none (p : Option Addr) (cap : Nat) (fv : Value) (w : World) : Calls Try.prog 39 #[.slice p 0 cap, fv] w fun e w' => e = .returned (.tuple #[]) ∧ w' = w := AnyF.slices_SortFunc_none Shk.sortK p cap fv w
theorem sortFunc_any {w : World} {base g cap : Nat} {ss : List Key} (h : Kr w base (.slice (some ⟨g, 0, none⟩) ss.length cap) ss) (hn : ss.length ≤ 1000000000) :
    Calls Try.prog 39 #[.slice (some ⟨g, 0, none⟩) ss.length cap, .func (.func 40) #[] #[]] w fun e w' => e = .returned (.tuple #[]) ∧ Kr w' base (.slice (some ⟨g, 0, none⟩) ss.length cap) (sortK ss) ∧ w.grownBy w' (some g) := by
  rcases h.2 with ⟨e, _⟩ | ⟨g', cap', cur, e, hb, hg, h1, h2, h3, h4⟩
  · cases e
  · cases e
    have hgl : g < w.heap.size := (Array.getElem?_eq_some_iff.1 hg).1
    have hH : HoldsK kcells 2 w g 0 ss.toArray := by
      intro j hj
      rw [flatK_eq] at hj ⊢
      have hj' : j < ss.length * 2 := by rw [List.size_toArray, kcells_len] at hj; exact hj
      rw [Nat.zero_add]
      refine ⟨?_, by simp [World.frozen?, hg]⟩
      have := World.ownsRow.cellAt h j hj'
      rw [this]
      rw [getElem!_pos _ j hj]
      simp
    have eg : ∀ args w, (callFunc 40 args).run Try.prog w = .ok (.enter 40 args) w := enters_of Try.func40 (by kernel_rfl) rfl
    have hcmp : CmpLays Try.prog 40 #[] kcells 2 cmpK g 0 ss.toArray.size w := fun _ _ _ _ x y => rising_any x y _
    have hcon := AnyQ.slices_SortFunc_total Shk.sortK 2 Try.isAgg29 Try.sizeOf29 kcells (fun _ => rfl) (fun x v hv => by simp [kcells] at hv; rcases hv with rfl | rfl <;> rfl) cmpK swoK 40 #[] g 0 cap ss.toArray w eg hcmp hH hgl (by simp; omega) totK
    refine hcon.mono ?_
    rintro e w' ⟨rfl, n, os, rfl⟩
    have hF : (flatK kcells 2 (sortK ss).toArray) = ((sortK ss).flatMap kcells).toArray := flatK_eq _
    refine ⟨rfl, ⟨by rw [kcells_len], .inr ⟨g, cap, putCells id 0 ((sortK ss).flatMap kcells).toArray cur, by rw [sortK_len], hb, ?_, by rw [sortK_len]; exact h1, h2, by simp [putCells, h3], ?_⟩⟩, ?_⟩
    · show (grow (putRow id (Sort.ahead w n) g 0 (flatK kcells 2 (sortK ss).toArray)) os).heap[g]? = _
      rw [hF]
      exact heap_sortK _ hg
    · have e1 : (sortK ss).length * 2 = ((sortK ss).flatMap kcells).length := (kcells_len _).symm
      rw [e1]
      exact take_putK cur _ (by rw [kcells_len, sortK_len]; omega)
    · exact grown_sortK _
end Go.Proofs.Ytbmcdlcoojmppaa

