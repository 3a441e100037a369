/-
  Texts on locks, put together: Lk12 Lk13 Lk14.
-/
import Derived.Deep.RegionHeld3
import Derived.Laws.StructEq
import Derived.IntWalk
import Derived.Test.YtadopbpfnnpnaaaGreatL7
set_option linter.unusedVariables false
set_option linter.unusedSimpArgs false
/-
  The keys of a set, rising.
-/
namespace Go.Proofs.YtadopbpfnnpnaaaGreat
open Go.RowKit Go.Maps Go.Shelf Go.Sort Go.Lib

/-- The order of keys. -/
def cmpK (a b : Key) : Int := if Lib.compareInt a.1 b.1 = 0 then Lib.compareInt a.2 b.2 else Lib.compareInt a.1 b.1
theorem compare_any (x y : Int) (W : World) : Calls Tryz.prog 72 #[.int .i64 x, .int .i64 y] W fun e w' => e = .returned (.int .i64 (Lib.compareInt x y)) ∧ w' = W := AnyG.cmp_Compare_int Shk.cmpInt x y W
set_option maxRecDepth 100000 in
theorem or_any (w : World) (g : Nat) (x y : Int) (h0 : w.cell? ⟨g, 0, none⟩ = some (.int .i64 x)) (h1 : w.cell? ⟨g, 1, none⟩ = some (.int .i64 y)) :
    Calls Tryz.prog 71 #[.slice (some ⟨g, 0, none⟩) 2 2] w fun e w' => e = .returned (.int .i64 (if x = 0 then y else x)) ∧ w = w' := by
  by_cases hx : x = 0
  · subst hx
    rw [if_pos rfl]
    by_cases hy : y = 0
    · subst hy
      go_enter Tryz.func71, Tryz.ntmps71
      go_wp2
      refine wp_loop_rounds 3 ?_
      rw [rounds_succ]
      go_wp2
      rw [rounds_succ]
      go_wp2
      rw [rounds_succ]
      go_wp2
      go_ret
      exact ⟨rfl, rfl⟩
    · have e : (y == 0) = false := beq_eq_false_iff_ne.2 hy
      have e2 : (y != 0) = true := by simp [bne, e]
      clear hy
      go_enter Tryz.func71, Tryz.ntmps71
      go_wp2
      refine wp_loop_rounds 2 ?_
      rw [rounds_succ]
      go_wp2
      rw [rounds_succ]
      go_wp2
      go_ret
      exact ⟨rfl, rfl⟩
  · rw [if_neg hx]
    have e : (x == 0) = false := beq_eq_false_iff_ne.2 hx
    have e2 : (x != 0) = true := by simp [bne, e]
    clear hx
    go_enter Tryz.func71, Tryz.ntmps71
    go_wp2
    refine wp_loop_rounds 1 ?_
    rw [rounds_succ]
    go_wp2
    go_ret
    exact ⟨rfl, rfl⟩
set_option maxRecDepth 100000 in
set_option maxHeartbeats 1000000 in
theorem rising_any (a b : Key) (w : World) : Calls Tryz.prog 60 #[kv a, kv b] w fun e w' => e = .returned (.int .i64 (cmpK a b)) ∧ ∃ q os', w' = grow (w.drewN q) os' := by
  obtain ⟨a1, a2⟩ := a
  obtain ⟨b1, b2⟩ := b
  have hc1 := Lib.hid (fun W => compare_any a1 b1 W)
  have hc2 := Lib.hid (fun W => compare_any a2 b2 W)
  have hv : cmpK (a1, a2) (b1, b2) = if Lib.compareInt a1 b1 = 0 then Lib.compareInt a2 b2 else Lib.compareInt a1 b1 := rfl
  obtain ⟨r1, hr1⟩ : ∃ r, r = Lib.compareInt a1 b1 := ⟨_, rfl⟩
  obtain ⟨r2, hr2⟩ : ∃ r, r = Lib.compareInt a2 b2 := ⟨_, rfl⟩
  rw [hv, ← hr1, ← hr2]
  rw [← hr1] at hc1
  rw [← hr2] at hc2
  have HO := Lib.hid (fun (W : World) (g : Nat) h0 h1 => or_any W g r1 r2 h0 h1)
  obtain ⟨R, hR⟩ : ∃ R, R = (if r1 = 0 then r2 else r1) := ⟨_, rfl⟩
  rw [← hR]
  rw [← hR] at HO
  clear hr1 hr2 hv hR
  show Calls Tryz.prog 60 #[.agg #[.int .i64 a1, .int .i64 a2], .agg #[.int .i64 b1, .int .i64 b2]] w _
  obtain ⟨W0, hW0⟩ : ∃ W0, W0 = (w.alloc (.cells #[.int .i64 a1, .int .i64 a2] 33)).alloc (.cells #[.int .i64 b1, .int .i64 b2] 33) := ⟨_, rfl⟩
  have ba : Blk W0 w.heap.size 33 #[.int .i64 a1, .int .i64 a2] := by rw [hW0]; exact (Blk.new _ _ _).alloc _
  have bb : Blk W0 (w.heap.size + 1) 33 #[.int .i64 b1, .int .i64 b2] := by
    rw [hW0]
    have := Blk.new (w.alloc (.cells #[.int .i64 a1, .int .i64 a2] 33)) 33 #[.int .i64 b1, .int .i64 b2]
    rwa [World.size_alloc] at this
  have x0 := ba.cell 0
  have x1 := ba.cell 1
  have y0 := bb.cell 0
  have y1 := bb.cell 1
  simp at x0 x1 y0 y1
  have HW := Lib.hid hW0
  clear hW0 ba bb
  go_enter Tryz.func60, Tryz.ntmps60
  go_wp2_with fail
  rw [show (w.alloc (.cells #[.int .i64 a1, .int .i64 a2] 33)).alloc (.cells #[.int .i64 b1, .int .i64 b2] 33) = W0 from HW.out.symm]
  have hbl := fun (o : Obj) => Below.heap_alloc W0.drew o
  have HN : Hid (∀ n, n < W0.heap.size → ((W0.drew.alloc (.cells #[.int .i64 r1, .int .i64 r2] TI)).heap[n]? = W0.heap[n]?)) := Lib.hid fun n hn => Below.heap_alloc W0.drew _ n hn
  have HC : Hid ((W0.drew.alloc (.cells #[.int .i64 r1, .int .i64 r2] TI)).cell? ⟨W0.heap.size, 0, none⟩ = some (.int .i64 r1) ∧ (W0.drew.alloc (.cells #[.int .i64 r1, .int .i64 r2] TI)).cell? ⟨W0.heap.size, 1, none⟩ = some (.int .i64 r2)) := Lib.hid ⟨(Blk.new W0.drew TI #[.int .i64 r1, .int .i64 r2]).cell 0, (Blk.new W0.drew TI #[.int .i64 r1, .int .i64 r2]).cell 1⟩
  have z0 := World.cell?_of_block (a := ⟨w.heap.size, 0, none⟩) (HN.out w.heap.size (World.block_lt_of_cell? W0 ⟨w.heap.size, 0, none⟩ x0)) |>.trans x0
  have z1 := World.cell?_of_block (a := ⟨w.heap.size, 1, none⟩) (HN.out w.heap.size (World.block_lt_of_cell? W0 ⟨w.heap.size, 0, none⟩ x0)) |>.trans x1
  have u0 := World.cell?_of_block (a := ⟨w.heap.size + 1, 0, none⟩) (HN.out (w.heap.size + 1) (World.block_lt_of_cell? W0 ⟨w.heap.size + 1, 0, none⟩ y0)) |>.trans y0
  have u1 := World.cell?_of_block (a := ⟨w.heap.size + 1, 1, none⟩) (HN.out (w.heap.size + 1) (World.block_lt_of_cell? W0 ⟨w.heap.size + 1, 0, none⟩ y0)) |>.trans y1
  clear hbl
  go_region_held3 (fun V => V.cell? ⟨w.heap.size, 0, none⟩ = some (.int .i64 a1) ∧ V.cell? ⟨w.heap.size, 1, none⟩ = some (.int .i64 a2) ∧ V.cell? ⟨w.heap.size + 1, 0, none⟩ = some (.int .i64 b1) ∧ V.cell? ⟨w.heap.size + 1, 1, none⟩ = some (.int .i64 b2)) (first | exact ⟨x0, x1, y0, y1⟩ | exact ⟨z0, z1, u0, u1⟩) (first
    | (go_at_call 72; ((first | (with_reducible refine (hc1.out _).mono ?_) | (with_reducible refine (hc2.out _).mono ?_)); rintro e w' ⟨rfl, rfl⟩))
    | (go_at_call 71; ((refine (HO.out _ _ HC.out.1 HC.out.2).mono ?_); rintro e w' ⟨rfl, rfl⟩)))
  go_wp2_with fail
  go_ret
  refine ⟨rfl, 1, #[.cells #[.int .i64 a1, .int .i64 a2] 33, .cells #[.int .i64 b1, .int .i64 b2] 33, .cells #[.int .i64 r1, .int .i64 r2] TI], ?_⟩
  rw [HW.out, alloc_eq_grow, alloc_eq_grow, alloc_eq_grow, grow_grow, grow_grow]
  rfl
/-! ### The sort -/
instance : Inhabited Key := ⟨(0, 0)⟩
theorem ltK (x y : Key) : ltOf cmpK x y = decide (x.1 < y.1 ∨ x.1 = y.1 ∧ x.2 < y.2) := by
  unfold ltOf cmpK Lib.compareInt
  by_cases h1 : x.1 < y.1
  · simp [h1]
  · by_cases h2 : y.1 < x.1
    · have : ¬ x.1 = y.1 := by omega
      simp [h1, h2, this]
    · have e : x.1 = y.1 := by omega
      by_cases h3 : x.2 < y.2
      · simp [e, h3]
      · by_cases h4 : y.2 < x.2 <;> simp [e, h3, h4]
theorem swoK : SWO (ltOf cmpK) where
  irrefl x := by rw [ltK]; simp
  trans x y z h1 h2 := by rw [ltK] at *; simp at *; omega
  ntrans x y z h1 h2 := by rw [ltK] at *; simp at *; omega
theorem totK (x y : Key) (h1 : ltOf cmpK x y = false) (h2 : ltOf cmpK y x = false) : x = y := by
  rw [ltK] at *
  simp at *
  apply Prod.ext <;> omega
/-- Keys, rising. -/
def sortK (ks : List Key) : List Key := ks.mergeSort fun x y => !(ltOf cmpK) y x
theorem sortK_len (ks : List Key) : (sortK ks).length = ks.length := by simp [sortK]
theorem sortK_perm (ks : List Key) : (sortK ks).Perm ks := List.mergeSort_perm ks _
theorem sortK_one (k : Key) : sortK [k] = [k] := by simp [sortK]
theorem flat_get : ∀ (ss : List Key) (t : Nat), t < ss.length * 2 → (ss.flatMap kcells)[t]? = some (kcells (ss.getD (t / 2) (0, 0)))[t % 2]!
  | [], t, h => by simp at h
  | a :: r, 0, h => by simp [List.flatMap_cons, kcells]
  | a :: r, 1, h => by simp [List.flatMap_cons, kcells]
  | a :: r, t + 2, h => by
    have e1 : (t + 2) / 2 = t / 2 + 1 := by omega
    have e2 : (t + 2) % 2 = t % 2 := by omega
    rw [e1, e2]
    have := flat_get r t (by simp at h; omega)
    simp only [List.flatMap_cons, kcells, List.cons_append, List.nil_append, List.getElem?_cons_succ, List.getD_cons_succ]
    exact this
theorem flatK_eq (ss : List Key) : flatK kcells 2 ss.toArray = (ss.flatMap kcells).toArray := by
  apply Array.ext_getElem?
  intro t
  by_cases h : t < ss.length * 2
  · rw [show ((ss.flatMap kcells).toArray)[t]? = (ss.flatMap kcells)[t]? from List.getElem?_toArray .., flat_get ss t h]
    have hs : t < (flatK kcells 2 ss.toArray).size := by simp; exact h
    rw [Array.getElem?_eq_getElem hs]
    have := get_flatK kcells 2 ss.toArray t (by simpa using h)
    rw [getElem!_pos _ t hs] at this
    rw [this]
    have hlt : t / 2 < ss.length := by omega
    simp [List.getD, hlt]
  · rw [Array.getElem?_eq_none (by simp; omega), Array.getElem?_eq_none (by rw [List.size_toArray, kcells_len]; omega)]
theorem heap_sortK {w : World} {g n : Nat} {os : Array Obj} {cur : Array Value} {e : TypeId} {fr : Nat × Nat} (F : Array Value) (hb : w.heap[g]? = some (.cells cur e fr)) :
    (grow (putRow id (Sort.ahead w n) g 0 F) os).heap[g]? = some (.cells (putCells id 0 F cur) e fr) := by
  have hg : g < w.heap.size := (Array.getElem?_eq_some_iff.1 hb).1
  rw [heap_grow_old _ _ (by simpa using hg)]
  simp [putRow, mapBlock, Sort.ahead, Array.getElem?_modify, hb, onCells]
theorem grown_sortK {w : World} {g n : Nat} {os : Array Obj} (F : Array Value) : w.grownBy (grow (putRow id (Sort.ahead w n) g 0 F) os) (some g) := by
  refine ⟨rfl, rfl, rfl, by simp, fun k hk hne => ?_⟩
  rw [heap_grow_old _ _ (by simpa using hk)]
  have : g ≠ k := fun e => hne (by rw [e])
  simp [putRow, mapBlock, Sort.ahead, Array.getElem?_modify, this]
theorem take_putK (cur : Array Value) (F : List Value) (h : F.length ≤ cur.size) : (putCells id 0 F.toArray cur).toList.take F.length = F := by
  apply List.ext_getElem?
  intro j
  by_cases hj : j < F.length
  · rw [List.getElem?_take_of_lt hj, Array.getElem?_toList]
    simp [putCells, hj, show j < cur.size by omega]
  · rw [List.getElem?_take_eq_none (by omega), List.getElem?_eq_none (by omega)]
theorem sortFunc_none (p : Option Addr) (cap : Nat) (fv : Value) (w : World) : Calls Tryz.prog 59 #[.slice p 0 cap, fv] w fun e w' => e = .returned (.tuple #[]) ∧ w' = w := AnyF.slices_SortFunc_none Shk.sortK p cap fv w
theorem sortFunc_any {w : World} {base g cap : Nat} {ss : List Key} (h : Kr w base (.slice (some ⟨g, 0, none⟩) ss.length cap) ss) (hn : ss.length ≤ 1000000000) :
    Calls Tryz.prog 59 #[.slice (some ⟨g, 0, none⟩) ss.length cap, .func (.func 60) #[] #[]] w fun e w' => e = .returned (.tuple #[]) ∧ Kr w' base (.slice (some ⟨g, 0, none⟩) ss.length cap) (sortK ss) ∧ w.grownBy w' (some g) := by
  rcases h.2 with ⟨e, _⟩ | ⟨g', cap', cur, e, hb, hg, h1, h2, h3, h4⟩
  · cases e
  · cases e
    have hgl : g < w.heap.size := (Array.getElem?_eq_some_iff.1 hg).1
    have hH : HoldsK kcells 2 w g 0 ss.toArray := by
      intro j hj
      rw [flatK_eq] at hj ⊢
      have hj' : j < ss.length * 2 := by rw [List.size_toArray, kcells_len] at hj; exact hj
      rw [Nat.zero_add]
      refine ⟨?_, by simp [World.frozen?, hg]⟩
      have := World.ownsRow.cellAt h j hj'
      rw [this]
      rw [getElem!_pos _ j hj]
      simp
    have eg : ∀ args w, (callFunc 60 args).run Tryz.prog w = .ok (.enter 60 args) w := enters_of Tryz.func60 (by kernel_rfl) rfl
    have hcmp : CmpLays Tryz.prog 60 #[] kcells 2 cmpK g 0 ss.toArray.size w := fun _ _ _ _ x y => rising_any x y _
    have hcon := AnyQ.slices_SortFunc_total Shk.sortK 2 Tryz.isAgg33 Tryz.sizeOf33 kcells (fun _ => rfl) (fun x v hv => by simp [kcells] at hv; rcases hv with rfl | rfl <;> rfl) cmpK swoK 60 #[] g 0 cap ss.toArray w eg hcmp hH hgl (by simp; omega) totK
    refine hcon.mono ?_
    rintro e w' ⟨rfl, n, os, rfl⟩
    have hF : (flatK kcells 2 (sortK ss).toArray) = ((sortK ss).flatMap kcells).toArray := flatK_eq _
    refine ⟨rfl, ⟨by rw [kcells_len], .inr ⟨g, cap, putCells id 0 ((sortK ss).flatMap kcells).toArray cur, by rw [sortK_len], hb, ?_, by rw [sortK_len]; exact h1, h2, by simp [putCells, h3], ?_⟩⟩, ?_⟩
    · show (grow (putRow id (Sort.ahead w n) g 0 (flatK kcells 2 (sortK ss).toArray)) os).heap[g]? = _
      rw [hF]
      exact heap_sortK _ hg
    · have e1 : (sortK ss).length * 2 = ((sortK ss).flatMap kcells).length := (kcells_len _).symm
      rw [e1]
      exact take_putK cur _ (by rw [kcells_len, sortK_len]; omega)
    · exact grown_sortK _
end Go.Proofs.YtadopbpfnnpnaaaGreat

/-
  The keys that a party holds, rising.
-/
namespace Go.Proofs.YtadopbpfnnpnaaaGreat
open Go.RowKit Go.Maps Go.Shelf Go.Sort Go.Lib

theorem sortK_congr {ss ks : List Key} (h : ss.Perm ks) : sortK ss = sortK ks := by
  have tr : ∀ a b c : Key, (!(ltOf cmpK) b a) = true → (!(ltOf cmpK) c b) = true → (!(ltOf cmpK) c a) = true := fun a b c h1 h2 => by
    simp only [ltK, Bool.not_eq_true', decide_eq_false_iff_not] at *
    omega
  have tt : ∀ a b : Key, ((!(ltOf cmpK) b a) || (!(ltOf cmpK) a b)) = true := fun a b => by
    simp only [ltK, Bool.or_eq_true, Bool.not_eq_true', decide_eq_false_iff_not]
    omega
  refine List.Perm.eq_of_pairwise (le := fun a b => (!(ltOf cmpK) b a) = true) (fun a b _ _ h1 h2 => ?_) (List.pairwise_mergeSort tr tt ss) (List.pairwise_mergeSort tr tt ks) (((List.mergeSort_perm ss _).trans h).trans (List.mergeSort_perm ks _).symm)
  exact totK a b (by simpa using h2) (by simpa using h1)
theorem Kr.base {W : World} {b b' : Nat} {v : Value} {ks : List Key} (h : Kr W b v ks) (hb : b' ≤ b) : Kr W b' v ks := by
  refine ⟨h.1, ?_⟩
  rcases h.2 with hn | ⟨g, cap, cur, hv, hbg, rest⟩
  · exact .inl hn
  · exact .inr ⟨g, cap, cur, hv, Nat.le_trans hb hbg, rest⟩
set_option maxRecDepth 100000 in
set_option maxHeartbeats 1000000 in
theorem sortedFunc_in (n : Nat) (hn : 4 ≤ n) (g : Nat) (lb : Array Value) (eg : ∀ args w, (callFunc g args).run Tryz.prog w = .ok (.enter g args) w)
    (ks : List Key) (N : Nat) (hN : N ≤ 1000000000) (hk : ks.length ≤ 1000000000) (w : World) (hseq : SeqGives Fence.wide (n - 1 - 1 - 1) Tryz.prog g lb kv (fun ss => ss.Perm ks) N w) :
    CallsIn Fence.wide n Tryz.prog 67 #[.func (.func g) #[] lb, .func (.func 60) #[] #[]] w fun e w' => ∃ v : Value, e = .returned v ∧ Kr w' w.heap.size v (sortK ks) ∧ Gr w w' := by
  have h1 : 1 ≤ n := by omega
  refine callsIn_of_wp Tryz.func67 rfl trivial ?_ rfl
  simp only [Tryz.ntmps67, List.size_toArray, List.length_cons, List.length_nil, Nat.reduceAdd, Nat.reduceSub, Array.replicate_succ, Array.replicate_zero, List.push_toArray, List.append_toArray, List.nil_append, List.cons_append]
  have hf1 : Fence.wide.fn 85 := trivial
  have hf2 : Fence.wide.fn 59 := trivial
  gi_wp2_with (gi_at_call 85; refine (collect_in Fence.wide (n - 1) trivial trivial rfl (by omega) g lb trivial eg _ N hN _ hseq).mono ?_; rintro e W ⟨v, ss, rfl, hS, hrow, hnil, hb⟩)
  have hss : ss.length = ks.length := hS.length_eq
  have hsk := sortK_congr hS
  rcases hrow.2 with ⟨rfl, hz⟩ | ⟨gb, cap, cur, rfl, hbase, hgb, r1, r2, r3, r4⟩
  · have he : ss = [] := List.eq_nil_of_length_eq_zero hz
    have hks : sortK ks = [] := by rw [← hsk, he]; simp [sortK]
    have HK := Lib.hid (And.intro hks hb)
    have HC := Lib.hid (fun W => show CallsIn Fence.wide (n - 1) _ _ _ _ _ from callsIn_wide.2 (sortFunc_none none 0 (.func (.func 60) #[] #[]) W))
    clear hss hsk hks hrow hnil he hz hS hb hseq
    gi_wp2_with (gi_at_call 59; refine (HC.out _).mono ?_; rintro e w' ⟨rfl, rfl⟩)
    go_ret
    exact ⟨_, rfl, by rw [HK.out.1]; exact World.ownsRow_nil _ _ _ _, HK.out.2⟩
  · have HC := Lib.hid (show CallsIn Fence.wide (n - 1) _ _ _ _ _ from callsIn_wide.2 (sortFunc_any (w := W) (base := w.heap.size) (g := gb) (cap := cap) (ss := ss) hrow (by omega)))
    obtain ⟨L, hL⟩ : ∃ L, L = ss.length := ⟨_, rfl⟩
    rw [← hL] at HC
    rw [← hL]
    have HK := Lib.hid (And.intro hsk (And.intro hb hbase))
    clear hss hsk hrow hnil hS hb hseq r1 r2 r3 r4 hgb hbase hL
    gi_wp2_with (gi_at_call 59; refine HC.out.mono ?_; rintro e w' ⟨rfl, hr, hg⟩; have HR := Lib.hid (And.intro hr hg); clear hr hg)
    go_ret
    exact ⟨_, rfl, by rw [← HK.out.1]; exact HR.out.1, HK.out.2.1.grown HR.out.2 HK.out.2.1.size (fun j hj => by cases hj; exact HK.out.2.2)⟩
set_option maxRecDepth 100000 in
set_option maxHeartbeats 1000000 in
theorem sorted_any (w : World) {hp : Option Nat} {ks : List Key} (O1 O2 O3 : Int) (H : HsAt w hp ks) (hk : ks.length ≤ 1000000000) :
    Calls Tryz.prog 56 #[.agg #[.map hp, .int .i64 O1, .int .i64 O2, .int .i64 O3]] w fun e w' => ∃ v : Value, e = .returned v ∧ Kr w' w.heap.size v (sortK ks) ∧ Gr w w' := by
  have g1 : Gr w (w.alloc (.cells #[.map hp, .int .i64 O1, .int .i64 O2, .int .i64 O3] TPy)) := (Gr.refl w).alloc (Nat.le_refl _) _
  obtain ⟨W, hW⟩ : ∃ W, W = w.alloc (.cells #[.map hp, .int .i64 O1, .int .i64 O2, .int .i64 O3] TPy) := ⟨_, rfl⟩
  rw [← hW] at g1
  have hsz : W.heap.size = w.heap.size + 1 := by rw [hW]; simp
  have eg := enters_of Tryz.func86 (by kernel_rfl) rfl
  have g2 : Gr W (W.alloc (.cells #[.map hp] TMs)) := (Gr.refl W).alloc (Nat.le_refl _) _
  have hseq : ∃ N, N ≤ 1000000000 ∧ SeqGives Fence.wide (4 - 1 - 1 - 1) Tryz.prog 86 #[.pointer (some ⟨W.heap.size, 0, none⟩)] kv (fun ss => ss.Perm ks) N (W.alloc (.cells #[.map hp] TMs)) := by
    rcases H with ⟨rfl, rfl⟩ | ⟨m, rfl, hm⟩
    · exact ⟨0, by omega, keys_gives_nil Fence.wide _ trivial rfl W.heap.size _ (by simp) (by simp)⟩
    · exact ⟨ks.length, hk, keys_gives Fence.wide _ trivial rfl (by omega) W.heap.size m (unitF ks) ks _ (by simp) (by simp) ((hm.stays (g1.block m hm.lt)).stays (g2.block m (by have := hm.lt; omega)))⟩
  obtain ⟨N, hN, hseq⟩ := hseq
  rw [hsz] at hseq
  have hk0 := callsIn_wide.1 (keys_in Fence.wide 1 trivial rfl hp W)
  rw [hsz] at hk0
  have HC := Lib.hid (callsIn_wide.1 (sortedFunc_in 4 (Nat.le_refl _) _ _ eg ks N hN hk _ hseq))
  have HK := Lib.hid hk0
  have HG := Lib.hid (And.intro g1 (And.intro g2 hsz))
  rw [hW] at HC HK
  clear hseq eg g1 g2 H hsz hk hN hk0
  have HW := Lib.hid hW
  clear hW
  go_enter Tryz.func56, Tryz.ntmps56
  go_wp2_with fail
  refine HK.out.mono ?_
  rintro e w1 ⟨rfl, rfl⟩
  go_wp2_with fail
  refine HC.out.mono ?_
  rintro e w2 ⟨v, rfl, hr, g3⟩
  have HR := Lib.hid (And.intro hr g3)
  clear hr g3
  go_wp2_with fail
  go_ret
  have hG := HG.out
  rw [HW.out] at hG
  exact ⟨v, rfl, HR.out.1.base (by simp; omega), Gr.trans hG.1 (Gr.trans hG.2.1 HR.out.2)⟩
end Go.Proofs.YtadopbpfnnpnaaaGreat

/-
  slices.Compact at keys that differ.
-/
namespace Go.Proofs.YtadopbpfnnpnaaaGreat
open Go.RowKit Go.Maps Go.Shelf Go.Sort Go.Lib

theorem eqi_key (a b : Key) (w : World) : (Op.equalIn 10000 TKey (kv a) (kv b)).run Tryz.prog w = .ok (decide (a = b)) w := by
  have u3 := Tryz.underlying3
  have a3 := Tryz.isAgg3
  have z3 := Tryz.sizeOf3
  have hS : Tryz.prog.underlying TKey = some (.struct (Tryz.prog.fieldsOf TKey)) := by kernel_rfl
  have hp : Tryz.prog.stoodInHeld TKey = false := by kernel_rfl
  unfold kv
  rw [show (10000 : Nat) = 9999 + 1 from rfl, run_equalIn_agg w 9999 TKey _ _ hS hp]
  simp only [Program.fieldsOf, Tryz.underlying33]
  obtain ⟨a1, a2⟩ := a
  obtain ⟨b1, b2⟩ := b
  have e : decide (((a1, a2) : Key) = (b1, b2)) = (a1 == b1 && a2 == b2) := by
    by_cases h1 : a1 = b1
    · by_cases h2 : a2 = b2
      · subst h1 h2; simp
      · subst h1; simp [h2]
    · simp [h1]
  rw [e]
  go_simp
  by_cases h1 : a1 = b1
  · by_cases h2 : a2 = b2
    · simp [h1, h2]
    · simp [h1, h2]
  · simp [h1]
/-- Two that stand beside one another differ. -/
def Beside (ks : List Key) : Prop := ∀ j, j + 1 < ks.length → ks.getD j (0, 0) ≠ ks.getD (j + 1) (0, 0)
theorem Kr.at {w : World} {base g cap : Nat} {ks : List Key} (h : Kr w base (.slice (some ⟨g, 0, none⟩) ks.length cap) ks) (j : Nat) (hj : j < ks.length) :
    w.cell? ⟨g, j * 2, none⟩ = some (.int .i64 (ks.getD j (0, 0)).1) ∧ w.cell? ⟨g, j * 2 + 1, none⟩ = some (.int .i64 (ks.getD j (0, 0)).2) := by
  have h0 := World.ownsRow.cellAt h (j * 2) (by omega)
  have h1 := World.ownsRow.cellAt h (j * 2 + 1) (by omega)
  have f0 := flat_get ks (j * 2) (by omega)
  have f1 := flat_get ks (j * 2 + 1) (by omega)
  rw [show j * 2 / 2 = j by omega, show j * 2 % 2 = 0 by omega] at f0
  rw [show (j * 2 + 1) / 2 = j by omega, show (j * 2 + 1) % 2 = 1 by omega] at f1
  rw [h0, h1, f0, f1]
  exact ⟨rfl, rfl⟩
set_option maxRecDepth 100000 in
set_option maxHeartbeats 2000000 in
theorem compact_any {w : World} {base : Nat} {v : Value} {ks : List Key} (h : Kr w base v ks) (hb : Beside ks) (hn : ks.length ≤ 1000000000) :
    Calls Tryz.prog 61 #[v] w fun e w' => e = .returned v ∧ Gr w w' := by
  rcases h.2 with ⟨rfl, h0⟩ | ⟨g, cap, cur, rfl, _, _, hc, hm, _⟩
  · clear h hb
    go_enter Tryz.func61, Tryz.ntmps61
    go_wp2
    go_ret
    exact ⟨rfl, Gr.refl _⟩
  · have HKr := Lib.hid h
    have HBs := Lib.hid hb
    obtain ⟨n, hn'⟩ : ∃ n, n = ks.length := ⟨_, rfl⟩
    rw [← hn'] at hn hc
    rw [show (Value.slice (some ⟨g, 0, none⟩) ks.length cap) = .slice (some ⟨g, 0, none⟩) n cap by rw [hn']]
    have HN := Lib.hid hn'
    clear h hb hn'
    by_cases h2 : n < 2
    · have e : decide ((n : Int) < 2) = true := decide_eq_true (by omega)
      clear h2
      go_enter Tryz.func61, Tryz.ntmps61
      go_wp2
      go_ret
      exact ⟨rfl, Gr.refl _⟩
    · have e : decide ((n : Int) < 2) = false := decide_eq_false (by omega)
      go_enter Tryz.func61, Tryz.ntmps61
      go_wp2
      go_loopw [3] (fun i wr => ∃ j : Nat, i = .int .i64 ((j : Int) + 1) ∧ j + 1 ≤ n ∧ Hid (Gr w wr)) (fun i _ => n - (intOf i).toNat)
      case atStart => exact ⟨0, rfl, by omega, Lib.hid (Gr.refl _)⟩
      case round =>
        obtain ⟨j, rfl, hj2, HG⟩ := hrel
        by_cases hlt : j + 1 < n
        · have hlt' : j + 1 < ks.length := by rw [← HN.out]; exact hlt
          have hrow := World.ownsRow.kept HKr.out (w' := wr) (row := none) ⟨HG.out.os, HG.out.tape, HG.out.output, HG.out.size, fun k hk _ => HG.out.block k hk⟩ (.inr (by simp [Value.ownBlock]))
          obtain ⟨c0, c1⟩ := Kr.at (ks := ks) hrow (j + 1) hlt'
          obtain ⟨d0, d1⟩ := Kr.at (ks := ks) hrow j (by omega)
          obtain ⟨X, hX⟩ : ∃ X, X = ks.getD (j + 1) (0, 0) := ⟨_, rfl⟩
          obtain ⟨Y, hY⟩ : ∃ Y, Y = ks.getD j (0, 0) := ⟨_, rfl⟩
          rw [← hX] at c0 c1
          rw [← hY] at d0 d1
          have hne : X ≠ Y := by
            have := HBs.out j (by omega)
            rw [← hX, ← hY] at this
            exact fun e => this e.symm
          have hq : ∀ W, (Op.equalIn 10000 TKey (.agg #[.int .i64 X.1, .int .i64 X.2]) (.agg #[.int .i64 Y.1, .int .i64 Y.2])).run Tryz.prog W = .ok false W := fun W => by
            have := eqi_key X Y W
            rw [decide_eq_false hne] at this
            exact this
          have e3 : decide ((j : Int) + 1 < (n : Int)) = true := decide_eq_true (by omega)
          have hw : IntKind.i64.wrap ((j : Int) + 1 - 1) = (j : Int) := by rw [Int.add_sub_cancel]; exact IntWalk.i64_in _ (by omega)
          have hw2 : ((j : Int) + 1).toNat = j + 1 := by omega
          have hp : (0 : Int) ≤ (j : Int) + 1 := by omega
          clear hrow hX hY hne hlt'
          go_wp2_with fail
          go_quiet (fail)
          go_wp2_with fail
          go_roundw
          case rel => exact ⟨j + 1, by simp, by omega, Lib.hid (grD HG.out)⟩
          case measure => simp [intOf]; omega
        · have e3 : decide ((j : Int) + 1 < (n : Int)) = false := decide_eq_false (by omega)
          clear hlt
          go_wp2_with fail
          go_ret
          exact ⟨rfl, HG.out⟩
end Go.Proofs.YtadopbpfnnpnaaaGreat

