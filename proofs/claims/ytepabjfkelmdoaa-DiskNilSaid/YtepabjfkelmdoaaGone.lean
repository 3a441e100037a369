/-
  A disk that is not there, or a zero one: what it answers.
-/
import Derived.Test.YtepabjfkelmdoaaClone
import Derived.Test.YtepabjfkelmdoaaDisk5
namespace Go.Proofs.Ytepabjfkelmdoaa
open Go.RowKit Go.Maps

set_option maxRecDepth 100000 in
theorem Fuse_gone (p : Value) (w : World) (h : Gone w p) (n : Int) : Calls Try.prog 27 #[p, .int .i64 n] w fun e w' => e = .returned (.tuple #[]) ∧ w = w' := by
  obtain ⟨a, rfl⟩ := h.shape
  have HM := Lib.hid (missing_yes a w h)
  clear h
  go_enter Try.func27, Try.ntmps27
  go_wp2_with fail
  refine HM.out.mono ?_
  rintro e w' ⟨rfl, rfl⟩
  go_wp2
  exact bodyPost_ret (results_none rfl _ _ _) rfl ⟨rfl, rfl⟩
set_option maxRecDepth 100000 in
set_option maxHeartbeats 1000000 in
theorem Write_gone (p : Value) (w : World) (h : Gone w p) (i : Int) (x : Sec) : Calls Try.prog 28 #[p, .int .i64 i, .agg (sec x)] w fun e w' => e = .returned (.int .i64 1) ∧ Gr w w' := by
  have hg : Gr w (w.alloc (.cells (sec x) TS)) := (Gr.refl w).alloc (Nat.le_refl _) _
  obtain ⟨a, rfl⟩ := h.shape
  have HA := Lib.hid (asked_gone a _ (h.gr hg) i)
  have HG := Lib.hid hg
  clear h hg
  go_enter Try.func28, Try.ntmps28
  go_wp2_with fail
  refine HA.out.mono ?_
  rintro e w1 ⟨rfl, rfl⟩
  go_wp2
  go_ret
  exact ⟨rfl, HG.out⟩
set_option maxRecDepth 100000 in
theorem Barrier_gone (p : Value) (w : World) (h : Gone w p) : Calls Try.prog 16 #[p] w fun e w' => e = .returned (.int .i64 1) ∧ w = w' := by
  obtain ⟨a, rfl⟩ := h.shape
  have HM := Lib.hid (missing_yes a w h)
  clear h
  go_enter Try.func16, Try.ntmps16
  go_wp2_with fail
  refine HM.out.mono ?_
  rintro e w' ⟨rfl, rfl⟩
  go_wp2
  go_ret
  exact ⟨rfl, rfl⟩
set_option maxRecDepth 100000 in
theorem Sectors_gone (p : Value) (w : World) (h : Gone w p) : Calls Try.prog 29 #[p] w fun e w' => e = .returned (.int .i64 0) ∧ w = w' := by
  obtain ⟨a, rfl⟩ := h.shape
  have HM := Lib.hid (missing_yes a w h)
  clear h
  go_enter Try.func29, Try.ntmps29
  go_wp2_with fail
  refine HM.out.mono ?_
  rintro e w' ⟨rfl, rfl⟩
  go_wp2
  go_ret
  exact ⟨rfl, rfl⟩
set_option maxRecDepth 100000 in
theorem Dead_gone (p : Value) (w : World) (h : Gone w p) : Calls Try.prog 17 #[p] w fun e w' => e = .returned (.bool false) ∧ w = w' := by
  obtain ⟨a, rfl⟩ := h.shape
  have HM := Lib.hid (missing_yes a w h)
  clear h
  go_enter Try.func17, Try.ntmps17
  go_wp2_with fail
  refine HM.out.mono ?_
  rintro e w' ⟨rfl, rfl⟩
  go_wp2
  go_ret
  exact ⟨rfl, rfl⟩
set_option maxRecDepth 100000 in
theorem Writes_gone (p : Value) (w : World) (h : Gone w p) : Calls Try.prog 19 #[p] w fun e w' => e = .returned (.int .i64 0) ∧ w = w' := by
  obtain ⟨a, rfl⟩ := h.shape
  have HM := Lib.hid (missing_yes a w h)
  clear h
  go_enter Try.func19, Try.ntmps19
  go_wp2_with fail
  refine HM.out.mono ?_
  rintro e w' ⟨rfl, rfl⟩
  go_wp2
  go_ret
  exact ⟨rfl, rfl⟩
set_option maxRecDepth 100000 in
theorem Loose_gone (p : Value) (w : World) (h : Gone w p) : Calls Try.prog 18 #[p] w fun e w' => e = .returned (.slice none 0 0) ∧ w = w' := by
  obtain ⟨a, rfl⟩ := h.shape
  have HM := Lib.hid (missing_yes a w h)
  clear h
  go_enter Try.func18, Try.ntmps18
  go_wp2_with fail
  refine HM.out.mono ?_
  rintro e w' ⟨rfl, rfl⟩
  go_wp2
  go_ret
  exact ⟨rfl, rfl⟩
set_option maxRecDepth 100000 in
theorem Crash_gone (p : Value) (w : World) (h : Gone w p) (v : Value) : Calls Try.prog 15 #[p, v] w fun e w' => e = .returned (.pointer none) ∧ w = w' := by
  obtain ⟨a, rfl⟩ := h.shape
  have HM := Lib.hid (missing_yes a w h)
  clear h
  go_enter Try.func15, Try.ntmps15
  go_wp2_with fail
  refine HM.out.mono ?_
  rintro e w' ⟨rfl, rfl⟩
  go_wp2
  go_ret
  exact ⟨rfl, rfl⟩
set_option maxRecDepth 100000 in
theorem Copy_gone (p : Value) (w : World) (h : Gone w p) : Calls Try.prog 22 #[p] w fun e w' => e = .returned (.pointer none) ∧ Gr w w' := by
  obtain ⟨a, rfl⟩ := h.shape
  have HM := Lib.hid (missing_yes a w h)
  clear h
  go_enter Try.func22, Try.ntmps22
  go_wp2_with fail
  refine HM.out.mono ?_
  rintro e w' ⟨rfl, rfl⟩
  go_wp2
  go_ret
  exact ⟨rfl, Gr.refl _⟩
theorem results_cell_one {fn : Func} {p : Tmp} {ty : TypeId} (h : fn.results = #[.cell p ty]) (ha : ∀ w, (isAgg ty).run Try.prog w = .ok false w) (tmps : Array Value) (w : World) (a : Addr) (v : Value) (hp : tmps.getD p undef = .pointer (some a)) (hc : w.cell? a = some v) : (results fn tmps).run Try.prog w = .ok v w := by
  simp only [results, h]
  simp [-Array.getD_eq_getD_getElem?, Sem.run_bind, Result.andThen, hp, asAddr, loadVar, ha, hc]
set_option maxRecDepth 100000 in
theorem Same_gone (p q : Value) (w : World) (h : Gone w p) (h2 : Gone w q) : Calls Try.prog 26 #[p, q] w fun e w' => e = .returned (.bool true) ∧ Gr w w' := by
  obtain ⟨a, rfl⟩ := h.shape
  obtain ⟨b, rfl⟩ := h2.shape
  have HG : Hid (Gr w ((w.alloc (.cells #[.pointer (b)] 24)).alloc (.cells #[.bool false] 4))) := Lib.hid (((Gr.refl w).alloc (Nat.le_refl _) _).alloc (by simp) _)
  have HM := Lib.hid (missing_yes a _ (h.gr HG.out))
  have HM2 := Lib.hid (missing_yes b _ (h2.gr HG.out))
  clear h h2
  go_enter Try.func26, Try.ntmps26
  go_wp2_with fail
  refine HM.out.mono ?_
  rintro e w' ⟨rfl, rfl⟩
  go_wp2_with fail
  refine HM.out.mono ?_
  rintro e w' ⟨rfl, rfl⟩
  go_wp2_with fail
  refine HM2.out.mono ?_
  rintro e w' ⟨rfl, rfl⟩
  go_wp2
  have HB := Lib.hid (Blk.new (w.alloc (.cells #[.pointer b] 24)) 4 #[.bool true])
  have hs : (w.alloc (.cells #[.pointer b] 24)).heap.size = w.heap.size + 1 := by simp
  rw [hs] at HB
  exact bodyPost_ret (results_cell_one rfl Try.isAgg4 _ _ ⟨w.heap.size + 1, 0, none⟩ (.bool true) rfl (HB.out.cell 0)) rfl ⟨rfl, ((Gr.refl w).alloc (Nat.le_refl _) _).alloc (by simp) _⟩

set_option maxRecDepth 100000 in
theorem All_gone (p : Value) (w : World) (h : Gone w p) : Calls Try.prog 23 #[p] w fun e w' => ∃ k, e = .returned (.func (.func 41) #[] #[.pointer (some ⟨k, 0, none⟩)]) ∧ Gr w w' ∧ w.heap.size ≤ k ∧ Blk w' k 24 #[.pointer none] := by
  obtain ⟨a, rfl⟩ := h.shape
  have HC := Lib.hid (Copy_gone _ w h)
  clear h
  go_enter Try.func23, Try.ntmps23
  go_wp2_with fail
  refine HC.out.mono ?_
  rintro e w' ⟨rfl, hg⟩
  have HG := Lib.hid hg
  clear hg HC
  go_wp2
  go_ret
  exact ⟨w'.heap.size, rfl, HG.out.alloc HG.out.size _, HG.out.size, Blk.new _ _ _⟩

end Go.Proofs.Ytepabjfkelmdoaa
