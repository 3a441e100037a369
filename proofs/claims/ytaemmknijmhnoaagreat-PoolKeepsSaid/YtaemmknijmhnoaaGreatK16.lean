/-
  Texts, put together: Pool6 Pool7 Pool8 Pool9.
-/
import Derived.Test.YtaemmknijmhnoaaGreatK15
set_option linter.unusedVariables false
set_option linter.unusedSimpArgs false
/-
  The code's pool: the pages that are not clean, out of a row of pages.
-/
namespace Go.Proofs.YtaemmknijmhnoaaGreat
open Go.RowKit Go.Maps

/-- The function value p.clean. -/
abbrev fnClean (b : Nat) : Value := .func (.func 53) #[.pointer (some ⟨b, 0, none⟩)] #[]
theorem Ints.cellAt {w : World} {base g c : Nat} {xs : List Nat} (h : Ints w base (.slice (some ⟨g, 0, none⟩) xs.length c) xs) (j : Nat) (hj : j < xs.length) : w.cell? ⟨g, j, none⟩ = some (.int .i64 ((xs.getD j 0 : Nat) : Int)) := by
  have h1 := World.ownsRow.cellAt h j (by omega)
  rw [h1, List.getElem?_map]
  simp [List.getD, hj]
theorem Ints.gr {w w' : World} {base : Nat} {v : Value} {xs : List Nat} (h : Ints w base v xs) (g : Gr w w') : Ints w' base v xs :=
  World.ownsRow.kept h (row := none) ⟨g.os, g.tape, g.output, g.size, fun j hj _ => g.block j hj⟩ (by cases hv : v.ownBlock <;> simp)
theorem Ints.most {w : World} {base g c : Nat} {xs : List Nat} (h : Ints w base (.slice (some ⟨g, 0, none⟩) xs.length c) xs) : xs.length ≤ c ∧ c ≤ maxLen ∧ g < w.heap.size := by
  have hl := World.ownsRow.lt h g rfl
  rcases h.2 with ⟨h', _⟩ | ⟨g', cap', cur, h', _, hg, h1, h2, _⟩
  · simp at h'
  · simp only [Value.slice.injEq, Option.some.injEq, Addr.mk.injEq, and_true, true_and] at h'
    obtain ⟨rfl, rfl⟩ := h'
    exact ⟨h1, h2, hl.2⟩
section
variable {w w' : World} {b m n : Nat} {pd pl : Value} {B : Nat → Option Nat} {P : Pl}
set_option maxRecDepth 100000 in
set_option maxHeartbeats 1000000 in
theorem pindex_any {base g c : Nat} {xs : List Nat} (h : PlAt w b pd pl m n B P) (hr : Ints w base (.slice (some ⟨g, 0, none⟩) xs.length c) xs) (hx : ∀ j, j < xs.length → xs.getD j 0 < 65536) :
    Calls Tryz.prog 79 #[.slice (some ⟨g, 0, none⟩) xs.length c, fnClean b] w fun e w' => Gr w w' ∧
      ((e = .returned (.int .i64 (-1)) ∧ ∀ j, j < xs.length → P.clean (xs.getD j 0) = false) ∨ ∃ k : Nat, e = .returned (.int .i64 (k : Int)) ∧ k < xs.length ∧ P.clean (xs.getD k 0) = true ∧ ∀ j, j < k → P.clean (xs.getD j 0) = false) := by
  have eg : ∀ args w, (callFunc 53 args).run Tryz.prog w = .ok (.enter 53 args) w := enters_of Tryz.func53 (by kernel_rfl) rfl
  have HP := Lib.hid h
  have HR := Lib.hid hr
  have HX := Lib.hid hx
  obtain ⟨N, hN⟩ : ∃ N, N = xs.length := ⟨_, rfl⟩
  have HN : Hid (N = xs.length ∧ N ≤ 9223372036854775807) := Lib.hid ⟨hN, by have := hr.most; unfold maxLen at this; omega⟩
  rw [← hN]
  have h0 : (0 : Int) ≤ (N : Int) := by omega
  clear h hr hx hN
  go_enter Tryz.func79, Tryz.ntmps79
  go_wp2
  go_loopw [8] (fun kv wr => ∃ k : Nat, k ≤ N ∧ kv = .int .i64 (k : Int) ∧ Hid (Gr w wr ∧ ∀ j, j < k → P.clean (xs.getD j 0) = false)) (fun kv _ => N - (intOf kv).toNat)
  case atStart => exact ⟨0, Nat.zero_le _, rfl, Lib.hid ⟨Gr.refl _, fun j hj => by omega⟩⟩
  case round =>
    obtain ⟨k, hk, rfl, HG⟩ := hrel
    by_cases hlt : k < N
    · have g3 : (k : Int) < (N : Int) := by omega
      have hk2 : k < xs.length := by have := HN.out.1; omega
      have ck := (HR.out.gr HG.out.1).cellAt k hk2
      have hcall := pclean_any (HP.out.gr HG.out.1) (xs.getD k 0) (HX.out k hk2)
      obtain ⟨x, hxx⟩ : ∃ x, x = xs.getD k 0 := ⟨_, rfl⟩
      have HXX := Lib.hid hxx
      rw [← hxx] at ck hcall
      obtain ⟨y, hy⟩ : ∃ y, y = P.clean x := ⟨_, rfl⟩
      have HY := Lib.hid hy
      rw [← hy] at hcall
      have HC := Lib.hid hcall
      have hw : IntKind.i64.wrap ((k : Int) + 1) = ((k + 1 : Nat) : Int) := by rw [IntWalk.i64_in _ (by have := HN.out.2; omega)]; omega
      clear hcall hxx hy hk2
      cases y with
      | true =>
        go_wp2_with (go_at_fn 53; refine HC.out.mono ?_; rintro e w' ⟨rfl, rfl⟩)
        go_ret
        exact ⟨HG.out.1, .inr ⟨k, rfl, hlt, by rw [← HXX.out]; exact HY.out.symm, HG.out.2⟩⟩
      | false =>
        go_wp2_with (go_at_fn 53; refine HC.out.mono ?_; rintro e w' ⟨rfl, rfl⟩)
        refine ⟨⟨k + 1, by omega, by go_num, Lib.hid ⟨HG.out.1, fun j hj => ?_⟩⟩, by simp [intOf]; omega⟩
        rcases Nat.lt_succ_iff_lt_or_eq.1 hj with h | rfl
        · exact HG.out.2 j h
        · rw [← HXX.out]
          exact HY.out.symm
    · obtain rfl : k = N := by omega
      go_wp2
      go_ret
      exact ⟨HG.out.1, .inl ⟨rfl, by have := HN.out.1; exact fun j hj => HG.out.2 j (by omega)⟩⟩
/-- So far the row holds, ahead of i, those of the first j that stay; behind j, what it held. -/
structure Kept (q : Nat → Bool) (xs zs : List Nat) (i j : Nat) : Prop where
  len : zs.length = xs.length
  lt : i < j
  head : zs.take i = (xs.take j).filter q
  tail : ∀ k, j ≤ k → zs.getD k 0 = xs.getD k 0
theorem take_succ_getD {xs : List Nat} {j : Nat} (h : j < xs.length) : xs.take (j + 1) = xs.take j ++ [xs.getD j 0] := by
  rw [List.take_succ_eq_append_getElem h]
  simp [List.getD, h]
theorem Kept.step {q : Nat → Bool} {xs zs : List Nat} {i j : Nat} (h : Kept q xs zs i j) (hj : j < xs.length) (hq : q (xs.getD j 0) = true) : Kept q xs (zs.set i (xs.getD j 0)) (i + 1) (j + 1) := by
  refine ⟨by rw [List.length_set]; exact h.len, by have := h.lt; omega, ?_, fun k hk => ?_⟩
  · have hi : i < (zs.set i (xs.getD j 0)).length := by rw [List.length_set, h.len]; have := h.lt; omega
    rw [take_succ_getD hi, take_succ_getD hj, List.filter_append, ← h.head, List.take_set_of_le (Nat.le_refl _)]
    congr 1
    have hi2 : i < zs.length := by rw [h.len]; have := h.lt; omega
    simp [List.getD, hi2, List.filter_cons] at hq ⊢
    simp [hq]
  · have : i ≠ k := by have := h.lt; omega
    rw [← h.tail k (by omega)]
    simp only [List.getD_eq_getElem?_getD, List.getElem?_set_ne this]
theorem Kept.skip {q : Nat → Bool} {xs zs : List Nat} {i j : Nat} (h : Kept q xs zs i j) (hj : j < xs.length) (hq : q (xs.getD j 0) = false) : Kept q xs zs i (j + 1) := by
  refine ⟨h.len, by have := h.lt; omega, ?_, fun k hk => h.tail k (by omega)⟩
  rw [take_succ_getD hj, List.filter_append, ← h.head]
  simp [List.filter_cons, hq] at hq ⊢
  exact hq
theorem Kept.start {q : Nat → Bool} {xs : List Nat} {k : Nat} (hk : k < xs.length) (h : ∀ j, j < k → q (xs.getD j 0) = true) (h2 : q (xs.getD k 0) = false) : Kept q xs xs k (k + 1) := by
  refine ⟨rfl, by omega, ?_, fun _ _ => rfl⟩
  rw [take_succ_getD hk, List.filter_append]
  have e : (xs.take k).filter q = xs.take k := List.filter_eq_self.2 fun a ha => by
    obtain ⟨j, hj, rfl⟩ := List.getElem_of_mem ha
    rw [List.length_take] at hj
    have := h j (by omega)
    rw [List.getElem_take]
    simpa [List.getD, show j < xs.length by omega] using this
  rw [e]
  simp [List.filter_cons, h2] at h2 ⊢
  exact h2
theorem filter_all {q : Nat → Bool} {xs : List Nat} (h : ∀ j, j < xs.length → q (xs.getD j 0) = true) : xs.filter q = xs := List.filter_eq_self.2 fun a ha => by
  obtain ⟨j, hj, rfl⟩ := List.getElem_of_mem ha
  have := h j hj
  simpa [List.getD, hj] using this
theorem PlAt.by {w w' : World} {g : Nat} (h : PlAt w b pd pl m n B P) (hb : w.grownBy w' (some g)) (hg : ¬ plS b m B g) : PlAt w' b pd pl m n B P :=
  h.stays fun k hk => hb.block k (h.low k hk) fun e => hg (by cases e; exact hk)
/-- The row's end is cleared: what stands ahead of it stays. -/
theorem Ints.cleared {w : World} {base g c : Nat} {zs : List Nat} (h : Ints w base (.slice (some ⟨g, 0, none⟩) zs.length c) zs) (i : Nat) (hi : i ≤ zs.length) :
    Ints (w.setCells g i (List.replicate (zs.length - i) (.int .i64 0))) base (.slice (some ⟨g, 0, none⟩) i c) (zs.take i) ∧ w.grownBy (w.setCells g i (List.replicate (zs.length - i) (.int .i64 0))) (some g) := by
  rcases h.2 with ⟨h', _⟩ | ⟨g', cap', cur, h', hb, hg, h1, h2, h3, h4⟩
  · simp at h'
  · simp only [Value.slice.injEq, Option.some.injEq, Addr.mk.injEq, and_true, true_and] at h'
    obtain ⟨rfl, rfl⟩ := h'
    have hs := Pheap_setCells_same g TI (List.replicate (zs.length - i) (.int .i64 0)) i w cur hg (by rw [List.length_replicate]; omega)
    obtain ⟨o1, o2, o3, o4⟩ := PsetCells_os g (List.replicate (zs.length - i) (.int .i64 0)) i w
    have hl : (zs.take i).length = i := by rw [List.length_take]; omega
    refine ⟨⟨by rw [List.length_map]; omega, .inr ⟨g, c, _, by rw [hl], hb, hs, by omega, h2, ?_, ?_⟩⟩, ⟨o1, o2, o3, Nat.le_of_eq o4.symm, fun k _ hk => Pheap_setCells_other g _ i w k fun e => hk (by rw [e])⟩⟩
    · simp; omega
    · rw [hl, Nat.mul_one, List.append_assoc, List.take_left' (by simp; omega), List.map_take, ← h4, List.take_take]
      congr 1
      omega
theorem Ints.stored {w : World} {base g c : Nat} {zs : List Nat} (h : Ints w base (.slice (some ⟨g, 0, none⟩) zs.length c) zs) (i x : Nat) :
    Ints (w.setCell ⟨g, i, none⟩ (.int .i64 (x : Int))) base (.slice (some ⟨g, 0, none⟩) (zs.set i x).length c) (zs.set i x) ∧ w.grownBy (w.setCell ⟨g, i, none⟩ (.int .i64 (x : Int))) (some g) := by
  obtain ⟨h1, h2⟩ := World.ownsRow.stored h i (.int .i64 (x : Int))
  refine ⟨?_, h2⟩
  unfold Ints
  rw [List.length_set, List.map_set]
  exact h1
set_option maxRecDepth 100000 in
set_option maxHeartbeats 2000000 in
theorem pdelete_any {base g c : Nat} {xs : List Nat} (h : PlAt w b pd pl m n B P) (hr : Ints w base (.slice (some ⟨g, 0, none⟩) xs.length c) xs) (hx : ∀ j, j < xs.length → xs.getD j 0 < 65536) (hg : ¬ plS b m B g) :
    Calls Tryz.prog 51 #[.slice (some ⟨g, 0, none⟩) xs.length c, fnClean b] w fun e w' => e = .returned (.slice (some ⟨g, 0, none⟩) (xs.filter fun i => !P.clean i).length c) ∧
      Ints w' base (.slice (some ⟨g, 0, none⟩) (xs.filter fun i => !P.clean i).length c) (xs.filter fun i => !P.clean i) ∧ w.grownBy w' (some g) := by
  have eg : ∀ args w, (callFunc 53 args).run Tryz.prog w = .ok (.enter 53 args) w := enters_of Tryz.func53 (by kernel_rfl) rfl
  have HP := Lib.hid h
  have HR := Lib.hid hr
  have HX := Lib.hid hx
  have HGP := Lib.hid hg
  have hcc := hr.most
  obtain ⟨N, hN⟩ : ∃ N, N = xs.length := ⟨_, rfl⟩
  have HN : Hid (N = xs.length ∧ N ≤ 9223372036854775807 ∧ N ≤ c) := Lib.hid ⟨hN, by have := hr.most; unfold maxLen at this; omega, by omega⟩
  have HI := Lib.hid (pindex_any h hr hx)
  rw [← hN] at HI ⊢
  have h0 : (0 : Int) ≤ (N : Int) := by omega
  obtain ⟨ys, hys⟩ : ∃ ys, ys = xs.filter fun i => !P.clean i := ⟨_, rfl⟩
  have HYS := Lib.hid hys
  rw [← hys]
  clear h hr hx hN hg hys hcc
  go_enter Tryz.func51, Tryz.ntmps51
  go_wp2_with fail
  refine HI.out.mono ?_
  rintro e w1 ⟨g1, ⟨rfl, hall⟩ | ⟨k, rfl, hk, ht, hall⟩⟩
  · have e0 : ys = xs := by rw [HYS.out]; exact filter_all fun j hj => by rw [hall j (by have := HN.out.1; omega)]; rfl
    have e1 : ys.length = N := by rw [e0]; exact HN.out.1.symm
    have HG := Lib.hid g1
    have HA := Lib.hid hall
    clear g1 hall
    go_wp2_with fail
    go_ret
    refine ⟨by rw [e1]; rfl, ?_, ⟨HG.out.os, HG.out.tape, HG.out.output, HG.out.size, fun j hj _ => HG.out.block j hj⟩⟩
    rw [e0]
    exact HR.out.gr HG.out
  · have HG := Lib.hid g1
    have HA : Hid (Kept (fun i => !P.clean i) xs xs k (k + 1)) := Lib.hid (Kept.start (by have := HN.out.1; omega) (fun j hj => by rw [hall j hj]; rfl) (by rw [ht]; rfl))
    have hw : IntKind.i64.wrap ((k : Int) + 1) = ((k + 1 : Nat) : Int) := by rw [IntWalk.i64_in _ (by have := HN.out.2; omega)]; omega
    have hne : ((k : Int) == -1) = false := beq_eq_false_iff_ne.2 (by omega)
    clear g1 hall ht
    go_wp2_with fail
    go_loopw [5, 6, 7] (fun s5 s6 _ wr => ∃ (i j : Nat) (zs : List Nat), s5 = .int .i64 (i : Int) ∧ s6 = .int .i64 (j : Int) ∧ j ≤ N ∧ Hid (Kept (fun i => !P.clean i) xs zs i j ∧ Ints wr base (.slice (some ⟨g, 0, none⟩) zs.length c) zs ∧ w.grownBy wr (some g))) (fun _ s6 _ _ => N - (intOf s6).toNat)
    case atStart => exact ⟨k, k + 1, xs, rfl, by go_num, by omega, Lib.hid ⟨HA.out, HR.out.gr HG.out, ⟨HG.out.os, HG.out.tape, HG.out.output, HG.out.size, fun j hj _ => HG.out.block j hj⟩⟩⟩
    case round =>
      clear HA hne hw hk HG HI
      obtain ⟨i, j, zs, rfl, rfl, hjn, HK⟩ := hrel
      have hij := HK.out.1.lt
      have hln : zs.length = N := HK.out.1.len.trans HN.out.1.symm
      by_cases hlt : j < N
      · have g3 : (j : Int) < (N : Int) := by omega
        have hjx : j < xs.length := by have := HN.out.1; omega
        have cj := HK.out.2.1.cellAt j (by omega)
        rw [HK.out.1.tail j (Nat.le_refl _)] at cj
        have ci := HK.out.2.1.cellAt i (by omega)
        have fi := World.ownsRow.frozenAt HK.out.2.1 i
        have hi3 : (i : Int) < (N : Int) := by omega
        have hcall := pclean_any (HP.out.by HK.out.2.2 HGP.out) (xs.getD j 0) (HX.out j hjx)
        obtain ⟨x, hxx⟩ : ∃ x, x = xs.getD j 0 := ⟨_, rfl⟩
        have HXX := Lib.hid hxx
        rw [← hxx] at cj hcall
        obtain ⟨o, ho⟩ : ∃ o, o = zs.getD i 0 := ⟨_, rfl⟩
        rw [← ho] at ci
        obtain ⟨y, hy⟩ : ∃ y, y = P.clean x := ⟨_, rfl⟩
        have HY := Lib.hid hy
        rw [← hy] at hcall
        have HC := Lib.hid hcall
        have hwi : IntKind.i64.wrap ((i : Int) + 1) = ((i + 1 : Nat) : Int) := by rw [IntWalk.i64_in _ (by have := HN.out.2; omega)]; omega
        have hwj : IntKind.i64.wrap ((j : Int) + 1) = ((j + 1 : Nat) : Int) := by rw [IntWalk.i64_in _ (by have := HN.out.2; omega)]; omega
        clear hcall hxx hy ho
        cases y with
        | true =>
          go_wp2_with (go_at_fn 53; refine HC.out.mono ?_; rintro e w' ⟨rfl, rfl⟩)
          refine ⟨⟨i, j + 1, zs, rfl, by go_num, by omega, Lib.hid ⟨HK.out.1.skip hjx ?_, HK.out.2.1, HK.out.2.2⟩⟩, by simp [intOf]; omega⟩
          rw [← HXX.out, ← HY.out]
          rfl
        | false =>
          go_wp2_with (go_at_fn 53; refine HC.out.mono ?_; rintro e w' ⟨rfl, rfl⟩)
          have hst := HK.out.2.1.stored i x
          refine ⟨⟨i + 1, j + 1, zs.set i x, by go_num, by go_num, by omega, Lib.hid ⟨?_, hst.1, HK.out.2.2.trans hst.2⟩⟩, by simp [intOf]; omega⟩
          rw [HXX.out]
          refine HK.out.1.step hjx ?_
          rw [← HXX.out, ← HY.out]
          rfl
      · obtain rfl : j = N := by omega
        have hltz : ¬ (j : Int) < (j : Int) := by omega
        have hij2 : (i : Int) ≤ (j : Int) := by omega
        have hi0 : (0 : Int) ≤ (i : Int) := by omega
        have hic : (i : Int) ≤ (c : Int) := by have := HN.out.2.2; omega
        have hcl : ∀ ty, (Builtin.clear_ #[55] ty #[.slice (some ⟨g, i, none⟩) (j - i) (c - i)]).run Tryz.prog wr = .ok (.tuple #[]) (wr.setCells g i (List.replicate (j - i) (.int .i64 0))) :=
          fun ty => Lib.run_clear_slice wr 55 TI ty (.int .i64 0) Tryz.underlying55 (fun w => Tryz.zeroValue3 w) rfl rfl g i _ _ (by omega) (fun t ht => by rw [HK.out.2.1.cellAt (i + t) (by omega)]; rfl) (fun t ht => World.ownsRow.frozenAt HK.out.2.1 (i + t))
        have hcd := HK.out.2.1.cleared i (by omega)
        rw [hln] at hcd
        have hyy : ys = zs.take i := by rw [HYS.out, HK.out.1.head, List.take_of_length_le (by rw [← HN.out.1]; exact Nat.le_refl _)]
        have hyl : ys.length = i := by rw [hyy, List.length_take]; omega
        have HCD := Lib.hid hcd
        have HYY := Lib.hid hyy
        have hne2 : ¬ (c = i) := by have := HN.out.2.2; omega
        clear hcd hyy
        go_wp2_with fail
        go_ret
        refine ⟨by first | rfl | (rw [hyl]; rfl), ?_, HK.out.2.2.trans HCD.out.2⟩
        have h5 := HCD.out.1
        rw [← HYY.out] at h5
        first | exact h5 | (rw [hyl]; exact h5)
end
end Go.Proofs.YtaemmknijmhnoaaGreat

/-
  The code's pool: the dirty pages; how many frames.
-/
namespace Go.Proofs.YtaemmknijmhnoaaGreat
open Go.RowKit Go.Maps

def Pl.dirty (P : Pl) : List Nat := P.pages.filter fun i => !P.clean i
theorem Pl.pages_lt (P : Pl) (j : Nat) (hj : j < P.pages.length) : P.pages.getD j 0 < 65536 := by
  have h : P.pages.getD j 0 ∈ P.pages := by simp [List.getD, hj]
  exact ((P.mem_pages _).1 h).1
section
variable {w w' : World} {b m n : Nat} {pd pl : Value} {B : Nat → Option Nat} {P : Pl}
set_option maxRecDepth 100000 in
set_option maxHeartbeats 1000000 in
theorem pdelete_nil (v : Value) (w : World) : Calls Tryz.prog 51 #[.slice none 0 0, v] w fun e w' => e = .returned (.slice none 0 0) ∧ Gr w w' := by
  have HI : Hid (∀ w, Calls Tryz.prog 79 #[.slice none 0 0, v] w fun e w' => e = .returned (.int .i64 (-1)) ∧ Gr w w') := Lib.hid fun w => by
    go_enter Tryz.func79, Tryz.ntmps79
    go_wp2
    go_loopw [8] (fun kv wr => kv = .int .i64 0 ∧ Gr w wr) (fun _ _ => 0)
    case atStart => exact ⟨rfl, Gr.refl _⟩
    case round =>
      obtain ⟨rfl, HG⟩ := hrel
      go_wp2
      go_ret
      exact ⟨rfl, HG⟩
  go_enter Tryz.func51, Tryz.ntmps51
  go_wp2_with fail
  refine (HI.out _).mono ?_
  rintro e w1 ⟨rfl, g1⟩
  have HG := Lib.hid g1
  clear g1
  go_wp2_with fail
  go_ret
  exact ⟨rfl, HG.out⟩
/-- Whatever row of pages, of the call's own. -/
theorem pdeleteR_any {base : Nat} {v : Value} {xs : List Nat} (h : PlAt w b pd pl m n B P) (hr : Ints w base v xs) (hx : ∀ j, j < xs.length → xs.getD j 0 < 65536) (hg : ∀ k, plS b m B k → k < base) :
    Calls Tryz.prog 51 #[v, fnClean b] w fun e w' => ∃ v', e = .returned v' ∧ Ints w' base v' (xs.filter fun i => !P.clean i) ∧ w.grownBy w' v.ownBlock ∧ ∀ k, k < base → w'.heap[k]? = w.heap[k]? ∨ w.heap.size ≤ k := by
  have hr0 := hr
  rcases hr.2 with ⟨rfl, h0⟩ | ⟨g, cap, cur, rfl, hb, _⟩
  · obtain rfl : xs = [] := List.eq_nil_of_length_eq_zero h0
    refine (pdelete_nil _ w).mono ?_
    rintro e w1 ⟨rfl, g1⟩
    exact ⟨_, rfl, World.ownsRow_nil _ _ _ _, ⟨g1.os, g1.tape, g1.output, g1.size, fun j hj _ => g1.block j hj⟩, fun k hk => by
      rcases Nat.lt_or_ge k w.heap.size with h | h
      · exact .inl (g1.block k h)
      · exact .inr h⟩
  · refine (pdelete_any h hr0 hx (fun hp => by have := hg g hp; omega)).mono ?_
    rintro e w1 ⟨rfl, h1, h2⟩
    exact ⟨_, rfl, h1, h2, fun k hk => by
      rcases Nat.lt_or_ge k w.heap.size with h | h
      · exact .inl (h2.block k h fun e => by cases e; omega)
      · exact .inr h⟩
set_option maxRecDepth 100000 in
set_option maxHeartbeats 1000000 in
theorem Dirty_any (h : PlAt w b pd pl m n B P) (hin : ∀ i, 65536 ≤ i → P.fr i = none) : Calls Tryz.prog 22 #[.pointer (some ⟨b, 0, none⟩)] w fun e w' => RetLoose P.dirty w e w' := by
  have HM := Lib.hid (pmissing_no h)
  have HPg : Hid (∀ W, Gr w W → Calls Tryz.prog 52 #[.pointer (some ⟨b, 0, none⟩)] W fun e w' => RetLoose P.pages W e w') := Lib.hid fun W g => ppages_any (h.gr g) hin
  have HD : Hid (∀ W v, Gr w W → Ints W w.heap.size v P.pages → Calls Tryz.prog 51 #[v, fnClean b] W fun e w' => ∃ v', e = .returned v' ∧ Ints w' w.heap.size v' P.dirty ∧ Gr w w') := Lib.hid fun W v g hv => by
    refine (pdeleteR_any (h.gr g) hv P.pages_lt h.low).mono ?_
    rintro e w' ⟨v', rfl, h1, h2, h3⟩
    exact ⟨v', rfl, h1, ⟨h2.os.trans g.os, h2.tape.trans g.tape, h2.output.trans g.output, Nat.le_trans g.size h2.size, fun k hk => by
      rcases h3 k hk with h4 | h4
      · exact h4.trans (g.block k hk)
      · have := g.size; omega⟩⟩
  clear h hin
  go_enter Tryz.func22, Tryz.ntmps22
  go_wp2_with fail
  refine HM.out.mono ?_
  rintro e w1 ⟨rfl, rfl⟩
  go_wp2_with fail
  refine (HPg.out w (Gr.refl w)).mono ?_
  rintro e w1 ⟨v, rfl, hv, g1⟩
  have HD2 := Lib.hid (HD.out w1 v g1 hv)
  clear hv g1
  go_wp2_with fail
  refine HD2.out.mono ?_
  rintro e w2 ⟨v', rfl, hv, g1⟩
  have HV := Lib.hid hv
  have HG := Lib.hid g1
  clear hv g1
  go_wp2_with fail
  go_ret
  exact ⟨_, rfl, HV.out, HG.out⟩
/-- How many entries: as many as there are pages. -/
theorem Fm.size {w : World} {m n : Nat} {B : Nat → Option Nat} (h : Fm w m n B) (hB : ∀ i, B i = none ↔ P.fr i = none) : ∃ D : DataW Value, w.ownsMap Tryz.prog TI eltR m n D ∧ Maps.size D = P.pages.length := by
  obtain ⟨D, ho, hat, hhas, hkeys⟩ := h
  have hBn : ∀ i, B i ≠ none ↔ P.fr i ≠ none := fun i => not_congr (hB i)
  have hs := sorted_nats (xs := P.pages) (by unfold Pl.pages; exact List.Pairwise.filter _ List.pairwise_lt_range) ho (fun x => by
    rw [P.mem_pages]
    constructor
    · intro ⟨hx, ht⟩
      exact (hhas x hx).2 ((hBn x).2 ht)
    · intro hx
      obtain ⟨i, hi, e⟩ := hkeys _ hx
      rw [key_inj e]
      rw [key_inj e] at hx
      exact ⟨hi, (hBn i).1 ((hhas i hi).1 hx)⟩) (fun k hk => let ⟨i, _, e⟩ := hkeys k hk; ⟨i, e⟩) (List.Perm.refl (intKeys D))
  refine ⟨D, ho, ?_⟩
  have h1 := congrArg List.length hs
  rw [List.length_mergeSort, List.length_map] at h1
  rw [← h1]
  cases D <;> simp [Maps.size, intKeys]
set_option maxRecDepth 100000 in
theorem Frames_any (h : PlAt w b pd pl m n B P) : Calls Tryz.prog 24 #[.pointer (some ⟨b, 0, none⟩)] w fun e w' => e = .returned (.int .i64 (P.pages.length : Int)) ∧ w = w' := by
  have HM := Lib.hid (pmissing_no h)
  have c4 := h.c6.2.2.2.2.1
  obtain ⟨D, ho, hs⟩ := h.map.size h.has
  rw [← hs]
  have hl := fun ty => ho.len Tryz.underlying78 ty
  clear h hs ho
  go_enter Tryz.func24, Tryz.ntmps24
  go_wp2_with fail
  refine HM.out.mono ?_
  rintro e w1 ⟨rfl, rfl⟩
  go_wp2_with fail
  go_ret
  exact ⟨rfl, rfl⟩
end
end Go.Proofs.YtaemmknijmhnoaaGreat

/-
  The code's pool: the least first change.
-/
namespace Go.Proofs.YtaemmknijmhnoaaGreat
open Go.RowKit Go.Maps

def Pl.fst (P : Pl) (i : Nat) : Nat := match P.fr i with
  | some f => f.first
  | none => 0
/-- The least first change of the first k of them. -/
def Pl.leastTo (P : Pl) (xs : List Nat) (k : Nat) : Nat := (xs.take k).foldl (fun a i => min a (P.fst i)) (P.fst (xs.getD 0 0))
def Pl.least (P : Pl) : Nat := if P.dirty = [] then 0 else P.leastTo P.dirty P.dirty.length
theorem Pl.leastTo_succ (P : Pl) {xs : List Nat} {k : Nat} (h : k < xs.length) : P.leastTo xs (k + 1) = min (P.leastTo xs k) (P.fst (xs.getD k 0)) := by
  unfold Pl.leastTo
  rw [take_succ_getD h, List.foldl_append]
  rfl
theorem Pl.dirty_at (P : Pl) {k : Nat} (h : k < P.dirty.length) : P.dirty.getD k 0 < 65536 ∧ P.clean (P.dirty.getD k 0) = false := by
  have h1 : P.dirty.getD k 0 ∈ P.dirty := by simp [List.getD, h]
  have h2 := List.mem_filter.1 h1
  exact ⟨((P.mem_pages _).1 h2.1).1, by simpa using h2.2⟩
section
variable {w w' : World} {b m n : Nat} {pd pl : Value} {B : Nat → Option Nat} {P : Pl}
theorem PlAt.dirtyAt (h : PlAt w b pd pl m n B P) {i : Nat} (hi : i < 65536) (hd : P.clean i = false) : ∃ c f, B i = some c ∧ P.fr i = some f ∧ f.dirty = true ∧ Blk w c TFr f.cells ∧ f.In ∧ ∀ q, (Instr.lookup TPm (.map (some m)) (.int .i64 (i : Int)) false).run Tryz.prog (w.drewN q) = .ok (.pointer (some ⟨c, 0, none⟩)) (w.drewN q) := by
  have hl := fun q => (h.map.stays (w' := w.drewN q) rfl).look i hi
  cases hB : B i with
  | none =>
    unfold Pl.clean at hd
    rw [(h.has i).1 hB] at hd
    cases hd
  | some c =>
    obtain ⟨f, h1, h2, h3⟩ := h.frs i c hB
    rw [hB] at hl
    unfold Pl.clean at hd
    rw [h1] at hd
    exact ⟨c, f, rfl, h1, by simpa using hd, h2, h3, hl⟩
set_option maxRecDepth 100000 in
set_option maxHeartbeats 1000000 in
theorem First_any (h : PlAt w b pd pl m n B P) (hin : ∀ i, 65536 ≤ i → P.fr i = none) : Calls Tryz.prog 26 #[.pointer (some ⟨b, 0, none⟩)] w fun e w' => e = .returned (.tuple #[.int .u64 (P.least : Int), .bool (!P.dirty.isEmpty)]) ∧ Gr w w' := by
  have HD := Lib.hid (Dirty_any h hin)
  have HP := Lib.hid h
  obtain ⟨L, hL⟩ : ∃ L, L = P.least := ⟨_, rfl⟩
  obtain ⟨Y, hY⟩ : ∃ Y, Y = !P.dirty.isEmpty := ⟨_, rfl⟩
  rw [← hL, ← hY]
  have HLY : Hid (L = P.least ∧ Y = !P.dirty.isEmpty) := Lib.hid ⟨hL, hY⟩
  clear h hin hL hY
  go_enter Tryz.func26, Tryz.ntmps26
  go_wp2_with fail
  refine HD.out.mono ?_
  rintro e w1 ⟨v, rfl, hv, g1⟩
  have HG := Lib.hid g1
  clear g1
  rcases hv.2 with ⟨rfl, h0⟩ | ⟨g, cap, cur, rfl, hb, _⟩
  · have h1 : P.dirty = [] := List.eq_nil_of_length_eq_zero h0
    have h2 : P.least = 0 := by unfold Pl.least; rw [if_pos h1]
    obtain ⟨rfl, rfl⟩ := HLY.out
    clear hv h0 HLY
    go_wp2_with fail
    go_ret2
    refine ⟨?_, HG.out⟩
    rw [h2, h1]
    rfl
  · have HV : Hid (Ints w1 w.heap.size (.slice (some ⟨g, 0, none⟩) P.dirty.length cap) P.dirty) := Lib.hid hv
    obtain ⟨N, hN⟩ : ∃ N, N = P.dirty.length := ⟨_, rfl⟩
    have HN : Hid (N = P.dirty.length ∧ N ≤ 9223372036854775807) := Lib.hid ⟨hN, by have := hv.most; unfold maxLen at this; omega⟩
    rw [← hN]
    by_cases hN0 : N = 0
    · subst hN0
      have h1 : P.dirty = [] := List.eq_nil_of_length_eq_zero hN.symm
      have h2 : P.least = 0 := by unfold Pl.least; rw [if_pos h1]
      obtain ⟨rfl, rfl⟩ := HLY.out
      clear hv hN HLY
      go_wp2_with fail
      go_ret2
      refine ⟨?_, HG.out⟩
      rw [h2, h1]
      rfl
    · have HL : Hid (P.least = P.leastTo P.dirty N ∧ P.dirty.isEmpty = false) := Lib.hid (by
        have h1 : P.dirty ≠ [] := fun e => hN0 (by rw [hN, e]; rfl)
        exact ⟨by unfold Pl.least; rw [if_neg h1, hN], by simpa using h1⟩)
      obtain ⟨x0, hx0⟩ : ∃ x, x = P.dirty.getD 0 0 := ⟨_, rfl⟩
      have HX0 := Lib.hid hx0
      have c0 := hv.cellAt 0 (by omega)
      obtain ⟨c, f, hB, hf, _, hbk, hIn, hlk⟩ := (HP.out.gr HG.out).dirtyAt (P.dirty_at (k := 0) (by omega)).1 (P.dirty_at (k := 0) (by omega)).2
      rw [← hx0] at c0 hlk
      have k2 := (PFr.c4 hbk).2.1
      have HF : Hid (P.fst x0 = f.first) := Lib.hid (by unfold Pl.fst; rw [hx0, hf])
      obtain ⟨y, hy⟩ : ∃ y, y = f.first := ⟨_, rfl⟩
      rw [← hy] at k2
      have HY : Hid (y = P.fst x0) := Lib.hid (by rw [HF.out, hy])
      have hn0 : (0 : Int) < (N : Int) := by omega
      have hn0n : 0 < N := by omega
      have hne : ((N : Int) == 0) = false := beq_eq_false_iff_ne.2 (by omega)
      have cm := (HP.out.gr HG.out).c6.2.2.2.2.1
      clear hv hN hB hf hbk hIn hx0 hy HF
      go_wp2_with fail
      go_quiet (fail)
      clear hlk k2 cm c0 hne
      go_wp2
      go_loopw [5, 7, 26] (fun s5 _ kv wr => ∃ k : Nat, k ≤ N ∧ kv = .int .i64 (k : Int) ∧ s5 = .int .u64 (P.leastTo P.dirty k : Int) ∧ Hid (Gr w1 wr)) (fun _ _ kv _ => N - (intOf kv).toNat)
      case atStart => exact ⟨0, Nat.zero_le _, rfl, by rw [HY.out, HX0.out]; rfl, Lib.hid ⟨rfl, rfl, rfl, Nat.le_refl _, fun _ _ => rfl⟩⟩
      case round =>
        obtain ⟨k, hk, rfl, rfl, HW⟩ := hrel
        by_cases hlt : k < N
        · have g3 : (k : Int) < (N : Int) := by omega
          have hkd : k < P.dirty.length := by have := HN.out.1; omega
          have ck := (HV.out.gr HW.out).cellAt k hkd
          obtain ⟨c, f, hB, hf, _, hbk, hIn, hlk⟩ := ((HP.out.gr HG.out).gr HW.out).dirtyAt (P.dirty_at hkd).1 (P.dirty_at hkd).2
          obtain ⟨x, hx⟩ : ∃ x, x = P.dirty.getD k 0 := ⟨_, rfl⟩
          rw [← hx] at ck hlk
          have k2 := (PFr.c4 hbk).2.1
          obtain ⟨z, hz⟩ : ∃ z, z = f.first := ⟨_, rfl⟩
          rw [← hz] at k2
          have HZ : Hid (P.leastTo P.dirty (k + 1) = min (P.leastTo P.dirty k) z) := Lib.hid (by
            rw [P.leastTo_succ hkd, ← hx, hz]
            congr 1
            unfold Pl.fst
            rw [hx, hf])
          have cm := ((HP.out.gr HG.out).gr HW.out).c6.2.2.2.2.1
          have hw : IntKind.i64.wrap ((k : Int) + 1) = ((k + 1 : Nat) : Int) := by rw [IntWalk.i64_in _ (by have := HN.out.2; omega)]; omega
          obtain ⟨T, hT⟩ : ∃ T, T = P.leastTo P.dirty k := ⟨_, rfl⟩
          have HT := Lib.hid hT
          rw [← hT]
          have hl0 : (Instr.lookup TPm (.map (some m)) (.int .i64 (x : Int)) false).run Tryz.prog wr = .ok (.pointer (some ⟨c, 0, none⟩)) wr := hlk 0
          clear hB hf hbk hIn hx hz hkd hT hlk
          go_wp2_with fail
          exact ⟨⟨k + 1, by omega, by go_num, by rw [HZ.out, ← HT.out]; congr 1; omega, HW⟩, by simp [intOf]; omega⟩
        · obtain rfl : k = N := by omega
          go_wp2_with fail
          go_ret2
          refine ⟨?_, Gr.trans HG.out HW.out⟩
          rw [HLY.out.1, HLY.out.2, HL.out.1, HL.out.2]
          rfl
end
end Go.Proofs.YtaemmknijmhnoaaGreat

/-
  The code's pool: a frame turns; pages are noted as written; a page in memory is used.
-/
namespace Go.Proofs.YtaemmknijmhnoaaGreat
open Go.RowKit Go.Maps

/-- Page i's frame is f. -/
def Pl.put (P : Pl) (i : Nat) (f : PFr) : Pl := { P with fr := fun j => if j = i then some f else P.fr j }
/-- Those pages are not dirty any more. -/
def Pl.wrote (P : Pl) (xs : List Nat) : Pl := { P with fr := fun j => if j ∈ xs then (P.fr j).map fun f => { f with dirty := false } else P.fr j }
theorem Pl.wrote_nil (P : Pl) : P.wrote [] = P := by unfold Pl.wrote; simp
theorem PFr.In.undirty {f : PFr} (h : f.In) (x : Bool) : ({ f with dirty := x } : PFr).In := ⟨h.pay, h.l, h.f⟩
theorem PFr.In.use {f : PFr} (h : f.In) (x : Bool) : ({ f with used := x } : PFr).In := ⟨h.pay, h.l, h.f⟩
theorem Pl.wrote_snoc (P : Pl) (S : List Nat) (x : Nat) : P.wrote (S ++ [x]) = (match (P.wrote S).fr x with
    | some f => (P.wrote S).put x { f with dirty := false }
    | none => P.wrote S) := by
  unfold Pl.wrote Pl.put
  cases hf : P.fr x with
  | none =>
    by_cases hm : x ∈ S
    · simp only [hm, if_true, hf, Option.map_none, List.mem_append, List.mem_singleton]
      congr 1
      funext j
      by_cases hj : j = x
      · subst hj; simp [hm, hf]
      · simp [hj]
    · simp only [hm, if_false, hf, List.mem_append, List.mem_singleton]
      congr 1
      funext j
      by_cases hj : j = x
      · subst hj; simp [hm, hf]
      · simp [hj]
  | some f =>
    by_cases hm : x ∈ S
    · simp only [hm, if_true, hf, Option.map_some, List.mem_append, List.mem_singleton]
      congr 1
      funext j
      by_cases hj : j = x
      · subst hj; simp [hm, hf]
      · simp [hj]
    · simp only [hm, if_false, hf, List.mem_append, List.mem_singleton]
      congr 1
      funext j
      by_cases hj : j = x
      · subst hj; simp [hm, hf]
      · simp [hj]
theorem Pl.wrote_step (P : Pl) {xs : List Nat} {k : Nat} (hk : k < xs.length) : P.wrote (xs.take (k + 1)) = (match (P.wrote (xs.take k)).fr (xs.getD k 0) with
    | some f => (P.wrote (xs.take k)).put (xs.getD k 0) { f with dirty := false }
    | none => P.wrote (xs.take k)) := by
  rw [take_succ_getD hk, Pl.wrote_snoc]
section
variable {w w' : World} {b m n : Nat} {pd pl : Value} {B : Nat → Option Nat} {P : Pl}
theorem PlAt.apart (h : PlAt w b pd pl m n B P) {i c : Nat} (hB : B i = some c) : c ≠ b ∧ c ≠ m := by
  obtain ⟨f, _, h2, _⟩ := h.frs i c hB
  constructor
  · intro e
    have h3 := h.blk
    unfold Blk at h2 h3
    rw [e, h3] at h2
    simp only [Option.some.injEq, Obj.cells.injEq] at h2
    exact absurd h2.2.1 (by decide)
  · intro e
    obtain ⟨D, ⟨es, ck, h1, _⟩, _⟩ := h.map
    unfold Blk at h2
    rw [e, h1] at h2
    cases h2
theorem PlAt.turn (h : PlAt w b pd pl m n B P) {i c : Nat} {f : PFr} (hB : B i = some c) (hf : f.In) (hb : Blk w' c TFr f.cells) (ho : ∀ k, k ≠ c → w'.heap[k]? = w.heap[k]?) : PlAt w' b pd pl m n B (P.put i f) := by
  obtain ⟨h1, h2⟩ := h.apart hB
  refine ⟨h.blk.stays (ho b (Ne.symm h1)), h.map.stays (ho m (Ne.symm h2)), h.most, fun j => ?_, fun j d hj => ?_, h.inj, h.dsk, h.lg⟩
  · show _ ↔ (if j = i then some f else P.fr j) = none
    by_cases hj : j = i
    · subst hj; simp [hB]
    · rw [if_neg hj]; exact h.has j
  · show ∃ g, (if j = i then some f else P.fr j) = some g ∧ _
    by_cases hji : j = i
    · subst hji
      rw [hB] at hj
      cases hj
      exact ⟨f, by simp, hb, hf⟩
    · obtain ⟨g, k1, k2, k3⟩ := h.frs j d hj
      exact ⟨g, by rw [if_neg hji]; exact k1, k2.stays (ho d fun e => by subst e; exact hji (h.inj _ _ _ hj hB)), k3⟩
/-- Only frames have turned. -/
structure FrOnly (B : Nat → Option Nat) (w w' : World) : Prop where
  os : w'.os = w.os
  tape : w'.tape = w.tape
  output : w'.output = w.output
  size : w.heap.size ≤ w'.heap.size
  block : ∀ k, k < w.heap.size → (∀ i, B i ≠ some k) → w'.heap[k]? = w.heap[k]?
theorem FrOnly.refl (B : Nat → Option Nat) (w : World) : FrOnly B w w := ⟨rfl, rfl, rfl, Nat.le_refl _, fun _ _ _ => rfl⟩
theorem FrOnly.trans {B : Nat → Option Nat} {a b c : World} (h : FrOnly B a b) (k : FrOnly B b c) : FrOnly B a c :=
  ⟨k.os.trans h.os, k.tape.trans h.tape, k.output.trans h.output, Nat.le_trans h.size k.size, fun i hi hb => (k.block i (Nat.lt_of_lt_of_le hi h.size) hb).trans (h.block i hi hb)⟩
theorem FrOnly.cell {B : Nat → Option Nat} {i c : Nat} (h : B i = some c) (w : World) (o : Nat) (u : Value) : FrOnly B w (w.setCell ⟨c, o, none⟩ u) :=
  have hb := (Below.refl 0 w).setCell (p := ⟨c, o, none⟩) (Nat.zero_le _) u
  ⟨hb.os, hb.tape, hb.output, hb.size, fun k _ hk => Below.heap_setCell w _ _ k fun e => hk i (by rw [h, e])⟩
theorem Ints.frOnly {base : Nat} {v : Value} {xs : List Nat} {w w' : World} {B : Nat → Option Nat} (h : Ints w base v xs) (f : FrOnly B w w') (hv : ∀ g, v.ownBlock = some g → ∀ i, B i ≠ some g) : Ints w' base v xs := by
  rcases h.2 with ⟨rfl, h0⟩ | ⟨g, cap, cur, rfl, hb, hg, h1⟩
  · exact ⟨h.1, .inl ⟨rfl, h0⟩⟩
  · exact ⟨h.1, .inr ⟨g, cap, cur, rfl, hb, (f.block g (Array.getElem?_eq_some_iff.1 hg).1 (hv g rfl)).trans hg, h1⟩⟩
set_option maxRecDepth 100000 in
set_option maxHeartbeats 1000000 in
theorem written_any {base : Nat} {v : Value} {xs : List Nat} (h : PlAt w b pd pl m n B P) (hr : Ints w base v xs) (hx : ∀ j, j < xs.length → xs.getD j 0 < 65536) (hv : ∀ g, v.ownBlock = some g → ¬ plS b m B g) :
    Calls Tryz.prog 45 #[.pointer (some ⟨b, 0, none⟩), v] w fun e w' => e = .returned (.tuple #[]) ∧ PlAt w' b pd pl m n B (P.wrote xs) ∧ FrOnly B w w' := by
  rcases hr.2 with ⟨rfl, h0⟩ | ⟨g, cap, cur, rfl, hb, _⟩
  · obtain rfl : xs = [] := List.eq_nil_of_length_eq_zero h0
    rw [Pl.wrote_nil]
    have HP := Lib.hid h
    clear h hr h0
    go_enter Tryz.func45, Tryz.ntmps45
    go_wp2
    go_loopw [5, 6, 9] (fun _ _ kv wr => kv = .int .i64 0 ∧ wr = w) (fun _ _ _ _ => 0)
    case atStart => exact ⟨rfl, rfl⟩
    case round =>
      obtain ⟨rfl, rfl⟩ := hrel
      go_wp2
      go_end0
      exact ⟨rfl, HP.out, FrOnly.refl _ _⟩
  · have HR : Hid (Ints w base (.slice (some ⟨g, 0, none⟩) xs.length cap) xs) := Lib.hid hr
    have HP := Lib.hid h
    have HX := Lib.hid hx
    have HV : Hid (∀ i, B i ≠ some g) := Lib.hid fun i hi => hv g rfl (.inr (.inr ⟨i, hi⟩))
    obtain ⟨N, hN⟩ : ∃ N, N = xs.length := ⟨_, rfl⟩
    have HN : Hid (N = xs.length ∧ N ≤ 9223372036854775807) := Lib.hid ⟨hN, by have := hr.most; unfold maxLen at this; omega⟩
    rw [← hN]
    clear h hr hx hv hN hb
    go_enter Tryz.func45, Tryz.ntmps45
    go_wp2
    go_loopw [5, 6, 9] (fun _ _ kv wr => ∃ k : Nat, k ≤ N ∧ kv = .int .i64 (k : Int) ∧ Hid (PlAt wr b pd pl m n B (P.wrote (xs.take k)) ∧ FrOnly B w wr)) (fun _ _ kv _ => N - (intOf kv).toNat)
    case atStart => exact ⟨0, Nat.zero_le _, rfl, Lib.hid ⟨by rw [List.take_zero, Pl.wrote_nil]; exact HP.out, FrOnly.refl _ _⟩⟩
    case round =>
      obtain ⟨k, hk, rfl, HW⟩ := hrel
      by_cases hlt : k < N
      · have g3 : (k : Int) < (N : Int) := by omega
        have hkd : k < xs.length := by have := HN.out.1; omega
        have ck := (HR.out.frOnly HW.out.2 (fun g' hg' => by cases hg'; exact HV.out)).cellAt k hkd
        have cm := HW.out.1.c6.2.2.2.2.1
        have hst := P.wrote_step hkd
        obtain ⟨x, hx⟩ : ∃ x, x = xs.getD k 0 := ⟨_, rfl⟩
        have hx6 : x < 65536 := by rw [hx]; exact HX.out k hkd
        have hl0 := HW.out.1.map.look x hx6
        have hw : IntKind.i64.wrap ((k : Int) + 1) = ((k + 1 : Nat) : Int) := by rw [IntWalk.i64_in _ (by have := HN.out.2; omega)]; omega
        rw [← hx] at ck hst
        cases hB : B x with
        | none =>
          have h1 := (HW.out.1.has x).1 hB
          rw [h1] at hst
          have HS : Hid (P.wrote (xs.take (k + 1)) = P.wrote (xs.take k)) := Lib.hid hst
          rw [hB] at hl0
          have hl2 : (Instr.lookup TPm (.map (some m)) (.int .i64 (x : Int)) false).run Tryz.prog wr = .ok (.pointer none) wr := hl0
          clear hst h1 hl0 hB hkd hx
          go_wp2
          exact ⟨⟨k + 1, by omega, by go_num, Lib.hid ⟨by rw [HS.out]; exact HW.out.1, HW.out.2⟩⟩, by simp [intOf]; omega⟩
        | some c =>
          obtain ⟨f, h1, h2, h3⟩ := HW.out.1.frs x c hB
          rw [h1] at hst
          have HS : Hid (P.wrote (xs.take (k + 1)) = (P.wrote (xs.take k)).put x { f with dirty := false }) := Lib.hid hst
          rw [hB] at hl0
          have hl2 : (Instr.lookup TPm (.map (some m)) (.int .i64 (x : Int)) false).run Tryz.prog wr = .ok (.pointer (some ⟨c, 0, none⟩)) wr := hl0
          have k3 := (PFr.c4 h2).2.2.1
          have f3 := h2.frozen 250
          have HT : Hid (PlAt (wr.setCell ⟨c, 250, none⟩ (.bool false)) b pd pl m n B ((P.wrote (xs.take k)).put x { f with dirty := false }) ∧ FrOnly B w (wr.setCell ⟨c, 250, none⟩ (.bool false))) := Lib.hid
            ⟨HW.out.1.turn hB (h3.undirty false) (by rw [← PFr.setDirty]; exact h2.set 250 (.bool false)) (fun j hj => Below.heap_setCell wr _ _ j hj), HW.out.2.trans (FrOnly.cell hB wr _ _)⟩
          clear hst h1 hl0 hB hkd hx h2 h3
          go_wp2
          exact ⟨⟨k + 1, by omega, by go_num, Lib.hid ⟨by rw [HS.out]; exact HT.out.1, HT.out.2⟩⟩, by simp [intOf]; omega⟩
      · obtain rfl : k = N := by omega
        have e : xs.take k = xs := List.take_of_length_le (by rw [← HN.out.1]; exact Nat.le_refl _)
        go_wp2
        go_end0
        refine ⟨rfl, ?_, HW.out.2⟩
        have h5 := HW.out.1
        rw [e] at h5
        exact h5
end
end Go.Proofs.YtaemmknijmhnoaaGreat

