
/-
  What is wrong with a path, as the code finds it.
-/
import Derived.Test.YtiffbkgohlbgeaaPa3
import Derived.Test.YtiffbkgohlbgeaaHeld
namespace Go.Proofs.Ytiffbkgohlbgeaa
open Go.RowKit Go.Shelf
set_option linter.unusedVariables false
set_option linter.unusedSimpArgs false
attribute [local go_sem] Oper.semAt_some

abbrev TCo : TypeId := 24
/-- What lies there while the names are gone over: the answer, what is told in the end. -/
structure WrAt (w : World) (r t : Int) (W : World) : Prop where
  gr : Gr w W
  b0 : Blk W w.heap.size TCo #[.int .i64 r]
  b1 : Blk W (w.heap.size + 1) TCo #[.int .i64 t]
theorem WrAt.held {w : World} {r t : Int} {W W' : World} (h : WrAt w r t W) (g : Gr w W') (s : HoldS Obj.isCells (fun _ => True) W W') : WrAt w r t W' := ⟨g, h.b0.held s, h.b1.held s⟩
theorem WrAt.up {w : World} {r t : Int} {W W' : World} (h : WrAt w r t W) (g : Gr W W') : WrAt w r t W' := ⟨Gr.trans h.gr g, h.b0.below g h.b0.lt, h.b1.below g h.b1.lt⟩
theorem WrAt.res {w : World} {r t : Int} {W : World} (h : WrAt w r t W) (r' : Int) : WrAt w r' t (W.setCell ⟨w.heap.size, 0, none⟩ (.int .i64 r')) :=
  ⟨h.gr.setCell (p := ⟨w.heap.size, 0, none⟩) (Nat.le_refl _) _, h.b0.set 0 _, h.b1.far (by show w.heap.size + 1 ≠ w.heap.size; omega) _⟩
theorem WrAt.tell {w : World} {r t : Int} {W : World} (h : WrAt w r t W) (t' : Int) : WrAt w r t' (W.setCell ⟨w.heap.size + 1, 0, none⟩ (.int .i64 t')) :=
  ⟨h.gr.setCell (p := ⟨w.heap.size + 1, 0, none⟩) (by show w.heap.size ≤ w.heap.size + 1; omega) _, h.b0.far (by show w.heap.size ≠ w.heap.size + 1; omega) _, h.b1.set 0 _⟩
theorem wrAt_own {w : World} {r : Int} {B : Nat} {f : List (Nat × ByteArray) → Int} (hB : w.heap.size ≤ B) : OwnFrom B (fun pre W => WrAt w r (f pre) W) := fun s X Y row hs hg hr =>
  hs.held (Below.grown hs.gr hg hs.gr.size (fun k e => by have := (hr k e).1; omega)) (hold_grown hg (fun r e => (hr r e).2))
/-- Behind the loop: its block for what is deferred is taken up. -/
theorem WrAt.over {w : World} {r t : Int} {D : Nat} {W : World} (h : WrAt w r t W) (hD : w.heap.size ≤ D) (hK : W.heap[D]? = some (.deferred (some []))) : Gr w (W.putObj D (.deferred none)) ∧ (W.putObj D (.deferred none)).cell? ⟨w.heap.size, 0, none⟩ = some (.int .i64 r) := by
  have g := grownBy_putObj' W D (.deferred none)
  have hne : w.heap.size ≠ D := fun e => by
    have h1 := h.b0
    unfold Blk at h1
    rw [e, hK] at h1
    cases h1
  exact ⟨Below.grown h.gr g h.gr.size (fun j e => by cases e; exact hD), Blk.cell (t := TCo) (cs := #[.int .i64 r]) ((g.block _ h.b0.lt (fun e => hne (Option.some.inj e))).trans h.b0) 0⟩

/-- So far nothing is wrong. -/
def GoodS (s : ByteArray) : Prop := s ≠ ⟨#[]⟩ ∧ s.data[0]! = 47 ∧ ¬ 128 < s.size
def RetI2 (i : Int) (w : World) (en : Ending) (w' : World) : Prop := en = .returned (.int .i64 i) ∧ Gr w w'


/-- The function over which one ranges is no nil. -/
theorem seq_not_nil (b : Nat) (V : World) : Sem.run Try.prog (binOp .eql 40 (seqP b) .nilFunc) V = .ok (.bool false) V := by
  have hu : Try.prog.underlying 40 = some (.func #[54] #[] false) := by kernel_rfl
  have h : ∀ D : Nat, (Op.equalIn (D + 1) 40 (seqP b) .nilFunc).run Try.prog V = .ok false V := fun D => by simp [Op.equalIn, run_underlying hu]
  simp [binOp, Op.equal, Op.maxDepth, h 9999]
theorem gr_alloc2 (w : World) (o o' : Obj) : Gr w ((w.alloc o).alloc o') := ((Gr.refl w).alloc (Nat.le_refl _) _).alloc (by simp) _
theorem wrAt_new (w : World) : WrAt w 0 0 ((w.alloc (.cells #[.int .i64 0] TCo)).alloc (.cells #[.int .i64 0] TCo)) := by
  have h2 := Blk.new (w.alloc (.cells #[.int .i64 0] TCo)) TCo #[.int .i64 0]
  rw [World.size_alloc] at h2
  exact ⟨gr_alloc2 _ _ _, (Blk.new w TCo _).alloc _, h2⟩

theorem first_told {s : ByteArray} {pre : List (Nat × ByteArray)} {x : Nat × ByteArray} {zs : List ByteArray} (hg : GoodS s) (h : firstE (pre.map (·.2)) = 0) (hz : pre.map (·.2) ++ x.2 :: zs = names s) (hx : nameE x.2 ≠ 0) : nameE x.2 = wrongR s := by
  unfold wrongR
  have e : firstE (names s) = nameE x.2 := by
    rw [← hz, firstE_app, if_neg (by rw [h]; simp)]
    show (if nameE x.2 ≠ 0 then nameE x.2 else firstE zs) = _
    rw [if_pos hx]
  rw [if_neg (by rw [not_or]; exact ⟨hg.1, fun h => h hg.2.1⟩), if_neg hg.2.2, e, if_pos hx]
theorem first_snoc {pre : List (Nat × ByteArray)} {x : Nat × ByteArray} (h : firstE (pre.map (·.2)) = 0) (hx : nameE x.2 = 0) : firstE ((pre ++ [x]).map (·.2)) = 0 := by
  rw [List.map_append, firstE_app, if_neg (by rw [h]; simp)]
  show (if nameE x.2 ≠ 0 then nameE x.2 else 0) = 0
  rw [if_neg (by rw [hx]; simp)]
theorem wrong_told {s : ByteArray} {ys : List (Nat × ByteArray)} (hg : GoodS s) (h : firstE (ys.map (·.2)) = 0) (hS : ys.map (·.2) = names s) : wrongR s = if 8 < ys.length then 11 else 0 := by
  unfold wrongR
  rw [if_neg (by rw [not_or]; exact ⟨hg.1, fun h => h hg.2.1⟩), if_neg hg.2.2, ← hS, if_neg (by rw [h]; simp), List.length_map]

set_option maxRecDepth 100000 in
set_option maxHeartbeats 2000000 in
theorem wrong_loop (s : ByteArray) (w : World) (hg : GoodS s) : Calls Try.prog 19 #[.string s] w (RetI2 (wrongR s) w) := by
  obtain ⟨h1, h2, h3⟩ := hg
  have hg : GoodS s := ⟨h1, h2, h3⟩
  have hsz : 1 ≤ s.size := by
    have : s.size ≠ 0 := fun e => h1 (bys_inj (List.eq_nil_of_length_eq_zero (by rw [bys_len]; exact e)))
    omega
  obtain ⟨hq1, hq2⟩ := text_ne (l := []) h1
  have hq3 : (!s.toList.isEmpty) = true := by simpa using hq2
  have hv : ((s[0].toNat : Int) != 47) = false := by
    have h5 : s[0] = 47 := by rw [← bang s 0 hsz]; exact h2
    have := u8_is h5
    simpa using this
  have HG := Lib.hid hg
  have HW := Lib.hid (wrAt_new w)
  clear h1 h2 hg
  refine (callsIn_wide (n := 8)).1 ?_
  refine callsIn_of_wp_marks Try.func19 rfl trivial ?_ rfl
  simp only [Try.ntmps19, List.size_toArray, List.length_cons, List.length_nil, Nat.reduceAdd, Nat.reduceSub, Array.replicate_succ, Array.replicate_zero, List.push_toArray, List.append_toArray, List.nil_append, List.cons_append]
  gi_wp2_with fail
  obtain ⟨V0, hV0⟩ : ∃ V0, V0 = ((w.alloc (.cells #[.int .i64 0] TCo)).alloc (.cells #[.int .i64 0] TCo)) := ⟨_, rfl⟩
  rw [← hV0] at HW
  have H0 : Hid (V0.heap.size = w.heap.size + 1 + 1) := Lib.hid (by rw [hV0]; simp)
  have hV0' : ((w.alloc (.cells #[.int .i64 0] 24)).alloc (.cells #[.int .i64 0] 24)) = V0 := hV0.symm
  rw [hV0']
  clear hV0 hV0'
  refine ⟨trivial, ?_⟩
  refine (callsIn_wide.2 (pieces_any s V0)).mono ?_
  rintro e V ⟨rfl, hV⟩
  have gV : Gr V0 V := by rw [hV]; exact (Gr.refl V0).alloc (Nat.le_refl _) _
  have HB : Hid (Blk V V0.heap.size TStr #[.string s]) := Lib.hid (by rw [hV]; exact Blk.new V0 TStr _)
  have HW1 := Lib.hid (HW.out.up gV)
  have HSZ : Hid (w.heap.size ≤ V.heap.size) := Lib.hid HW1.out.gr.size
  have HKB : Hid (w.heap.size + 1 < V0.heap.size) := Lib.hid (by rw [H0.out]; omega)
  clear hV gV HW H0
  have he := seq_not_nil V0.heap.size V
  gi_wp2_with fail
  refine wpIn_range_told (F := Fence.wide) rfl (by omega) (gf := 29) (lb := #[.pointer (some ⟨V0.heap.size, 0, none⟩)]) rfl trivial (enters_of Try.func29 (by kernel_rfl) rfl)
    (pieces1_told 7 (by omega) V0.heap.size s V HB.out hsz (by omega)) (Below.refl _ _) (fun _ => rfl)
    (fun pre W => WrAt w 0 (if 8 < pre.length then 11 else 0) W ∧ firstE (pre.map (·.2)) = 0) (fun _ W => ∃ t, WrAt w (wrongR s) t W) ?hI ?hIr ⟨HW1.out, rfl⟩
    (fun pre x b W => x.1 = pre.length ∧ (∃ zs, pre.map (·.2) ++ x.2 :: zs = names s) ∧ b = ({ tmps := #[.string s, undef, .pointer (some ⟨w.heap.size, 0, none⟩), .pointer (some ⟨w.heap.size + 1, 0, none⟩), .int .i64 (pre.length : Nat), .string x.2, undef, .bool false, .string s, .bool false, .bool false, .string s, .int .u8 (s[0].toNat : Nat), .bool false, .bool false, .bool (decide ((128 : Int) < (s.size : Nat))), .string s, .int .i64 (s.size : Nat), .bool (decide ((128 : Int) < (s.size : Nat))), .string s, seqP V0.heap.size, .int .i64 (pre.length : Nat), .string x.2, undef, undef, undef, undef, undef, undef, undef, undef], defers := [] } : Act)) ?hAx ?assign ?body ?done ?stop
  case hI =>
    rintro t X Y row ⟨hs, h⟩ hg hr
    exact ⟨hs.held (Below.grown hs.gr hg hs.gr.size (fun k e => by have := (hr k e).1; have := HSZ.out; omega)) (hold_grown hg (fun r e => (hr r e).2)), h⟩
  case hIr =>
    rintro u X Y row ⟨t, hs⟩ hg hr
    exact ⟨t, hs.held (Below.grown hs.gr hg hs.gr.size (fun k e => by have := (hr k e).1; have := HSZ.out; omega)) (hold_grown hg (fun r e => (hr r e).2))⟩
  case hAx =>
    rintro pre x b s X Y row h hg hr
    exact h
  case assign =>
    rintro l pre x W K hi ⟨hgood, hpre⟩ hK
    gi_wp2_with fail
    exact hK _ _ ((KeepsOthers.refl W).from _) (HoldS.refl _ _ _) hi ⟨hgood, hpre, rfl⟩
  case done =>
    rintro D ys W hD hS ⟨hi, hf⟩ hK
    have n1 := hi.b1.cell 0
    have n0 := hi.b0.cell 0
    have f0 := hi.b0.frozen 0
    simp at n1 n0
    have hDw : w.heap.size ≤ D := Nat.le_trans HSZ.out hD
    have hE := Lib.hid (wrong_told HG.out hf hS)
    obtain ⟨T, hT⟩ : ∃ T : Int, T = if 8 < ys.length then 11 else 0 := ⟨_, rfl⟩
    rw [← hT] at n1 hi hE
    have hi2 := hi.res T
    have hK2 := (KeepsOthers.setCell W ⟨w.heap.size, 0, none⟩ (.int .i64 T)).same D _ hK rfl
    clear hT
    gi_wp2_with fail
    refine ⟨by simp, .inl ⟨_, _, rfl, run_takeDeferred hK2, ?_⟩⟩
    exact ⟨_, results_cell_one rfl Try.isAgg24 _ _ ⟨w.heap.size, 0, none⟩ (.int .i64 T) rfl (hi2.over hDw hK2).2, by rw [hE.out], (hi2.over hDw hK2).1⟩
  case stop =>
    rintro D pre W hD _ ⟨t, hi⟩ hK
    have hDw : w.heap.size ≤ D := Nat.le_trans HSZ.out hD
    gi_wp2_with fail
    refine ⟨by simp, .inl ⟨_, _, rfl, run_takeDeferred hK, ?_⟩⟩
    exact ⟨_, results_cell_one rfl Try.isAgg24 _ _ ⟨w.heap.size, 0, none⟩ (.int .i64 (wrongR s)) rfl (hi.over hDw hK).2, rfl, (hi.over hDw hK).1⟩
  case body =>
    rintro l pre x b W8 hl ⟨hi, hf⟩ ⟨hxl, ⟨zs, hpre⟩, rfl⟩
    obtain ⟨m, hm⟩ : ∃ m, m = pre.length := ⟨_, rfl⟩
    have HM := Lib.hid hm
    have HL : Hid ((pre ++ [x]).length = m + 1) := Lib.hid (by rw [List.length_append, hm]; rfl)
    rw [← hm] at hi ⊢
    have HI := Lib.hid hi
    have HKO : Hid (∀ v, KeepsFrom V.heap.size W8 (W8.setCell ⟨w.heap.size, 0, none⟩ v)) := Lib.hid fun v => (KeepsOthers.setCell W8 _ _).from _
    have HKO1 : Hid (∀ v, KeepsFrom V.heap.size W8 (W8.setCell ⟨w.heap.size + 1, 0, none⟩ v)) := Lib.hid fun v => (KeepsOthers.setCell W8 _ _).from _
    have HHS : Hid (∀ v, HoldS firm (fun k => k = V0.heap.size) W8 (W8.setCell ⟨w.heap.size + 1, 0, none⟩ v)) := Lib.hid fun v => ⟨by simp, fun j o hj h1 _ => (heap_setCell_other W8 _ j _ (by have := HKB.out; show j ≠ w.heap.size + 1; omega)).trans h1⟩
    have n0 := hi.b0.cell 0
    have f0 := hi.b0.frozen 0
    have n1 := hi.b1.cell 0
    have f1 := hi.b1.frozen 0
    simp at n0 n1
    obtain ⟨E, hE⟩ : ∃ E, E = nameE x.2 := ⟨_, rfl⟩
    have HE := Lib.hid hE
    clear hm hi hE hxl
    by_cases hz : E = 0
    · have HF := Lib.hid (first_snoc hf (HE.out.symm.trans hz))
      have hEz : Hid (E = 0) := Lib.hid hz
      have hb : (E != 0) = false := by simpa using hz
      clear hz hf hpre
      by_cases h8 : 8 ≤ m
      · gi_wp2_with fail
        refine ⟨trivial, ?_⟩
        gi_at_call 14
        refine (CallsIn.inRound l (callsIn_wide.2 (name_any _ _))).mono ?_
        rintro e w1 ⟨rfl, rfl⟩
        rw [← HE.out]
        gi_wp2_with fail
        refine And.intro (HKO1.out _) (And.intro (HHS.out _) (And.intro ?_ HF.out))
        rw [HL.out, if_pos (by omega)]
        exact HI.out.tell 11
      · gi_wp2_with fail
        refine ⟨trivial, ?_⟩
        gi_at_call 14
        refine (CallsIn.inRound l (callsIn_wide.2 (name_any _ _))).mono ?_
        rintro e w1 ⟨rfl, rfl⟩
        rw [← HE.out]
        gi_wp2_with fail
        refine And.intro ((KeepsOthers.refl _).from _) (And.intro (HoldS.refl _ _ _) (And.intro ?_ HF.out))
        have h := HI.out
        rw [if_neg (by omega)] at h
        rw [HL.out, if_neg (by omega)]
        exact h
    · have HF := Lib.hid (first_told HG.out hf hpre (fun e => hz (HE.out.trans e)))
      have hb : (E != 0) = true := by simpa using hz
      clear hz hf hpre
      gi_wp2_with fail
      refine ⟨trivial, ?_⟩
      gi_at_call 14
      refine (CallsIn.inRound l (callsIn_wide.2 (name_any _ _))).mono ?_
      rintro e w1 ⟨rfl, rfl⟩
      rw [← HE.out]
      gi_wp2_with fail
      refine And.intro (HKO.out _) (Exists.intro (if 8 < m then (11 : Int) else 0) ?_)
      rw [← HF.out, ← HE.out]
      exact HI.out.res E

set_option maxRecDepth 100000 in
set_option maxHeartbeats 2000000 in
theorem wrong_any (s : ByteArray) (w : World) : Calls Try.prog 19 #[.string s] w (RetI2 (wrongR s) w) := by
  by_cases hbad : s = ⟨#[]⟩ ∨ ¬ s.data[0]! = 47
  · have hE : wrongR s = 6 := by unfold wrongR; rw [if_pos hbad]
    rw [hE]
    clear hE
    have HR : Hid (Gr w (w.alloc (.cells #[.int .i64 6] TCo)) ∧ (w.alloc (.cells #[.int .i64 6] TCo)).cell? ⟨w.heap.size, 0, none⟩ = some (.int .i64 6)) := Lib.hid ⟨(Gr.refl w).alloc (Nat.le_refl _) _, (Blk.new w TCo #[.int .i64 6]).cell 0⟩
    by_cases hs0 : s = ⟨#[]⟩
    · subst hs0
      clear hbad
      go_enter Try.func19, Try.ntmps19
      go_wp2_with fail
      exact bodyPost_ret (v := .int .i64 6) (results_cell_one rfl Try.isAgg24 _ _ ⟨w.heap.size, 0, none⟩ (.int .i64 6) rfl HR.out.2) rfl ⟨rfl, HR.out.1⟩
    · have h47 := hbad.resolve_left hs0
      obtain ⟨hq1, hq2⟩ := text_ne (l := []) hs0
      have hsz : 1 ≤ s.size := by
        have : s.size ≠ 0 := fun e => hs0 (bys_inj (List.eq_nil_of_length_eq_zero (by rw [bys_len]; exact e)))
        omega
      have hq3 : (!s.toList.isEmpty) = true := by simpa using hq2
      have hv : ((s[0].toNat : Int) != 47) = true := by
        have h5 : ¬ s[0] = 47 := by rw [← bang s 0 hsz]; exact h47
        have := u8_not h5
        simpa using this
      clear hbad hs0 h47
      go_enter Try.func19, Try.ntmps19
      go_wp2_with fail
      exact bodyPost_ret (v := .int .i64 6) (results_cell_one rfl Try.isAgg24 _ _ ⟨w.heap.size, 0, none⟩ (.int .i64 6) rfl HR.out.2) rfl ⟨rfl, HR.out.1⟩
  · by_cases h128 : 128 < s.size
    · have hE : wrongR s = 11 := by unfold wrongR; rw [if_neg hbad, if_pos h128]
      rw [hE]
      clear hE
      have HR : Hid (Gr w (w.alloc (.cells #[.int .i64 11] TCo)) ∧ (w.alloc (.cells #[.int .i64 11] TCo)).cell? ⟨w.heap.size, 0, none⟩ = some (.int .i64 11)) := Lib.hid ⟨(Gr.refl w).alloc (Nat.le_refl _) _, (Blk.new w TCo #[.int .i64 11]).cell 0⟩
      rw [not_or, Decidable.not_not] at hbad
      obtain ⟨hq1, hq2⟩ := text_ne (l := []) hbad.1
      have hsz : 1 ≤ s.size := by omega
      have hq3 : (!s.toList.isEmpty) = true := by simpa using hq2
      have hv : ((s[0].toNat : Int) != 47) = false := by
        have h5 : s[0] = 47 := by rw [← bang s 0 hsz]; exact hbad.2
        have := u8_is h5
        simpa using this
      clear hbad
      go_enter Try.func19, Try.ntmps19
      go_wp2_with fail
      exact bodyPost_ret (v := .int .i64 11) (results_cell_one rfl Try.isAgg24 _ _ ⟨w.heap.size, 0, none⟩ (.int .i64 11) rfl HR.out.2) rfl ⟨rfl, HR.out.1⟩
    · rw [not_or, Decidable.not_not] at hbad
      exact wrong_loop s w ⟨hbad.1, hbad.2, h128⟩
end Go.Proofs.Ytiffbkgohlbgeaa
