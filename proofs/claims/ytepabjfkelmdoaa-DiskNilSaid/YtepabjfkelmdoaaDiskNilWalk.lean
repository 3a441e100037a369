/-
  The law DiskNil, walked.
-/
import Derived.Test.YtepabjfkelmdoaaSeq
import Derived.Test.YtepabjfkelmdoaaKnown3
import Derived.Test.YtepabjfkelmdoaaRefWrite
import Derived.LoopNIn
namespace Go.Proofs.Ytepabjfkelmdoaa
open Go.RowKit Go.Maps Go.Shelf
attribute [local go_sem] Oper.semAt_some

theorem wpListIn_store_sec {F : Fence} {n : Nat} {ops : Array Oper} {rest : List Oper} {op : Oper} {a : Act} {w : World} {Q : Exit → Act → World → Prop} (hgd : op.guard = none) (x y : Operand) (ho : op.op = .store TS x y)
    {g : Nat} {old s : Sec} (hb : Blk w g TS (sec old)) (hx : a.eval x = .pointer (some ⟨g, 0, none⟩)) (hy : a.eval y = .agg (sec s))
    (h : wpListIn F n Try.prog ops Q rest (a.put op.dst undef) (w.setRow g (sec s))) : wpListIn F n Try.prog ops Q (op :: rest) a w := by
  refine wpListIn_plain hgd fun K hK => ?_
  unfold Oper.wpIn
  refine ⟨?_, ?_⟩
  · simp [Oper.about, ho]
  · rw [Oper.semAt_plain F _ _ (by rw [ho]; intro c hc'; cases hc')]
    have hs := run_storeVar_row (P := Try.prog) w g TS TS (sec old) (sec s) hb (by rw [sec_size]; exact size_sec) (by rw [sec_size, sec_size]) (sec_one s)
    unfold execOp
    simp only [ho, hx, hy, Instr.storeAt, Instr.sureAddr, Sem.run_bind, Sem.run_pure, Result.andThen_ok, hs]
    exact hK _ _ h

/-- What lies there all the while. -/
structure NilAt (w W : World) (Ds : List Nat) : Prop where
  gr : Gr w W
  res : Blk W w.heap.size 4 #[.bool false]
  z : Blk W (w.heap.size + 1) TD #[.slice none 0 0, .map none, .int .i64 0, .bool false, .int .i64 0]
  l : Blk W (w.heap.size + 1 + 1) 24 #[.pointer none, .pointer (some ⟨w.heap.size + 1, 0, none⟩)]
  ds : ∀ D ∈ Ds, W.heap[D]? = some (.deferred (some []))
  lo : ∀ D ∈ Ds, w.heap.size ≤ D
theorem NilAt.lt {w W : World} {Ds : List Nat} (h : NilAt w W Ds) {D : Nat} (hD : D ∈ Ds) : D < W.heap.size := (Array.getElem?_eq_some_iff.1 (h.ds D hD)).1
theorem NilAt.up {w W W' : World} {Ds : List Nat} (h : NilAt w W Ds) (g : Gr W W') : NilAt w W' Ds := ⟨Gr.trans h.gr g, h.res.gr g, h.z.gr g, h.l.gr g, fun D hD => (g.block D (h.lt hD)).trans (h.ds D hD), h.lo⟩
theorem NilAt.more {w W : World} {Ds : List Nat} (h : NilAt w W Ds) {D : Nat} (hD : W.heap[D]? = some (.deferred (some []))) (hl : w.heap.size ≤ D) : NilAt w W (D :: Ds) := ⟨h.gr, h.res, h.z, h.l, fun E hE => by
  rcases List.mem_cons.1 hE with rfl | hE
  · exact hD
  · exact h.ds E hE, fun E hE => by
  rcases List.mem_cons.1 hE with rfl | hE
  · exact hl
  · exact h.lo E hE⟩
theorem NilAt.gone {w W : World} {Ds : List Nat} (h : NilAt w W Ds) : Gone W (.pointer (some ⟨w.heap.size + 1, 0, none⟩)) := .inr ⟨_, rfl, h.z⟩
theorem NilAt.none {w W : World} {Ds : List Nat} (_ : NilAt w W Ds) : Gone W (.pointer .none) := .inl rfl

set_option maxRecDepth 100000 in
set_option maxHeartbeats 8000000 in
theorem diskNil_walk (w : World) : Calls Try.prog 7 #[] w fun e w' => RetTrue w e w' := by
  refine (callsIn_wide (n := 8)).1 ?_
  refine callsIn_of_wp_marks Try.func7 rfl trivial ?_ rfl
  simp only [Try.ntmps7, List.size_toArray, List.length_nil, Nat.reduceSub, Array.replicate_succ, Array.replicate_zero, List.push_toArray, List.append_toArray, List.nil_append, List.cons_append]
  gi_wp2_with fail
  obtain ⟨W0, hW0⟩ : ∃ W0, W0 = (((w.alloc (.cells #[.bool false] 4)).alloc (.cells #[.slice none 0 0, .map none, .int .i64 0, .bool false, .int .i64 0] TD)).alloc (.cells #[.pointer none, .pointer (some ⟨w.heap.size + 1, 0, none⟩)] 24)) := ⟨_, rfl⟩
  have HN : Hid (NilAt w W0 []) := Lib.hid (by
    rw [hW0]
    have h1 := Blk.new w 4 #[.bool false]
    have h2 := Blk.new (w.alloc (.cells #[.bool false] 4)) TD #[.slice none 0 0, .map none, .int .i64 0, .bool false, .int .i64 0]
    have h3 := Blk.new ((w.alloc (.cells #[.bool false] 4)).alloc (.cells #[.slice none 0 0, .map none, .int .i64 0, .bool false, .int .i64 0] TD)) 24 #[.pointer none, .pointer (some ⟨w.heap.size + 1, 0, none⟩)]
    have e1 : (w.alloc (.cells #[.bool false] 4)).heap.size = w.heap.size + 1 := by simp
    have e2 : ((w.alloc (.cells #[.bool false] 4)).alloc (.cells #[.slice none 0 0, .map none, .int .i64 0, .bool false, .int .i64 0] TD)).heap.size = w.heap.size + 1 + 1 := by simp
    rw [e1] at h2
    rw [e2] at h3
    exact ⟨((Gr.new w _).trans ((Gr.new _ _).trans (Gr.new _ _))), (h1.gr (Gr.new _ _)).gr (Gr.new _ _), h2.gr (Gr.new _ _), h3, (fun D hD => by cases hD), fun D hD => by cases hD⟩)
  rw [← hW0]
  clear hW0
  refine wpIn_loop_rounds 3 ?_
  rw [roundsIn_succ]
  have hl := HN.out.l.cell 0
  simp at hl
  gi_wp2_with fail
  clear hl
  refine ⟨trivial, ?_⟩
  refine (callsIn_wide.2 (Fuse_gone (.pointer none) _ HN.out.none 1)).mono ?_
  rintro e W1 ⟨rfl, rfl⟩
  gi_wp2_with fail
  refine ⟨trivial, ?_⟩
  refine (callsIn_wide.2 (Read_gone (.pointer none) _ HN.out.none 0)).mono ?_
  rintro e W1 ⟨rfl, g1⟩
  have HN := Lib.hid (HN.out.up g1)
  clear g1
  have HZe := Lib.hid (Blk.new W1 TS (sec Sec.zero))
  have hz := zero_sec
  have HN := Lib.hid (HN.out.up (below_setRow (Gr.new W1 (.cells (sec Sec.zero) TS)) (Nat.le_refl _) (sec Sec.zero)))
  gi_wp2_with (refine wpListIn_store_sec rfl (.tmp 5) (.tmp 23) rfl HZe.out rfl rfl ?_)
  clear HZe
  have hbz := run_build_zero
  generalize ((W1.alloc (.cells (sec Sec.zero) TS)).setRow W1.heap.size (sec Sec.zero)) = W2 at HN ⊢
  refine ⟨trivial, ?_⟩
  refine (callsIn_wide.2 (Write_gone (.pointer none) _ HN.out.none 0 Sec.zero)).mono ?_
  rintro e W1 ⟨rfl, g1⟩
  have HN := Lib.hid (HN.out.up g1)
  clear g1
  gi_wp2_with fail
  refine ⟨trivial, ?_⟩
  refine (callsIn_wide.2 (Barrier_gone (.pointer none) _ HN.out.none)).mono ?_
  rintro e W1 ⟨rfl, rfl⟩
  gi_wp2_with fail
  refine ⟨trivial, ?_⟩
  refine (callsIn_wide.2 (Sectors_gone (.pointer none) _ HN.out.none)).mono ?_
  rintro e W1 ⟨rfl, rfl⟩
  gi_wp2_with fail
  refine ⟨trivial, ?_⟩
  refine (callsIn_wide.2 (Dead_gone (.pointer none) _ HN.out.none)).mono ?_
  rintro e W1 ⟨rfl, rfl⟩
  gi_wp2_with fail
  refine ⟨trivial, ?_⟩
  refine (callsIn_wide.2 (Writes_gone (.pointer none) _ HN.out.none)).mono ?_
  rintro e W1 ⟨rfl, rfl⟩
  gi_wp2_with fail
  refine ⟨trivial, ?_⟩
  refine (callsIn_wide.2 (Loose_gone (.pointer none) _ HN.out.none)).mono ?_
  rintro e W1 ⟨rfl, rfl⟩
  gi_wp2_with fail
  refine ⟨trivial, ?_⟩
  refine (callsIn_wide.2 (Crash_gone (.pointer none) _ HN.out.none (.slice none 0 0))).mono ?_
  rintro e W1 ⟨rfl, rfl⟩
  gi_wp2_with fail
  refine ⟨trivial, ?_⟩
  refine (callsIn_wide.2 (Copy_gone (.pointer none) _ HN.out.none)).mono ?_
  rintro e W1 ⟨rfl, g1⟩
  have HN := Lib.hid (HN.out.up g1)
  clear g1
  gi_wp2_with fail
  refine ⟨trivial, ?_⟩
  refine (callsIn_wide.2 (Same_gone (.pointer none) (.pointer none) _ HN.out.none HN.out.none)).mono ?_
  rintro e W1 ⟨rfl, g1⟩
  have HN := Lib.hid (HN.out.up g1)
  clear g1
  gi_wp2_with fail
  refine ⟨trivial, ?_⟩
  refine (callsIn_wide.2 (All_gone (.pointer none) _ HN.out.none)).mono ?_
  rintro e W1 ⟨k, rfl, g1, _, _⟩
  have HN := Lib.hid (HN.out.up g1)
  clear g1
  gi_wp2_with fail
  rename_i Kc hKc
  refine hKc _ _ ?_
  clear hKc
  gi_wp2_with fail
  refine ⟨trivial, ?_⟩
  refine (callsIn_wide.2 (All_gone (.pointer none) _ HN.out.none)).mono ?_
  rintro e W1 ⟨k2, rfl, g1, hk2, hbk⟩
  have HN := Lib.hid (HN.out.up g1)
  clear g1
  gi_wp2_with fail
  have hcell := hbk.cell 0
  simp at hcell
  have hklt := hbk.lt
  obtain ⟨WA, hWA⟩ : ∃ WA, WA = W1 := ⟨_, rfl⟩
  rw [← hWA] at HN hcell hklt ⊢
  clear hWA hbk hk2 hz hbz
  refine wpIn_rangeFunc_ownF rfl (by omega) (gf := 41) (lb := #[.pointer (some ⟨k2, 0, none⟩)]) rfl trivial (enters_of Try.func41 (by kernel_rfl) rfl)
    (all_stops 7 (by omega) k2 (fun _ _ => True) _ hklt hcell) (fun _ _ => trivial) (fun _ _ _ _ _ _ _ _ => trivial) (Below.refl _ _) (fun x => x.elim)
    (fun _ W' => Below WA.heap.size WA W') (fun _ _ _ => False) (ownFrom_below (Nat.le_refl _) (Nat.le_refl _)) (fun _ _ _ _ _ hs _ _ => hs) (Below.refl _ _) (fun x => x.elim) (fun _ x => x.elim) (fun _ _ x => x.elim) ?done1 (fun _ _ _ _ _ hs _ _ => hs.elim)
  rintro D1 xs WB hD1 rfl hBB hK1
  have HN := Lib.hid ((HN.out.up hBB).more hK1 (Nat.le_trans HN.out.gr.size hD1))
  clear hBB hK1 hD1 hcell hklt
  gi_wp2_with fail
  rw [roundsIn_succ]
  have hl := HN.out.l.cell 1
  simp at hl
  gi_wp2_with fail
  clear hl
  refine ⟨trivial, ?_⟩
  refine (callsIn_wide.2 (Fuse_gone (.pointer (some ⟨w.heap.size + 1, 0, none⟩)) _ HN.out.gone 1)).mono ?_
  rintro e W1 ⟨rfl, rfl⟩
  gi_wp2_with fail
  refine ⟨trivial, ?_⟩
  refine (callsIn_wide.2 (Read_gone (.pointer (some ⟨w.heap.size + 1, 0, none⟩)) _ HN.out.gone 0)).mono ?_
  rintro e W1 ⟨rfl, g1⟩
  have HN := Lib.hid (HN.out.up g1)
  clear g1
  have HZe := Lib.hid (Blk.new W1 TS (sec Sec.zero))
  have hz := zero_sec
  have HN := Lib.hid (HN.out.up (below_setRow (Gr.new W1 (.cells (sec Sec.zero) TS)) (Nat.le_refl _) (sec Sec.zero)))
  gi_wp2_with (refine wpListIn_store_sec rfl (.tmp 5) (.tmp 23) rfl HZe.out rfl rfl ?_)
  clear HZe
  have hbz := run_build_zero
  generalize ((W1.alloc (.cells (sec Sec.zero) TS)).setRow W1.heap.size (sec Sec.zero)) = W2 at HN ⊢
  refine ⟨trivial, ?_⟩
  refine (callsIn_wide.2 (Write_gone (.pointer (some ⟨w.heap.size + 1, 0, none⟩)) _ HN.out.gone 0 Sec.zero)).mono ?_
  rintro e W1 ⟨rfl, g1⟩
  have HN := Lib.hid (HN.out.up g1)
  clear g1
  gi_wp2_with fail
  refine ⟨trivial, ?_⟩
  refine (callsIn_wide.2 (Barrier_gone (.pointer (some ⟨w.heap.size + 1, 0, none⟩)) _ HN.out.gone)).mono ?_
  rintro e W1 ⟨rfl, rfl⟩
  gi_wp2_with fail
  refine ⟨trivial, ?_⟩
  refine (callsIn_wide.2 (Sectors_gone (.pointer (some ⟨w.heap.size + 1, 0, none⟩)) _ HN.out.gone)).mono ?_
  rintro e W1 ⟨rfl, rfl⟩
  gi_wp2_with fail
  refine ⟨trivial, ?_⟩
  refine (callsIn_wide.2 (Dead_gone (.pointer (some ⟨w.heap.size + 1, 0, none⟩)) _ HN.out.gone)).mono ?_
  rintro e W1 ⟨rfl, rfl⟩
  gi_wp2_with fail
  refine ⟨trivial, ?_⟩
  refine (callsIn_wide.2 (Writes_gone (.pointer (some ⟨w.heap.size + 1, 0, none⟩)) _ HN.out.gone)).mono ?_
  rintro e W1 ⟨rfl, rfl⟩
  gi_wp2_with fail
  refine ⟨trivial, ?_⟩
  refine (callsIn_wide.2 (Loose_gone (.pointer (some ⟨w.heap.size + 1, 0, none⟩)) _ HN.out.gone)).mono ?_
  rintro e W1 ⟨rfl, rfl⟩
  gi_wp2_with fail
  refine ⟨trivial, ?_⟩
  refine (callsIn_wide.2 (Crash_gone (.pointer (some ⟨w.heap.size + 1, 0, none⟩)) _ HN.out.gone (.slice none 0 0))).mono ?_
  rintro e W1 ⟨rfl, rfl⟩
  gi_wp2_with fail
  refine ⟨trivial, ?_⟩
  refine (callsIn_wide.2 (Copy_gone (.pointer (some ⟨w.heap.size + 1, 0, none⟩)) _ HN.out.gone)).mono ?_
  rintro e W1 ⟨rfl, g1⟩
  have HN := Lib.hid (HN.out.up g1)
  clear g1
  gi_wp2_with fail
  refine ⟨trivial, ?_⟩
  refine (callsIn_wide.2 (Same_gone (.pointer (some ⟨w.heap.size + 1, 0, none⟩)) (.pointer none) _ HN.out.gone HN.out.none)).mono ?_
  rintro e W1 ⟨rfl, g1⟩
  have HN := Lib.hid (HN.out.up g1)
  clear g1
  gi_wp2_with fail
  refine ⟨trivial, ?_⟩
  refine (callsIn_wide.2 (All_gone (.pointer (some ⟨w.heap.size + 1, 0, none⟩)) _ HN.out.gone)).mono ?_
  rintro e W1 ⟨k, rfl, g1, _, _⟩
  have HN := Lib.hid (HN.out.up g1)
  clear g1
  gi_wp2_with fail
  rename_i Kc hKc
  refine hKc _ _ ?_
  clear hKc
  gi_wp2_with fail
  refine ⟨trivial, ?_⟩
  refine (callsIn_wide.2 (All_gone (.pointer (some ⟨w.heap.size + 1, 0, none⟩)) _ HN.out.gone)).mono ?_
  rintro e W1 ⟨k2, rfl, g1, hk2, hbk⟩
  have HN := Lib.hid (HN.out.up g1)
  clear g1
  gi_wp2_with fail
  have hcell := hbk.cell 0
  simp at hcell
  have hklt := hbk.lt
  obtain ⟨WA, hWA⟩ : ∃ WA, WA = W1 := ⟨_, rfl⟩
  rw [← hWA] at HN hcell hklt ⊢
  clear hWA hbk hk2 hz hbz
  refine wpIn_rangeFunc_ownF rfl (by omega) (gf := 41) (lb := #[.pointer (some ⟨k2, 0, none⟩)]) rfl trivial (enters_of Try.func41 (by kernel_rfl) rfl)
    (all_stops 7 (by omega) k2 (fun _ _ => True) _ hklt hcell) (fun _ _ => trivial) (fun _ _ _ _ _ _ _ _ => trivial) (Below.refl _ _) (fun x => x.elim)
    (fun _ W' => Below WA.heap.size WA W') (fun _ _ _ => False) (ownFrom_below (Nat.le_refl _) (Nat.le_refl _)) (fun _ _ _ _ _ hs _ _ => hs) (Below.refl _ _) (fun x => x.elim) (fun _ x => x.elim) (fun _ _ x => x.elim) ?done2 (fun _ _ _ _ _ hs _ _ => hs.elim)
  rintro D2 xs WB hD2 rfl hBB hK2
  have HNe : Hid (D1 ≠ D2) := Lib.hid (fun e => by have := HN.out.lt (D := D1) (by simp); omega)
  have HN := Lib.hid ((HN.out.up hBB).more hK2 (Nat.le_trans HN.out.gr.size hD2))
  clear hBB hK2 hD2 hcell hklt
  gi_wp2_with fail
  rw [roundsIn_succ]
  gi_wp2_with fail
  refine ⟨trivial, ?_⟩
  refine (callsIn_wide.2 (known_any _)).mono ?_
  rintro e WE ⟨rfl, g1⟩
  have HN := Lib.hid (HN.out.up g1)
  clear g1
  have hr0 := HN.out.res.cell 0
  simp at hr0
  have hf0 := HN.out.res.frozen 0
  gi_wp2_with fail
  clear hr0 hf0
  obtain ⟨WS, hWS⟩ : ∃ WS, WS = WE.setCell ⟨w.heap.size, 0, none⟩ (.bool true) := ⟨_, rfl⟩
  have hset : ∀ k, k ≠ w.heap.size → WS.heap[k]? = WE.heap[k]? := fun k hk => by rw [hWS]; exact Below.heap_setCell _ _ _ k hk
  have hne : ∀ D, WE.heap[D]? = some (.deferred (some [])) → D ≠ w.heap.size := fun D hD e => by
    have h1 := HN.out.res
    unfold Blk at h1
    rw [← e, hD] at h1
    cases h1
  have hd1 := HN.out.ds D1 (by simp)
  have hd2 := HN.out.ds D2 (by simp)
  have hS1 : WS.heap[D1]? = some (.deferred (some [])) := (hset D1 (hne D1 hd1)).trans hd1
  have hS2 : WS.heap[D2]? = some (.deferred (some [])) := (hset D2 (hne D2 hd2)).trans hd2
  have hB : Blk WS w.heap.size 4 #[.bool true] := by
    rw [hWS]
    have := HN.out.res.set 0 (.bool true)
    simpa using this
  have hgs : WS.heap.size = WE.heap.size := by rw [hWS]; simp [World.setCell]
  rw [← hWS]
  have g2 := grownBy_putObj' WS D2 (.deferred none)
  have hT1 : (WS.putObj D2 (.deferred none)).heap[D1]? = some (.deferred (some [])) := (g2.block D1 (Array.getElem?_eq_some_iff.1 hS1).1 (fun e => HNe.out (by cases e; rfl))).trans hS1
  have g3 := grownBy_putObj' (WS.putObj D2 (.deferred none)) D1 (.deferred none)
  have hB2 : Blk (WS.putObj D2 (.deferred none)) w.heap.size 4 #[.bool true] := hB.stays (g2.block _ hB.lt (fun e => hne D2 hd2 (by cases e; rfl)))
  have hB3 : Blk ((WS.putObj D2 (.deferred none)).putObj D1 (.deferred none)) w.heap.size 4 #[.bool true] := hB2.stays (g3.block _ hB2.lt (fun e => hne D1 hd1 (by cases e; rfl)))
  have hGS : Gr w WS := ⟨by rw [hWS]; exact HN.out.gr.os, by rw [hWS]; exact HN.out.gr.tape, by rw [hWS]; exact HN.out.gr.output, by rw [hgs]; exact HN.out.gr.size, fun k hk => (hset k (by omega)).trans (HN.out.gr.block k hk)⟩
  have hGF : Gr w ((WS.putObj D2 (.deferred none)).putObj D1 (.deferred none)) :=
    (hGS.own g2 (fun q e => by cases e; exact HN.out.lo D2 (by simp))).own g3 (fun q e => by cases e; exact HN.out.lo D1 (by simp))
  refine ⟨by simp, .inl ⟨_, _, rfl, run_takeDeferred hS2, ?_⟩⟩
  refine ⟨by simp, .inl ⟨_, _, rfl, run_takeDeferred hT1, ?_⟩⟩
  exact ⟨_, results_cell_one rfl Try.isAgg4 _ _ ⟨w.heap.size, 0, none⟩ (.bool true) rfl (hB3.cell 0), rfl, hGF⟩

end Go.Proofs.Ytepabjfkelmdoaa
