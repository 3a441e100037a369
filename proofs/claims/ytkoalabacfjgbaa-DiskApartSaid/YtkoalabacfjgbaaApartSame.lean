
/-
  Are two disks the same?
-/
import Derived.Test.YtkoalabacfjgbaaApart1
import Derived.Test.YtkoalabacfjgbaaDisk5
import Derived.Test.YtkoalabacfjgbaaFlowIn
namespace Go.Proofs.Ytkoalabacfjgbaa
open Go.RowKit Go.Maps Go.Shelf
attribute [local go_sem] Oper.semAt_some

theorem wpListIn_store_sec {F : Fence} {n : Nat} {ops : Array Oper} {rest : List Oper} {op : Oper} {a : Act} {w : World} {Q : Exit → Act → World → Prop} (hgd : op.guard = none) (x y : Operand) (ho : op.op = .store TS x y)
    {g : Nat} {old s : Sec} (hb : Blk w g TS (sec old)) (hx : a.eval x = .pointer (some ⟨g, 0, none⟩)) (hy : a.eval y = .agg (sec s))
    (h : wpListIn F n Try.prog ops Q rest (a.put op.dst undef) (w.setRow g (sec s))) : wpListIn F n Try.prog ops Q (op :: rest) a w := by
  refine wpListIn_plain hgd fun K hK => ?_
  unfold Oper.wpIn
  refine ⟨?_, ?_⟩
  · simp [Oper.about, ho]
  · rw [Oper.semAt_plain F _ _ (by rw [ho]; intro c hc'; cases hc')]
    have hs := run_storeVar_row (P := Try.prog) w g TS TS (sec old) (sec s) hb (by rw [sec_size]; exact size_sec) (by rw [sec_size, sec_size]) (sec_one s)
    unfold execOp
    simp only [ho, hx, hy, Instr.storeAt, Instr.sureAddr, Sem.run_bind, Sem.run_pure, Result.andThen_ok, hs]
    exact hK _ _ h

abbrev TPD : TypeId := 29
abbrev TBo : TypeId := 4
/-- Are two disks the same, sector by sector? -/
def sameS (s t : St) : Bool := decide (s.ls = t.ls) && decide (∀ i, i < s.ls.length → s.nw i = t.nw i)

/-- What turns no cells keeps them. -/
theorem hold_grown {W W' : World} {row : Option Nat} (g : W.grownBy W' row) (hr : ∀ r, row = some r → ∃ o : Obj, W.heap[r]? = some o ∧ o.isCells = false) : HoldS Obj.isCells (fun _ => True) W W' :=
  ⟨g.size, fun k o _ hk hc => (g.block k (Array.getElem?_eq_some_iff.1 hk).1 (fun e => by
    obtain ⟨o2, h1, h2⟩ := hr k e.symm
    rw [hk] at h1
    cases h1
    rw [hc] at h2
    cases h2)).trans hk⟩
theorem Blk.held {W W' : World} {g : Nat} {t : TypeId} {cs : Array Value} (h : Blk W g t cs) (k : HoldS Obj.isCells (fun _ => True) W W') : Blk W' g t cs := k.same g _ trivial h rfl
theorem results_cell_one {fn : Func} {p : Tmp} {ty : TypeId} (h : fn.results = #[.cell p ty]) (ha : ∀ w, (isAgg ty).run Try.prog w = .ok false w) (tmps : Array Value) (w : World) (a : Addr) (v : Value) (hp : tmps.getD p undef = .pointer (some a)) (hc : w.cell? a = some v) : (results fn tmps).run Try.prog w = .ok v w := by
  simp only [results, h]
  simp [-Array.getD_eq_getD_getElem?, Sem.run_bind, Result.andThen, hp, asAddr, loadVar, ha, hc]

/-- What lies there while the sectors are compared. -/
structure SmAt (w : World) (p' : Value) (r : Bool) (W : World) : Prop where
  gr : Gr w W
  b3 : Blk W w.heap.size TPD #[p']
  b4 : Blk W (w.heap.size + 1) TBo #[.bool r]
theorem SmAt.up {w : World} {p' : Value} {r : Bool} {W W' : World} (h : SmAt w p' r W) (g : Gr W W') : SmAt w p' r W' := ⟨Gr.trans h.gr g, h.b3.gr g, h.b4.gr g⟩
theorem SmAt.held {w : World} {p' : Value} {r : Bool} {W W' : World} (h : SmAt w p' r W) (g : Gr w W') (k : HoldS Obj.isCells (fun _ => True) W W') : SmAt w p' r W' := ⟨g, h.b3.held k, h.b4.held k⟩
theorem SmAt.res {w : World} {p' : Value} {r : Bool} {W : World} (h : SmAt w p' r W) (r' : Bool) : SmAt w p' r' (W.setCell ⟨w.heap.size + 1, 0, none⟩ (.bool r')) :=
  ⟨h.gr.setCell (p := ⟨w.heap.size + 1, 0, none⟩) (by show w.heap.size ≤ w.heap.size + 1; omega) _, h.b3.far (by show w.heap.size ≠ w.heap.size + 1; omega) _, h.b4.set 0 _⟩
theorem smAt_own {w : World} {p' : Value} {r : Bool} {B : Nat} (hB : w.heap.size ≤ B) (f : List SX → Prop) : OwnFrom B (fun pre W => SmAt w p' r W ∧ f pre) := fun s X Y row hs hg hr =>
  ⟨hs.1.held (Below.grown hs.1.gr hg hs.1.gr.size (fun k e => by have := (hr k e).1; omega)) (hold_grown hg (fun r e => (hr r e).2)), hs.2⟩
theorem SmAt.over {w : World} {p' : Value} {r : Bool} {D : Nat} {W : World} (h : SmAt w p' r W) (hD : w.heap.size ≤ D) (hK : W.heap[D]? = some (.deferred (some []))) : Gr w (W.putObj D (.deferred none)) ∧ (W.putObj D (.deferred none)).cell? ⟨w.heap.size + 1, 0, none⟩ = some (.bool r) := by
  have g := grownBy_putObj' W D (.deferred none)
  have hne : w.heap.size + 1 ≠ D := fun e => by
    have h1 := h.b4
    unfold Blk at h1
    rw [e, hK] at h1
    cases h1
  exact ⟨Below.grown h.gr g h.gr.size (fun j e => by cases e; exact hD), Blk.cell (t := TBo) (cs := #[.bool r]) ((g.block _ h.b4.lt (fun e => hne (Option.some.inj e))).trans h.b4) 0⟩

def SlS3 (_ : Nat) (b : Nat) (c : Nat) (gl : Nat) (cl : Nat) (gm : Nat) (cm : Nat) (N : Nat) (E : Bool) (slot : Nat) (v : Value) (_ : World) : Prop :=
  match slot with
  | 19 | 20 | 21 => v = .pointer (some ⟨b, 0, none⟩)
  | 22 => v = .slice (some ⟨gl, 0, none⟩) N cl
  | 23 | 24 | 25 => v = .pointer (some ⟨c, 0, none⟩)
  | 26 => v = .slice (some ⟨gm, 0, none⟩) N cm
  | 27 => v = .bool E
  | 28 => v = .bool (!E)
  | _ => True

def SlS8 (_ : Nat) (_ : Nat) (c : Nat) (i : Nat) (S : Sec) (T : Sec) (slot : Nat) (v : Value) (_ : World) : Prop :=
  match slot with
  | 33 => v = .agg (sec S)
  | 34 => v = .pointer (some ⟨c, 0, none⟩)
  | 35 => v = .int .i64 (i : Int)
  | 36 => v = .agg (sec T)
  | 37 => v = .bool (!decide (S = T))
  | _ => True

set_option maxRecDepth 100000 in
set_option maxHeartbeats 4000000 in
theorem Same_any {F G : Nat → Prop} {p q : Value} {s t : St} (w : World) (h : Dk w F p s) (k : Dk w G q t) (hl : s.ls.length = t.ls.length) : Calls Try.prog 14 #[p, q] w fun e w' => e = .returned (.bool (sameS s t)) ∧ Gr w w' := by
  obtain ⟨b, lv, m, L, rfl, h⟩ := h
  obtain ⟨c, lw, n, M, rfl, k⟩ := k
  obtain ⟨gl, cl, hlv⟩ := h.lv
  obtain ⟨gm, cm, hlw⟩ := k.lv
  rw [← hl] at hlw
  obtain ⟨N, hN⟩ : ∃ N, N = s.ls.length := ⟨_, rfl⟩
  rw [← hN] at hlv hlw
  subst hlv hlw
  have HNS : Hid (N = s.ls.length ∧ N = t.ls.length) := Lib.hid ⟨hN, by omega⟩
  have hN6 : N ≤ 65536 := by have := h.ok.most; omega
  have hN0 : 0 < N := by have := h.ok.pos; omega
  have HD := Lib.hid h
  have HE := Lib.hid k
  clear hN hl h k
  refine (callsIn_wide (n := 8)).1 ?_
  refine callsIn_of_wp_marks Try.func14 rfl trivial ?_ rfl
  simp only [Try.ntmps14, List.size_toArray, List.length_cons, List.length_nil, Nat.reduceAdd, Nat.reduceSub, Array.replicate_succ, Array.replicate_zero, List.push_toArray, List.append_toArray, List.nil_append, List.cons_append]
  gi_wp2_with fail
  obtain ⟨V0, hV0⟩ : ∃ V0, V0 = ((w.alloc (.cells #[.pointer (some ⟨c, 0, none⟩)] TPD)).alloc (.cells #[.bool false] TBo)) := ⟨_, rfl⟩
  have H0 : Hid (SmAt w (.pointer (some ⟨c, 0, none⟩)) false V0) := Lib.hid (by
    rw [hV0]
    have h1 := Blk.new w TPD #[.pointer (some ⟨c, 0, none⟩)]
    have h2 := Blk.new (w.alloc (.cells #[.pointer (some ⟨c, 0, none⟩)] TPD)) TBo #[.bool false]
    simp only [World.size_alloc] at h2
    exact ⟨Gr.trans (Gr.new _ _) (Gr.new _ _), h1.gr (Gr.new _ _), h2⟩)
  have hV0' : ((w.alloc (.cells #[.pointer (some ⟨c, 0, none⟩)] 29)).alloc (.cells #[.bool false] 4)) = V0 := hV0.symm
  rw [hV0']
  clear hV0 hV0'
  have n3 := H0.out.b3.cell 0
  simp at n3
  refine ⟨trivial, ?_⟩
  refine (callsIn_wide.2 (missing_no V0 (HD.out.gr H0.out.gr))).mono ?_
  rintro e w1 ⟨rfl, rfl⟩
  gi_wp2_with fail
  refine ⟨trivial, ?_⟩
  refine (callsIn_wide.2 (missing_no V0 (HE.out.gr H0.out.gr))).mono ?_
  rintro e w1 ⟨rfl, rfl⟩
  obtain ⟨E, hE⟩ : ∃ E, E = decide (s.ls = t.ls) := ⟨_, rfl⟩
  have HEQ : Hid (∀ W, Gr V0 W → Calls Try.prog 34 #[.slice (some ⟨gl, 0, none⟩) N cl, .slice (some ⟨gm, 0, none⟩) N cm] W fun e w' => e = .returned (.bool E) ∧ Gr W w') := Lib.hid fun W gr => by
    rw [hE]
    have g0 := Gr.trans H0.out.gr gr
    exact Equal_any W _ _ s.ls t.ls (HD.out.gr g0).ls (HE.out.gr g0).ls (by have := HNS.out; omega) (by have := HNS.out; omega) (by have := HNS.out; omega)
  have HFA : Hid (∀ W, Gr V0 W → W.cell? ⟨w.heap.size, 0, none⟩ = some (.pointer (some ⟨c, 0, none⟩)) ∧ W.cell? ⟨b, 0, none⟩ = some (.slice (some ⟨gl, 0, none⟩) N cl) ∧ W.cell? ⟨c, 0, none⟩ = some (.slice (some ⟨gm, 0, none⟩) N cm)) := Lib.hid fun W gr => by
    have g0 := Gr.trans H0.out.gr gr
    exact ⟨(H0.out.up gr).b3.cell 0, (HD.out.gr g0).blk.cell 0, (HE.out.gr g0).blk.cell 0⟩
  have HEE := Lib.hid hE
  clear n3 hE
  gi_wp2_with fail
  refine wpIn_wide.2 ?_
  refine Flow.region (SlS3 w.heap.size b c gl cl gm cm N E) (Gr V0) (fun _ _ => True) (by kernel_rfl) (by kernel_rfl) (fun _ _ _ _ h _ => h) ⟨rfl, rfl, rfl, Nat.le_refl _, fun _ _ => rfl⟩ ?steps ?fin
  case steps =>
    refine Flow.Steps.cons (fun a W hfr hinv hdep K hK => ?_) ?_
    · have s0 : a.tmps.getD 0 undef = .pointer (some ⟨b, 0, none⟩) := hfr.at 0 (by kernel_rfl)
      have t0 : a.tmps[0]?.getD undef = .pointer (some ⟨b, 0, none⟩) := by simpa using s0
      rw [if_pos (Flow.wanted_none rfl)]
      clear hfr hdep
      go_simp
      exact hK _ _ True.intro hinv (fun d hd => by cases hd; trivial)
    refine Flow.Steps.cons (fun a W hfr hinv hdep K hK => ?_) ?_
    · have s19 : a.tmps.getD 19 undef = .pointer (some ⟨b, 0, none⟩) := hdep 19 (by kernel_rfl)
      have t19 : a.tmps[19]?.getD undef = .pointer (some ⟨b, 0, none⟩) := by simpa using s19
      rw [if_pos (Flow.wanted_none rfl)]
      clear hfr hdep
      go_simp
      exact hK _ _ True.intro hinv (fun d hd => by cases hd; trivial)
    refine Flow.Steps.cons (fun a W hfr hinv hdep K hK => ?_) ?_
    · have s20 : a.tmps.getD 20 undef = .pointer (some ⟨b, 0, none⟩) := hdep 20 (by kernel_rfl)
      have t20 : a.tmps[20]?.getD undef = .pointer (some ⟨b, 0, none⟩) := by simpa using s20
      rw [if_pos (Flow.wanted_none rfl)]
      clear hfr hdep
      go_simp
      exact hK _ _ True.intro hinv (fun d hd => by cases hd; trivial)
    refine Flow.Steps.cons (fun a W hfr hinv hdep K hK => ?_) ?_
    · have s21 : a.tmps.getD 21 undef = .pointer (some ⟨b, 0, none⟩) := hdep 21 (by kernel_rfl)
      have t21 : a.tmps[21]?.getD undef = .pointer (some ⟨b, 0, none⟩) := by simpa using s21
      obtain ⟨n3, n0, m0⟩ := HFA.out W hinv
      rw [if_pos (Flow.wanted_none rfl)]
      clear hfr hdep
      go_simp
      exact hK _ _ True.intro hinv (fun d hd => by cases hd; trivial)
    refine Flow.Steps.cons (fun a W hfr hinv hdep K hK => ?_) ?_
    · have s3 : a.tmps.getD 3 undef = .pointer (some ⟨w.heap.size, 0, none⟩) := hfr.at 3 (by kernel_rfl)
      have t3 : a.tmps[3]?.getD undef = .pointer (some ⟨w.heap.size, 0, none⟩) := by simpa using s3
      obtain ⟨n3, n0, m0⟩ := HFA.out W hinv
      rw [if_pos (Flow.wanted_none rfl)]
      clear hfr hdep
      go_simp
      exact hK _ _ True.intro hinv (fun d hd => by cases hd; trivial)
    refine Flow.Steps.cons (fun a W hfr hinv hdep K hK => ?_) ?_
    · have s23 : a.tmps.getD 23 undef = .pointer (some ⟨c, 0, none⟩) := hdep 23 (by kernel_rfl)
      have t23 : a.tmps[23]?.getD undef = .pointer (some ⟨c, 0, none⟩) := by simpa using s23
      rw [if_pos (Flow.wanted_none rfl)]
      clear hfr hdep
      go_simp
      exact hK _ _ True.intro hinv (fun d hd => by cases hd; trivial)
    refine Flow.Steps.cons (fun a W hfr hinv hdep K hK => ?_) ?_
    · have s24 : a.tmps.getD 24 undef = .pointer (some ⟨c, 0, none⟩) := hdep 24 (by kernel_rfl)
      have t24 : a.tmps[24]?.getD undef = .pointer (some ⟨c, 0, none⟩) := by simpa using s24
      rw [if_pos (Flow.wanted_none rfl)]
      clear hfr hdep
      go_simp
      exact hK _ _ True.intro hinv (fun d hd => by cases hd; trivial)
    refine Flow.Steps.cons (fun a W hfr hinv hdep K hK => ?_) ?_
    · have s25 : a.tmps.getD 25 undef = .pointer (some ⟨c, 0, none⟩) := hdep 25 (by kernel_rfl)
      have t25 : a.tmps[25]?.getD undef = .pointer (some ⟨c, 0, none⟩) := by simpa using s25
      obtain ⟨n3, n0, m0⟩ := HFA.out W hinv
      rw [if_pos (Flow.wanted_none rfl)]
      clear hfr hdep
      go_simp
      exact hK _ _ True.intro hinv (fun d hd => by cases hd; trivial)
    refine Flow.Steps.cons (fun a W hfr hinv hdep K hK => ?_) ?_
    · have s22 : a.tmps.getD 22 undef = .slice (some ⟨gl, 0, none⟩) N cl := hdep 22 (by kernel_rfl)
      have t22 : a.tmps[22]?.getD undef = .slice (some ⟨gl, 0, none⟩) N cl := by simpa using s22
      have s26 : a.tmps.getD 26 undef = .slice (some ⟨gm, 0, none⟩) N cm := hdep 26 (by kernel_rfl)
      have t26 : a.tmps[26]?.getD undef = .slice (some ⟨gm, 0, none⟩) N cm := by simpa using s26
      rw [if_pos (Flow.wanted_none rfl)]
      clear hfr hdep
      go_simp
      refine (HEQ.out W hinv).mono ?_
      rintro e W' ⟨rfl, g1⟩
      exact hK _ _ True.intro (Gr.trans hinv g1) (fun d hd => by cases hd; trivial)
    refine Flow.Steps.cons (fun a W hfr hinv hdep K hK => ?_) ?_
    · have s27 : a.tmps.getD 27 undef = .bool E := hdep 27 (by kernel_rfl)
      have t27 : a.tmps[27]?.getD undef = .bool E := by simpa using s27
      rw [if_pos (Flow.wanted_none rfl)]
      clear hfr hdep
      go_simp
      exact hK _ _ True.intro hinv (fun d hd => by cases hd; trivial)
    exact True.intro
  case fin =>
    intro a W hfr hfin hsl
    have s28 : a.tmps.getD 28 undef = .bool (!E) := hsl 9 _ 28 rfl rfl
    have t28 : a.tmps[28]?.getD undef = .bool (!E) := by simpa using s28
    have e := Flow.frame hfr [19, 20, 21, 22, 23, 24, 25, 26, 27, 28] (List.range 38) (by kernel_rfl) (by kernel_rfl)
    simp [List.range, List.range.loop] at e
    rw [t28] at e
    rw [e]
    clear e hfr hsl s28 t28
    rename_i K2 hK2
    refine hK2 _ _ ?_
    have H3 := Lib.hid (H0.out.up hfin)
    obtain ⟨WC, rfl⟩ : ∃ WC, WC = W := ⟨_, rfl⟩
    clear hfin HEQ HFA
    have n4 := H3.out.b4.cell 0
    have f4 := H3.out.b4.frozen 0
    simp at n4
    cases hEE : E
    · have hf : Hid (sameS s t = false) := Lib.hid (by unfold sameS; rw [← HEE.out, hEE]; rfl)
      subst hEE
      have H4 := Lib.hid (H3.out.res false)
      gi_wp2_with fail
      exact ⟨_, results_cell_one rfl Try.isAgg4 _ _ ⟨w.heap.size + 1, 0, none⟩ (.bool false) rfl (H4.out.b4.cell 0), ret_b hf.out.symm, H4.out.gr⟩
    subst hEE
    have hls : Hid (s.ls = t.ls) := Lib.hid (of_decide_eq_true HEE.out.symm)
    gi_wp2_with fail
    refine ⟨trivial, ?_⟩
    refine (callsIn_wide.2 (each_any _ ⟨_, rfl⟩ WC)).mono ?_
    rintro e W2 ⟨rfl, hW2⟩
    have H5 : Hid (SmAt w (.pointer (some ⟨c, 0, none⟩)) false W2 ∧ Blk W2 WC.heap.size TPD #[.pointer (some ⟨b, 0, none⟩)] ∧ DkAt W2 F b (.slice (some ⟨gl, 0, none⟩) N cl) m L s) := Lib.hid (by
      rw [← hW2]
      exact ⟨H3.out.up (Gr.new _ _), Blk.new _ _ _, (HD.out.gr H3.out.gr).gr (Gr.new _ _)⟩)
    have hWw : w.heap.size + 1 < WC.heap.size := H3.out.b4.lt
    have HSZ : Hid (w.heap.size ≤ W2.heap.size) := Lib.hid H5.out.1.gr.size
    clear hW2 n4 f4 H0 HEE
    gi_wp2_with fail
    refine wpIn_range_told (F := Fence.wide) rfl (by omega) (gf := 39) (lb := #[.pointer (some ⟨WC.heap.size, 0, none⟩)]) rfl trivial (enters_of Try.func39 (by kernel_rfl) rfl)
      (each1_told 7 (by omega) WC.heap.size F b _ m L s W2 H5.out.2.1 H5.out.2.2) (Below.refl _ _) (fun _ => rfl)
      (fun pre V => SmAt w (.pointer (some ⟨c, 0, none⟩)) false V ∧ ∀ i, i < pre.length → s.nw i = t.nw i) (fun _ V => SmAt w (.pointer (some ⟨c, 0, none⟩)) false V ∧ ∃ i, i < N ∧ s.nw i ≠ t.nw i) (smAt_own HSZ.out _) (smAt_own HSZ.out _) ⟨H5.out.1, fun i hi => by simp at hi⟩
      (fun pre x o V => x.1 < N ∧ x.1 = pre.length ∧ x.2 = s.nw x.1 ∧ ∃ R, w.heap.size + 1 < R ∧ Blk V R TS (sec x.2) ∧ o = ({ tmps := #[.pointer (some ⟨b, 0, none⟩), .pointer (some ⟨c, 0, none⟩), undef, .pointer (some ⟨w.heap.size, 0, none⟩), .pointer (some ⟨w.heap.size + 1, 0, none⟩), .int .i64 (x.1 : Int), .pointer (some ⟨R, 0, none⟩), .pointer (some ⟨b, 0, none⟩), .bool false, .bool false, .pointer (some ⟨c, 0, none⟩), .bool false, .bool false, undef, undef, undef, undef, undef, undef, a.tmps[19]?.getD undef, a.tmps[20]?.getD undef, a.tmps[21]?.getD undef, a.tmps[22]?.getD undef, a.tmps[23]?.getD undef, a.tmps[24]?.getD undef, a.tmps[25]?.getD undef, a.tmps[26]?.getD undef, a.tmps[27]?.getD undef, .bool false, .pointer (some ⟨b, 0, none⟩), .func (.func 39) #[] #[.pointer (some ⟨WC.heap.size, 0, none⟩)], .int .i64 (x.1 : Int), .agg (sec x.2), undef, undef, undef, undef, undef], defers := [] } : Act)) ?hAx ?assign ?body ?done ?stop
    case assign =>
      rintro l pre x V K hi hx hK
      have HX := Lib.hid hx
      clear hx
      have HZ := Lib.hid (Blk.new V TS (sec Sec.zero))
      have hz := zero_sec
      gi_wp2_with (refine wpListIn_store_sec rfl (.tmp 6) (.tmp 32) rfl HZ.out rfl rfl ?_)
      have gn : Gr V ((V.alloc (.cells (sec Sec.zero) TS)).setRow V.heap.size (sec x.2)) := below_setRow (Gr.new V (.cells (sec Sec.zero) TS)) (Nat.le_refl _) (sec x.2)
      refine hK _ _ ((⟨gn.size, fun k o hk _ => (gn.block k (Array.getElem?_eq_some_iff.1 hk).1).trans hk⟩ : KeepsOthers V _).from _) ⟨gn.size, fun k o _ h1 _ => (gn.block k (Array.getElem?_eq_some_iff.1 h1).1).trans h1⟩ ⟨hi.1.up gn, hi.2⟩ ⟨by have := HNS.out; have := HX.out.2.1; omega, HX.out.1, HX.out.2.2, V.heap.size, hi.1.b4.lt, HZ.out.row _, rfl⟩
    case hAx =>
      rintro pre x o z X Y row ⟨h1, h2, h3, R, h4, h5, h6⟩ hg hr
      exact ⟨h1, h2, h3, R, h4, h5.held (hold_grown hg (fun r e => (hr r e).2)), h6⟩
    case done =>
      rintro D ys V hD hS hi hK
      have hDw : w.heap.size ≤ D := Nat.le_trans HSZ.out hD
      have hy : Hid (sameS s t = true) := Lib.hid (by
        unfold sameS
        rw [Bool.and_eq_true]
        refine ⟨by simp [hls.out], decide_eq_true fun i h => hi.2 i ?_⟩
        rw [hS]
        simpa using h)
      have n4 := hi.1.b4.cell 0
      have f4 := hi.1.b4.frozen 0
      simp at n4
      have hi2 := hi.1.res true
      have hK2 := (KeepsOthers.setCell V ⟨w.heap.size + 1, 0, none⟩ (.bool true)).same D _ hK rfl
      gi_wp2_with fail
      refine ⟨by simp, .inl ⟨_, _, rfl, run_takeDeferred hK2, ?_⟩⟩
      exact ⟨_, results_cell_one rfl Try.isAgg4 _ _ ⟨w.heap.size + 1, 0, none⟩ (.bool true) rfl (hi2.over hDw hK2).2, ret_b hy.out.symm, (hi2.over hDw hK2).1⟩
    case stop =>
      rintro D pre V hD _ ⟨hi, i0, hi0, hne⟩ hK
      have hDw : w.heap.size ≤ D := Nat.le_trans HSZ.out hD
      have hy : Hid (sameS s t = false) := Lib.hid (by
        unfold sameS
        rw [Bool.and_eq_false_iff]
        exact .inr (decide_eq_false fun h => hne (h i0 (by have := HNS.out; omega))))
      gi_wp2_with fail
      refine ⟨by simp, .inl ⟨_, _, rfl, run_takeDeferred hK, ?_⟩⟩
      exact ⟨_, results_cell_one rfl Try.isAgg4 _ _ ⟨w.heap.size + 1, 0, none⟩ (.bool false) rfl (hi.over hDw hK).2, ret_b hy.out.symm, (hi.over hDw hK).1⟩
    case body =>
      rintro l pre x o W8 hlw hi ⟨hx1, hx2, hx3, R, hR, hbR, rfl⟩
      obtain ⟨i, S⟩ := x
      simp only at hx1 hx2 hx3 hbR
      obtain ⟨T, hT⟩ : ∃ T, T = t.nw i := ⟨_, rfl⟩
      have HX8 : Hid (∀ V, Gr W8 V → V.rangeAt R 0 S.cells) := Lib.hid fun V gr => (hbR.gr gr).one
      have HF8 : Hid (∀ V, Gr W8 V → V.cell? ⟨w.heap.size, 0, none⟩ = some (.pointer (some ⟨c, 0, none⟩))) := Lib.hid fun V gr => (hi.1.up gr).b3.cell 0
      have HNW : Hid (∀ V, Gr W8 V → Calls Try.prog 35 #[.pointer (some ⟨c, 0, none⟩), .int .i64 (i : Int)] V fun e w' => e = .returned (.agg (sec T)) ∧ Gr V w') := Lib.hid fun V gr => by
        rw [hT]
        exact newest_any V ((HE.out.gr hi.1.gr).gr gr) i (by have := HNS.out; omega)
      have HI := Lib.hid hi
      have HST : Hid (S = s.nw i ∧ T = t.nw i ∧ i = pre.length) := Lib.hid ⟨hx3, hT, hx2⟩
      clear hi hbR hx2 hx3 hT
      gi_wp2_with fail
      refine Flow.regionIn l _ (SlS8 w.heap.size R c i S T) (Gr W8) (fun _ _ => True) (by kernel_rfl) (by kernel_rfl) (by kernel_rfl) (fun _ _ _ _ h _ => h) ⟨rfl, rfl, rfl, Nat.le_refl _, fun _ _ => rfl⟩ ?steps ?fin
      case steps =>
        refine Flow.Steps.cons (fun a W hfr hinv hdep K hK => ?_) ?_
        · have s6 : a.tmps.getD 6 undef = .pointer (some ⟨R, 0, none⟩) := hfr.at 6 (by kernel_rfl)
          have t6 : a.tmps[6]?.getD undef = .pointer (some ⟨R, 0, none⟩) := by simpa using s6
          rw [if_pos (Flow.wanted_none rfl)]
          clear hfr hdep
          refine wp_load_sec (.tmp 6) rfl (HX8.out W hinv) (by simpa [Act.eval] using s6) ?_
          exact hK _ _ True.intro hinv (fun d hd => by cases hd; trivial)
        refine Flow.Steps.cons (fun a W hfr hinv hdep K hK => ?_) ?_
        · have s3 : a.tmps.getD 3 undef = .pointer (some ⟨w.heap.size, 0, none⟩) := hfr.at 3 (by kernel_rfl)
          have t3 : a.tmps[3]?.getD undef = .pointer (some ⟨w.heap.size, 0, none⟩) := by simpa using s3
          have n3 := HF8.out W hinv
          rw [if_pos (Flow.wanted_none rfl)]
          clear hfr hdep
          go_simp
          exact hK _ _ True.intro hinv (fun d hd => by cases hd; trivial)
        refine Flow.Steps.cons (fun a W hfr hinv hdep K hK => ?_) ?_
        · have s5 : a.tmps.getD 5 undef = .int .i64 (i : Int) := hfr.at 5 (by kernel_rfl)
          have t5 : a.tmps[5]?.getD undef = .int .i64 (i : Int) := by simpa using s5
          rw [if_pos (Flow.wanted_none rfl)]
          clear hfr hdep
          go_simp
          exact hK _ _ True.intro hinv (fun d hd => by cases hd; trivial)
        refine Flow.Steps.cons (fun a W hfr hinv hdep K hK => ?_) ?_
        · have s34 : a.tmps.getD 34 undef = .pointer (some ⟨c, 0, none⟩) := hdep 34 (by kernel_rfl)
          have t34 : a.tmps[34]?.getD undef = .pointer (some ⟨c, 0, none⟩) := by simpa using s34
          have s35 : a.tmps.getD 35 undef = .int .i64 (i : Int) := hdep 35 (by kernel_rfl)
          have t35 : a.tmps[35]?.getD undef = .int .i64 (i : Int) := by simpa using s35
          rw [if_pos (Flow.wanted_none rfl)]
          clear hfr hdep
          go_simp
          refine (HNW.out W hinv).mono ?_
          rintro e W' ⟨rfl, g1⟩
          exact hK _ _ True.intro (Gr.trans hinv g1) (fun d hd => by cases hd; trivial)
        refine Flow.Steps.cons (fun a W hfr hinv hdep K hK => ?_) ?_
        · have s33 : a.tmps.getD 33 undef = .agg (sec S) := hdep 33 (by kernel_rfl)
          have t33 : a.tmps[33]?.getD undef = .agg (sec S) := by simpa using s33
          have s36 : a.tmps.getD 36 undef = .agg (sec T) := hdep 36 (by kernel_rfl)
          have t36 : a.tmps[36]?.getD undef = .agg (sec T) := by simpa using s36
          have hq := eqi_sec
          rw [if_pos (Flow.wanted_none rfl)]
          clear hfr hdep
          go_simp
          exact hK _ _ True.intro hinv (fun d hd => by cases hd; trivial)
        exact True.intro
      case fin =>
        intro a W hfr hfin hsl
        have s37 : a.tmps.getD 37 undef = .bool (!decide (S = T)) := hsl 4 _ 37 rfl rfl
        have t37 : a.tmps[37]?.getD undef = .bool (!decide (S = T)) := by simpa using s37
        have e := Flow.frame hfr [33, 34, 35, 36, 37] (List.range 38) (by kernel_rfl) (by kernel_rfl)
        simp [List.range, List.range.loop] at e
        rw [t37] at e
        rw [e]
        clear e hfr hsl s37 t37
        rename_i K2 hK2
        refine hK2 _ _ ?_
        have HI9 := Lib.hid (HI.out.1.up hfin)
        have hko : KeepsOthers W8 W := ⟨hfin.size, fun k o hk _ => (hfin.block k (Array.getElem?_eq_some_iff.1 hk).1).trans hk⟩
        have HKO := Lib.hid hko
        have HHS : Hid (HoldS firm (fun k => F k ∨ k = WC.heap.size) W8 W) := Lib.hid ⟨hfin.size, fun k o _ h1 _ => (hfin.block k (Array.getElem?_eq_some_iff.1 h1).1).trans h1⟩
        have n4 := HI9.out.b4.cell 0
        have f4 := HI9.out.b4.frozen 0
        simp at n4
        clear hfin hko
        cases hd : decide (S = T)
        · have hne := of_decide_eq_false hd
          have HNE : Hid (s.nw i ≠ t.nw i) := Lib.hid (by rw [← HST.out.1, ← HST.out.2.1]; exact hne)
          clear hd hne
          gi_wp2_with fail
          exact And.intro ((HKO.out.trans (KeepsOthers.setCell _ _ _)).from _) (And.intro (HI9.out.res false) ⟨i, hx1, HNE.out⟩)
        · have he := of_decide_eq_true hd
          have HEQ2 : Hid (∀ j, j < (pre ++ [(i, S)]).length → s.nw j = t.nw j) := Lib.hid fun j hj => by
            by_cases hjp : j < pre.length
            · exact HI.out.2 j hjp
            · have : j = i := by have := HST.out.2.2; simp at hj; omega
              rw [this, ← HST.out.1, ← HST.out.2.1]
              exact he
          clear hd he
          gi_wp2_with fail
          exact And.intro (HKO.out.from _) (And.intro HHS.out (And.intro HI9.out HEQ2.out))

end Go.Proofs.Ytkoalabacfjgbaa
