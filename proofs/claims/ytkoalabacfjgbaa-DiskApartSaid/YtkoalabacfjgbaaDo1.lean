
/-
  An act of both: a write.
-/
import Derived.Test.YtkoalabacfjgbaaBoth
import Derived.Test.YtkoalabacfjgbaaFlowU
namespace Go.Proofs.Ytkoalabacfjgbaa
open Go.RowKit Go.Maps

/-- What the first region's slots hold. -/
def Sa (wc : World) (F : Nat → Prop) (bx : Nat) (p : Value) (i : Int) (y : UInt8) (E : Int) (s1 : St) (d : Nat) (v : Value) (w : World) : Prop :=
  match d with
  | 16 => v = p
  | 17 => v = .pointer (some ⟨bx, 1, none⟩)
  | 18 => v = .int .i64 i
  | 19 => v = .pointer (some ⟨bx, 3, none⟩)
  | 20 => v = .int .u8 (B8 y)
  | 21 => v = .agg (sec (Sec.of y))
  | 22 => ∃ F', v = .int .i64 E ∧ Dk w F' p s1 ∧ Upd F F' wc w
  | 9 => ∃ F', v = .int .i64 E ∧ Dk w F' p s1 ∧ Upd F F' wc w
  | _ => True
def Ga (i : Nat) (w w' : World) : Prop := cond (i == 6) True (Gr w w')
theorem Upd.more {F F' : Nat → Prop} {w w1 w2 : World} (u : Upd F F' w w1) (g : Gr w1 w2) : Upd F F' w w2 := u.trans (Upd.of_gr g)
theorem Sa.kept {wc : World} {F : Nat → Prop} {bx : Nat} {p : Value} {i : Int} {y : UInt8} {E : Int} {s1 : St} (d : Nat) (v : Value) (w w' : World) (h : Sa wc F bx p i y E s1 d v w) (g : Gr w w') : Sa wc F bx p i y E s1 d v w' := by
  unfold Sa at h ⊢
  split <;> simp only at h
  all_goals first
    | exact h
    | exact (let ⟨F', h1, h2, h3⟩ := h; ⟨F', h1, h2.gr g, h3.more g⟩)
/-- What the second region's slots hold. -/
def Sbb (wc : World) (G : Nat → Prop) (bx : Nat) (r : Value) (i : Int) (y : UInt8) (B : Bool) (s1 : St) (d : Nat) (v : Value) (w : World) : Prop :=
  match d with
  | 40 => v = r
  | 41 => v = .pointer (some ⟨bx, 1, none⟩)
  | 42 => v = .int .i64 i
  | 43 => v = .pointer (some ⟨bx, 3, none⟩)
  | 44 => v = .int .u8 (B8 y)
  | 45 => v = .agg (sec (Sec.of y))
  | 46 => ∃ G', v = .bool (!B) ∧ Rf w G' r s1 ∧ Upd G G' wc w
  | 47 => ∃ G', v = .bool B ∧ Rf w G' r s1 ∧ Upd G G' wc w
  | _ => True
theorem Sbb.kept {wc : World} {G : Nat → Prop} {bx : Nat} {r : Value} {i : Int} {y : UInt8} {B : Bool} {s1 : St} (d : Nat) (v : Value) (w w' : World) (h : Sbb wc G bx r i y B s1 d v w) (g : Gr w w') : Sbb wc G bx r i y B s1 d v w' := by
  unfold Sbb at h ⊢
  split <;> simp only at h
  all_goals first
    | exact h
    | exact (let ⟨F', h1, h2, h3⟩ := h; ⟨F', h1, h2.gr g, h3.more g⟩)

theorem DoRet.more {w w1 w2 : World} {F G : Nat → Prop} {s : St} {e : Ending} (h : DoRet w F G s e w1) (g : Gr w1 w2) : DoRet w F G s e w2 := by
  obtain ⟨p, r, F', G', he, hp, hu⟩ := h
  exact ⟨p, r, F', G', he, hp.stays g, hu.trans (Upd.of_gr g)⟩

set_option maxRecDepth 100000 in
set_option maxHeartbeats 4000000 in
theorem do_write {F G : Nat → Prop} {p r : Value} {s : St} (w : World) (h : Pair w F G p r s) (a : Do) (ha : a.Ok) (hk : a.kind = 1) (v : Value) (hw : s.writes ≤ 1000000000) : Calls Try.prog 9 #[p, r, .agg (a.val v)] w fun e w' => DoRet w F G (s.does a) e w' := by
  obtain ⟨rb, gs, cs, V, hr, hrf⟩ := h.rf
  obtain ⟨pb, lv, pm, pL, hp, hdk⟩ := h.dk
  subst hr
  subst hp
  obtain ⟨p, hp⟩ : ∃ p, p = Value.pointer (some ⟨pb, 0, none⟩) := ⟨_, rfl⟩
  have HOk := Lib.hid hdk.ok
  rw [← hp] at h ⊢
  have hi0 := ha.i0
  have hi1 := ha.i1
  have hdoes : s.does a = WrS s a := by unfold St.does WrS; rw [if_pos hk]
  have hval : a.val v = #[.int .i64 1, .int .i64 a.i, .int .i64 a.n, .int .u8 (B8 a.byt), v] := by unfold Do.val; rw [hk]
  rw [hval, hdoes]
  obtain ⟨i, hi⟩ : ∃ i, i = a.i := ⟨_, rfl⟩
  obtain ⟨y, hy⟩ : ∃ y, y = a.byt := ⟨_, rfl⟩
  obtain ⟨nn, hnn⟩ : ∃ nn, nn = a.n := ⟨_, rfl⟩
  obtain ⟨wc, hwc⟩ : ∃ wc, wc = w.alloc (.cells #[.int .i64 1, .int .i64 i, .int .i64 nn, .int .u8 (B8 y), v] TAct) := ⟨_, rfl⟩
  have hg : Gr w wc := by rw [hwc]; exact Gr.new w _
  have hb : Blk wc w.heap.size TAct #[.int .i64 1, .int .i64 i, .int .i64 nn, .int .u8 (B8 y), v] := by rw [hwc]; exact Blk.new w _ _
  have hbl : w.heap.size < wc.heap.size := by rw [hwc]; simp
  rw [← hi, ← hnn, ← hy]
  rw [← hi] at hi0 hi1
  obtain ⟨bx, hbx⟩ : ∃ bx, bx = w.heap.size := ⟨_, rfl⟩
  rw [← hbx] at hb hbl
  have HPr := Lib.hid (h.stays hg)
  have hFb : ¬ F bx := fun e => by rw [hbx] at e; have := h.dk.low _ e; omega
  have hGb : ¬ G bx := fun e => by rw [hbx] at e; have := h.rf.low _ e; omega
  obtain ⟨E, hE⟩ : ∃ E, E = WrE s a := ⟨_, rfl⟩
  obtain ⟨s1, hs1⟩ : ∃ s1, s1 = WrS s a := ⟨_, rfl⟩
  have HC1 : Hid (∀ W, Gr wc W → Calls Try.prog 17 #[p, .int .i64 i, .agg (sec (Sec.of y))] W fun e w' => Chg F p s1 (.int .i64 E) W e w') := Lib.hid fun W e => by
    have := Write_all W (HPr.out.dk.gr e) a hw
    rw [← hi, ← hy, ← hE, ← hs1] at this
    exact this
  have HSec : Hid (∀ W, Calls Try.prog 5 #[.int .u8 (B8 y)] W fun e w' => RetSector (Sec.of y) W e w') := Lib.hid fun W => sector_any y W
  have HBx : Hid (∀ W, Gr wc W → W.cell? ⟨bx, 1, none⟩ = some (.int .i64 i) ∧ W.cell? ⟨bx, 3, none⟩ = some (.int .u8 (B8 y))) := Lib.hid fun W e => ⟨(hb.gr e).cell 1, (hb.gr e).cell 3⟩
  have HBl : Hid (∀ W F', Upd F F' wc W → Blk W bx TAct #[.int .i64 1, .int .i64 i, .int .i64 nn, .int .u8 (B8 y), v] ∧ bx < W.heap.size) := Lib.hid fun W F' u => ⟨hb.stays (u.block bx hbl hFb), Nat.lt_of_lt_of_le hbl u.size⟩
  have HGb := Lib.hid hGb
  have HG := Lib.hid hg
  have hb0 := hb.cell 0
  have HE := Lib.hid hE
  have HS1 := Lib.hid hs1
  have HI := Lib.hid hi
  have HY := Lib.hid hy
  rw [← hs1]
  have HW := Lib.hid hw
  clear h hrf hdk ha hk hval hdoes hi hy hnn hg hb hbl hFb hGb hE hs1 hw hp
  go_enter Try.func9, Try.ntmps9
  go_wp2_with fail
  rw [← hwc, ← hbx]
  clear hwc hbx hb0
  refine Flow.regionU 7 6 (by kernel_rfl) [9] 10 (Sa wc F bx p i y E s1) (fun _ => True) (fun _ => True) (Gr wc) Ga (by kernel_rfl) (by kernel_rfl) (by kernel_rfl) ?mono True.intro ⟨rfl, rfl, rfl, Nat.le_refl _, fun _ _ => rfl⟩ ?steps ?fin
  case mono =>
    intro i d v w w' hb hs hg
    by_cases h6 : i = 6
    · subst h6
      have := Flow.bears2_only [] (by kernel_rfl) hb
      cases this
    · have e1 : (i == 6) = false := by simpa using h6
      unfold Ga at hg
      rw [e1] at hg
      exact Sa.kept d v w w' hs hg
  case steps =>
    refine Flow.StepsU.cons (fun a2 W hfr hinv hear hdep K hK => ?_) ?_
    · have s0 : a2.tmps.getD 0 undef = p := hfr.at 0 (by kernel_rfl)
      have t0 : a2.tmps[0]?.getD undef = p := by simpa using s0
      rw [if_pos (Flow.wanted_none rfl)]
      clear hfr hdep hear
      go_simp
      exact hK _ _ (show Gr W W from Gr.refl W) True.intro (fun h => h) (fun d hd => by cases hd; rfl)
    refine Flow.StepsU.cons (fun a2 W hfr hinv hear hdep K hK => ?_) ?_
    · have s5 : a2.tmps.getD 5 undef = .pointer (some ⟨bx, 0, none⟩) := hfr.at 5 (by kernel_rfl)
      have t5 : a2.tmps[5]?.getD undef = .pointer (some ⟨bx, 0, none⟩) := by simpa using s5
      rw [if_pos (Flow.wanted_none rfl)]
      clear hfr hdep hear
      go_simp
      exact hK _ _ (show Gr W W from Gr.refl W) True.intro (fun h => h) (fun d hd => by cases hd; rfl)
    refine Flow.StepsU.cons (fun a2 W hfr hinv hear hdep K hK => ?_) ?_
    · have s17 : a2.tmps.getD 17 undef = .pointer (some ⟨bx, 1, none⟩) := hdep 17 (by kernel_rfl)
      have t17 : a2.tmps[17]?.getD undef = .pointer (some ⟨bx, 1, none⟩) := by simpa using s17
      rw [if_pos (Flow.wanted_none rfl)]
      clear hfr hdep
      have he : Gr wc W := Flow.early hear (by kernel_rfl)
      clear hear
      have hc1 := (HBx.out W he).1
      go_simp
      exact hK _ _ (show Gr W W from Gr.refl W) True.intro (fun h => h) (fun d hd => by cases hd; rfl)
    refine Flow.StepsU.cons (fun a2 W hfr hinv hear hdep K hK => ?_) ?_
    · have s5 : a2.tmps.getD 5 undef = .pointer (some ⟨bx, 0, none⟩) := hfr.at 5 (by kernel_rfl)
      have t5 : a2.tmps[5]?.getD undef = .pointer (some ⟨bx, 0, none⟩) := by simpa using s5
      rw [if_pos (Flow.wanted_none rfl)]
      clear hfr hdep hear
      go_simp
      exact hK _ _ (show Gr W W from Gr.refl W) True.intro (fun h => h) (fun d hd => by cases hd; rfl)
    refine Flow.StepsU.cons (fun a2 W hfr hinv hear hdep K hK => ?_) ?_
    · have s19 : a2.tmps.getD 19 undef = .pointer (some ⟨bx, 3, none⟩) := hdep 19 (by kernel_rfl)
      have t19 : a2.tmps[19]?.getD undef = .pointer (some ⟨bx, 3, none⟩) := by simpa using s19
      rw [if_pos (Flow.wanted_none rfl)]
      clear hfr hdep
      have he : Gr wc W := Flow.early hear (by kernel_rfl)
      clear hear
      have hc1 := (HBx.out W he).2
      go_simp
      exact hK _ _ (show Gr W W from Gr.refl W) True.intro (fun h => h) (fun d hd => by cases hd; rfl)
    refine Flow.StepsU.cons (fun a2 W hfr hinv hear hdep K hK => ?_) ?_
    · have s20 : a2.tmps.getD 20 undef = .int .u8 (B8 y) := hdep 20 (by kernel_rfl)
      have t20 : a2.tmps[20]?.getD undef = .int .u8 (B8 y) := by simpa using s20
      rw [if_pos (Flow.wanted_none rfl)]
      clear hfr hdep
      clear hear
      go_simp
      refine (HSec.out W).mono ?_
      rintro e W' ⟨rfl, g1⟩
      exact hK _ _ (show Gr W _ from g1) True.intro (fun h => Gr.trans h g1) (fun d hd => by cases hd; rfl)
    refine Flow.StepsU.cons (fun a2 W hfr hinv hear hdep K hK => ?_) ?_
    · have s16 : a2.tmps.getD 16 undef = p := hdep 16 (by kernel_rfl)
      have t16 : a2.tmps[16]?.getD undef = p := by simpa using s16
      have s18 : a2.tmps.getD 18 undef = .int .i64 i := hdep 18 (by kernel_rfl)
      have t18 : a2.tmps[18]?.getD undef = .int .i64 i := by simpa using s18
      have s21 : a2.tmps.getD 21 undef = .agg (sec (Sec.of y)) := hdep 21 (by kernel_rfl)
      have t21 : a2.tmps[21]?.getD undef = .agg (sec (Sec.of y)) := by simpa using s21
      rw [if_pos (Flow.wanted_none rfl)]
      clear hfr hdep
      have he : Gr wc W := Flow.early hear (by kernel_rfl)
      clear hear
      go_simp
      refine (HC1.out W he).mono ?_
      rintro e W' ⟨F2, rfl, k1, k2⟩
      exact hK _ _ True.intro True.intro True.intro (fun d hd => by cases hd; exact ⟨F2, rfl, k1, Upd.pre he k2⟩)
    refine Flow.StepsU.cons (fun a2 W hfr hinv hear hdep K hK => ?_) ?_
    · have s22 : (∃ F', (a2.tmps.getD 22 undef) = .int .i64 E ∧ Dk W F' p s1 ∧ Upd F F' wc W) := hdep 22 (by kernel_rfl)
      rw [if_pos (Flow.wanted_none rfl)]
      clear hfr hdep
      clear hear
      obtain ⟨F2, e22, k1, k2⟩ := s22
      have t22 : a2.tmps[22]?.getD undef = .int .i64 E := by simpa using e22
      clear e22
      go_simp
      exact hK _ _ (show Gr W W from Gr.refl W) True.intro True.intro (fun d hd => by cases hd; exact ⟨F2, rfl, k1, k2⟩)
    exact True.intro
  case fin =>
    intro a2 W hfr hfin hsl
    have h9 : ∃ F', a2.tmps.getD 9 undef = .int .i64 E ∧ Dk W F' p s1 ∧ Upd F F' wc W := hsl 7 _ 9 rfl rfl (by simp)
    clear hsl hfin
    obtain ⟨F', e9, hd1, hu1⟩ := h9
    have e := Flow.frame hfr [9, 16, 17, 18, 19, 20, 21, 22] (List.range 103) (by kernel_rfl) (by kernel_rfl)
    have e9b : a2.tmps[9]?.getD undef = .int .i64 E := by simpa using e9
    simp [List.range, List.range.loop] at e
    rw [e]
    clear e hfr
    rw [e9b]
    clear e9 e9b
    obtain ⟨hrf1, hap1⟩ := HPr.out.code hu1
    have HDk := Lib.hid hd1
    have HU1 := Lib.hid hu1
    have HAp := Lib.hid hap1
    have HRf := Lib.hid hrf1
    obtain ⟨hbW, hbxl⟩ := HBl.out W F' hu1
    have hbx1 := hbW.cell 1
    have hbx3 := hbW.cell 3
    simp at hbx1 hbx3
    obtain ⟨rb2, gs2, cs2, V2, er2, hr2⟩ := hrf1
    have erb : rb = rb2 := by simpa using er2
    subst erb
    have hc0 := hr2.cells.1
    obtain ⟨N, hN⟩ : ∃ N, N = s.ls.length := ⟨_, rfl⟩
    rw [← hN] at hc0
    have hN2 : N ≤ 65536 := by rw [hN]; exact hr2.most
    have HN := Lib.hid hN
    have HBW := Lib.hid hbW
    clear hd1 hu1 hap1 hbW er2 hr2 hN HPr HC1 HBx HBl
    rename_i K hK
    refine hK _ _ ?_
    go_wp2_with fail
    by_cases hr : i < 0 ∨ (N : Int) ≤ i
    · have HEE : Hid (E = 2 ∧ s1 = s) := Lib.hid (by
        rw [HE.out, HS1.out]; unfold WrE WrS
        rw [← HI.out, ← HN.out, if_pos hr, if_pos hr]; exact ⟨rfl, rfl⟩)
      obtain ⟨hE2, hS2⟩ := HEE.out
      subst hE2
      have HF : Hid (DoRet w F G s1 (.returned (.tuple #[p, .pointer (some ⟨rb, 0, none⟩), .bool true])) W) := Lib.hid (by
        obtain ⟨h1, h2⟩ := Pair.doc HU1.out HDk.out HAp.out (Upd.same W) (by rw [hS2]; exact HRf.out)
        exact ⟨_, _, _, _, rfl, h1, Upd.pre HG.out h2⟩)
      clear hS2 HEE HE HS1 HDk HU1 HAp HRf HBW HOk
      by_cases hi0n : i < 0
      · have e1 : decide (i < 0) = true := decide_eq_true hi0n
        clear hr
        go_quiet (fail)
        go_wp2
        go_ret3
        exact HF.out.more ⟨rfl, rfl, rfl, Nat.le_refl _, fun _ _ => rfl⟩
      · have e1 : decide (i < 0) = false := decide_eq_false hi0n
        have hNi : (N : Int) ≤ i := by omega
        have e2 : decide ((N : Int) ≤ i) = true := decide_eq_true hNi
        clear hr
        go_quiet (fail)
        go_wp2
        go_ret3
        exact HF.out.more ⟨rfl, rfl, rfl, Nat.le_refl _, fun _ _ => rfl⟩
    · have hi0n : ¬ i < 0 := fun h => hr (.inl h)
      have hNi : ¬ (N : Int) ≤ i := fun h => hr (.inr h)
      have e1 : decide (i < 0) = false := decide_eq_false hi0n
      have e2 : decide ((N : Int) ≤ i) = false := decide_eq_false hNi
      have HC2 : Hid (∀ W1, Gr W W1 → Calls Try.prog 28 #[.pointer (some ⟨rb, 0, none⟩), .int .i64 i, .agg (sec (Sec.of y))] W1 fun e w' => ChgR G (.pointer (some ⟨rb, 0, none⟩)) s1 (.bool (!decide s.refuses)) W1 e w') := Lib.hid fun W1 g => by
        have := refWrite_all W1 (HRf.out.gr g) a (by rw [← HI.out]; omega) (by rw [← HI.out, ← HN.out]; omega) HW.out (fun j => Nat.le_trans (HOk.out.less j) HW.out)
        have e3 : RwS s a = s1 := by rw [HS1.out]; unfold WrS RwS; rw [← HI.out, ← HN.out, if_neg hr]
        rw [← HI.out, ← HY.out, e3] at this
        exact this
      have HEE : Hid (E = if s.refuses then 8 else 0) := Lib.hid (by
        rw [HE.out]; unfold WrE
        rw [← HI.out, ← HN.out, if_neg hr])
      obtain ⟨B, hB⟩ : ∃ B, B = decide s.refuses := ⟨_, rfl⟩
      rw [← hB] at HC2
      have HEB : Hid (E = if B = true then 8 else 0) := Lib.hid (by rw [HEE.out, hB]; simp)
      have HBx2 : Hid (∀ W1, Gr W W1 → W1.cell? ⟨bx, 1, none⟩ = some (.int .i64 i) ∧ W1.cell? ⟨bx, 3, none⟩ = some (.int .u8 (B8 y))) := Lib.hid fun W1 e => ⟨(HBW.out.gr e).cell 1, (HBW.out.gr e).cell 3⟩
      clear hr HEE hB HE HS1 HBW HOk
      go_quiet (fail)
      clear e1 e2
      go_wp2_with fail
      refine Flow.regionU 7 6 (by kernel_rfl) [47] 10 (Sbb W G bx (.pointer (some ⟨rb, 0, none⟩)) i y B s1) (fun _ => True) (fun _ => True) (Gr W) Ga (by kernel_rfl) (by kernel_rfl) (by kernel_rfl) ?mono2 True.intro ⟨rfl, rfl, rfl, Nat.le_refl _, fun _ _ => rfl⟩ ?steps2 ?fin2
      case mono2 =>
        intro i d v w w' hb hs hg
        by_cases h6 : i = 6
        · subst h6
          have := Flow.bears2_only [] (by kernel_rfl) hb
          cases this
        · have e1 : (i == 6) = false := by simpa using h6
          unfold Ga at hg
          rw [e1] at hg
          exact Sbb.kept d v w w' hs hg
      case steps2 =>
        obtain ⟨WB, hWB⟩ : ∃ WB, WB = W := ⟨_, rfl⟩
        rw [← hWB] at HC2 HBx2 ⊢
        clear hWB
        refine Flow.StepsU.cons (fun a2 W hfr hinv hear hdep K hK => ?_) ?_
        · have s1 : a2.tmps.getD 1 undef = .pointer (some ⟨rb, 0, none⟩) := hfr.at 1 (by kernel_rfl)
          have t1 : a2.tmps[1]?.getD undef = .pointer (some ⟨rb, 0, none⟩) := by simpa using s1
          rw [if_pos (Flow.wanted_none rfl)]
          clear hfr hdep hear
          go_simp
          exact hK _ _ (show Gr W W from Gr.refl W) True.intro (fun h => h) (fun d hd => by cases hd; rfl)
        refine Flow.StepsU.cons (fun a2 W hfr hinv hear hdep K hK => ?_) ?_
        · have s5 : a2.tmps.getD 5 undef = .pointer (some ⟨bx, 0, none⟩) := hfr.at 5 (by kernel_rfl)
          have t5 : a2.tmps[5]?.getD undef = .pointer (some ⟨bx, 0, none⟩) := by simpa using s5
          rw [if_pos (Flow.wanted_none rfl)]
          clear hfr hdep hear
          go_simp
          exact hK _ _ (show Gr W W from Gr.refl W) True.intro (fun h => h) (fun d hd => by cases hd; rfl)
        refine Flow.StepsU.cons (fun a2 W hfr hinv hear hdep K hK => ?_) ?_
        · have s41 : a2.tmps.getD 41 undef = .pointer (some ⟨bx, 1, none⟩) := hdep 41 (by kernel_rfl)
          have t41 : a2.tmps[41]?.getD undef = .pointer (some ⟨bx, 1, none⟩) := by simpa using s41
          rw [if_pos (Flow.wanted_none rfl)]
          clear hfr hdep
          have he : Gr WB W := Flow.early hear (by kernel_rfl)
          clear hear
          have hc1 := (HBx2.out W he).1
          go_simp
          exact hK _ _ (show Gr W W from Gr.refl W) True.intro (fun h => h) (fun d hd => by cases hd; rfl)
        refine Flow.StepsU.cons (fun a2 W hfr hinv hear hdep K hK => ?_) ?_
        · have s5 : a2.tmps.getD 5 undef = .pointer (some ⟨bx, 0, none⟩) := hfr.at 5 (by kernel_rfl)
          have t5 : a2.tmps[5]?.getD undef = .pointer (some ⟨bx, 0, none⟩) := by simpa using s5
          rw [if_pos (Flow.wanted_none rfl)]
          clear hfr hdep hear
          go_simp
          exact hK _ _ (show Gr W W from Gr.refl W) True.intro (fun h => h) (fun d hd => by cases hd; rfl)
        refine Flow.StepsU.cons (fun a2 W hfr hinv hear hdep K hK => ?_) ?_
        · have s43 : a2.tmps.getD 43 undef = .pointer (some ⟨bx, 3, none⟩) := hdep 43 (by kernel_rfl)
          have t43 : a2.tmps[43]?.getD undef = .pointer (some ⟨bx, 3, none⟩) := by simpa using s43
          rw [if_pos (Flow.wanted_none rfl)]
          clear hfr hdep
          have he : Gr WB W := Flow.early hear (by kernel_rfl)
          clear hear
          have hc1 := (HBx2.out W he).2
          go_simp
          exact hK _ _ (show Gr W W from Gr.refl W) True.intro (fun h => h) (fun d hd => by cases hd; rfl)
        refine Flow.StepsU.cons (fun a2 W hfr hinv hear hdep K hK => ?_) ?_
        · have s44 : a2.tmps.getD 44 undef = .int .u8 (B8 y) := hdep 44 (by kernel_rfl)
          have t44 : a2.tmps[44]?.getD undef = .int .u8 (B8 y) := by simpa using s44
          rw [if_pos (Flow.wanted_none rfl)]
          clear hfr hdep
          clear hear
          go_simp
          refine (HSec.out W).mono ?_
          rintro e W' ⟨rfl, g1⟩
          exact hK _ _ (show Gr W _ from g1) True.intro (fun h => Gr.trans h g1) (fun d hd => by cases hd; rfl)
        refine Flow.StepsU.cons (fun a2 W hfr hinv hear hdep K hK => ?_) ?_
        · have s40 : a2.tmps.getD 40 undef = .pointer (some ⟨rb, 0, none⟩) := hdep 40 (by kernel_rfl)
          have t40 : a2.tmps[40]?.getD undef = .pointer (some ⟨rb, 0, none⟩) := by simpa using s40
          have s42 : a2.tmps.getD 42 undef = .int .i64 i := hdep 42 (by kernel_rfl)
          have t42 : a2.tmps[42]?.getD undef = .int .i64 i := by simpa using s42
          have s45 : a2.tmps.getD 45 undef = .agg (sec (Sec.of y)) := hdep 45 (by kernel_rfl)
          have t45 : a2.tmps[45]?.getD undef = .agg (sec (Sec.of y)) := by simpa using s45
          rw [if_pos (Flow.wanted_none rfl)]
          clear hfr hdep
          have he : Gr WB W := Flow.early hear (by kernel_rfl)
          clear hear
          go_simp
          refine (HC2.out W he).mono ?_
          rintro e W' ⟨F2, rfl, k1, k2⟩
          exact hK _ _ True.intro True.intro True.intro (fun d hd => by cases hd; exact ⟨F2, rfl, k1, Upd.pre he k2⟩)
        refine Flow.StepsU.cons (fun a2 W hfr hinv hear hdep K hK => ?_) ?_
        · have s46 : (∃ F', (a2.tmps.getD 46 undef) = .bool (!B) ∧ Rf W F' (.pointer (some ⟨rb, 0, none⟩)) s1 ∧ Upd G F' WB W) := hdep 46 (by kernel_rfl)
          rw [if_pos (Flow.wanted_none rfl)]
          clear hfr hdep
          clear hear
          obtain ⟨F2, e22, k1, k2⟩ := s46
          have t22 : a2.tmps[46]?.getD undef = .bool (!B) := by simpa using e22
          clear e22
          go_simp
          exact hK _ _ (show Gr W W from Gr.refl W) True.intro True.intro (fun d hd => by cases hd; exact ⟨F2, by simp, k1, k2⟩)
        exact True.intro
      case fin2 =>
        intro a3 W3 hfr hfin hsl
        have h47 : ∃ G', a3.tmps.getD 47 undef = .bool B ∧ Rf W3 G' (.pointer (some ⟨rb, 0, none⟩)) s1 ∧ Upd G G' W W3 := hsl 7 _ 47 rfl rfl (by simp)
        clear hsl hfin
        obtain ⟨G', e47, hr3, hu3⟩ := h47
        have e := Flow.frame hfr [40, 41, 42, 43, 44, 45, 46, 47] (List.range 103) (by kernel_rfl) (by kernel_rfl)
        have e47b : a3.tmps[47]?.getD undef = .bool B := by simpa using e47
        simp [List.range, List.range.loop] at e
        rw [e]
        clear e hfr
        rw [e47b]
        clear e47 e47b
        have HF : Hid (DoRet w F G s1 (.returned (.tuple #[p, .pointer (some ⟨rb, 0, none⟩), .bool true])) W3) := Lib.hid (by
          obtain ⟨h1, h2⟩ := Pair.doc HU1.out HDk.out HAp.out hu3 hr3
          exact ⟨_, _, _, _, rfl, h1, Upd.pre HG.out h2⟩)
        clear hr3 hu3 HC2 HBx2 HDk HU1 HAp HRf
        rename_i K2 hK2
        refine hK2 _ _ ?_
        cases B with
        | true =>
          have hE8 : E = 8 := HEB.out
          subst hE8
          clear HEB
          go_wp2
          go_ret3
          exact HF.out
        | false =>
          have hE0 : E = 0 := by have := HEB.out; simpa using this
          subst hE0
          clear HEB
          go_wp2
          go_ret3
          exact HF.out

end Go.Proofs.Ytkoalabacfjgbaa
