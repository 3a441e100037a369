
/-
  The document's disk: a write.
-/
import Derived.Test.YtkoalabacfjgbaaRefBarrier
namespace Go.Proofs.Ytkoalabacfjgbaa
open Go.RowKit Go.Maps

theorem Gr.own {a b c : World} (h : Gr a b) {r : Option Nat} (g : b.grownBy c r) (hq : ∀ q, r = some q → a.heap.size ≤ q) : Gr a c :=
  ⟨g.os.trans h.os, g.tape.trans h.tape, g.output.trans h.output, Nat.le_trans h.size g.size, fun k hk => (g.block k (Nat.lt_of_lt_of_le hk h.size) (fun e => by have := hq k e.symm; omega)).trans (h.block k hk)⟩
theorem nrm_zero {z : Int} : (nrm z == 0) = (z == 0) := by
  unfold nrm
  by_cases h : z < 0
  · rw [if_pos h]
    have : ¬ z = 0 := by omega
    simp [this]
  · rw [if_neg h]
theorem nrm_pos {z : Int} (h : 0 < z) : nrm z = z := by unfold nrm; rw [if_neg (by omega)]
theorem nrm_le {z : Int} (h : ¬ 0 < z) : ¬ 0 < nrm z := by unfold nrm; split <;> omega

/-- What the region's slots hold. -/
def Sv (n0 b gs cs N i gu cu : Nat) (x : Sec) (ss : List Sec) (d : Nat) (v : Value) (w : World) : Prop :=
  match d with
  | 38 | 39 | 40 | 43 | 44 | 45 => v = .pointer (some ⟨b, 0, none⟩)
  | 41 | 46 => v = .slice (some ⟨gs, 0, none⟩) N cs
  | 42 | 47 => v = .int .i64 (i : Int)
  | 48 | 54 => v = .pointer (some ⟨gs, i, none⟩)
  | 49 => v = .slice (some ⟨gu, 0, none⟩) ss.length cu
  | 50 => Row w v ss ∧ ∀ q, v.ownBlock = some q → n0 ≤ q
  | 51 => v = .agg (sec x)
  | 52 => ∃ q, v = .slice (some ⟨q, 0, none⟩) 1 1 ∧ Row w (.slice (some ⟨q, 0, none⟩) 1 1) [x]
  | 53 => Row w v (ss ++ [x]) ∧ ∀ q, v.ownBlock = some q → n0 ≤ q
  | _ => True
def Gv (i : Nat) (w w' : World) : Prop := cond (i == 15 || i == 17) True (Gr w w')
theorem Sv.kept {n0 b gs cs N i gu cu : Nat} {x : Sec} {ss : List Sec} (d : Nat) (v : Value) (w w' : World) (h : Sv n0 b gs cs N i gu cu x ss d v w) (g : Gr w w') : Sv n0 b gs cs N i gu cu x ss d v w' := by
  unfold Sv at h ⊢
  split <;> simp only at h
  all_goals first
    | exact h
    | exact ⟨Row.gr h.1 g, h.2⟩
    | exact (let ⟨q, h1, h2⟩ := h; ⟨q, h1, Row.gr h2 g⟩)
theorem Sv.any {n0 b gs cs N i gu cu : Nat} {x : Sec} {ss : List Sec} (d : Nat) (hd : d ∈ [38, 39, 40, 41, 42, 54]) (v : Value) (w w' : World) (h : Sv n0 b gs cs N i gu cu x ss d v w) : Sv n0 b gs cs N i gu cu x ss d v w' := by
  simp only [List.mem_cons, List.not_mem_nil, or_false] at hd
  rcases hd with rfl | rfl | rfl | rfl | rfl | rfl <;> exact h
def Fv (W0 : World) (gs i : Nat) (ts : List Sec) (w : World) : Prop := ∃ w1 q n c, Gr W0 w1 ∧ Row w1 (.slice (some ⟨q, 0, none⟩) n c) ts ∧ W0.heap.size ≤ q ∧ w = w1.setCell ⟨gs, i, none⟩ (.slice (some ⟨q, 0, none⟩) n c)

set_option maxRecDepth 100000 in
set_option maxHeartbeats 1000000 in
theorem refWrite_dead {G : Nat → Prop} {r : Value} {s : St} (w : World) (h : Rf w G r s) (i : Nat) (x : Sec) (hr : s.refuses) : Calls Try.prog 28 #[r, .int .i64 (i : Int), .agg (sec x)] w fun e w' => ChgR G r { s with dead := true } (.bool false) w e w' := by
  obtain ⟨b, gs, cs, V, rfl, h⟩ := h
  have hg : Gr w (w.alloc (.cells (sec x) TS)) := (Gr.refl w).alloc (Nat.le_refl _) _
  have h' := h.gr hg
  obtain ⟨h0, h1, h2, h3⟩ := h'.cells
  have hf := h'.blk.frozen 2
  have HB := Lib.hid (h'.blk.set 2 (.bool true))
  have HU := Lib.hid (Upd.trans (Upd.of_gr (F := G) hg) (upd_cell (w := w.alloc (.cells (sec x) TS)) (i := 2) h.ownB (.bool true)))
  have HU0 := Lib.hid (Upd.of_gr (F := G) hg)
  have HD : Hid (RfAt ((w.alloc (.cells (sec x) TS)).setCell ⟨b, 2, none⟩ (.bool true)) G b gs cs V { s with dead := true }) := Lib.hid (h'.block (s' := { s with dead := true }) rfl rfl h.lo h.hi (by simpa using HB.out) (fun k _ hk => Below.heap_setCell _ _ _ k hk) (by simp [World.setCell]))
  by_cases hz : s.fuse = 0
  · have hz2 : (nrm s.fuse == 0) = true := by rw [nrm_zero, hz]; rfl
    obtain ⟨f, hff⟩ : ∃ f, f = nrm s.fuse := ⟨_, rfl⟩
    rw [← hff] at h1 hz2
    have hf0 : f = 0 := by simpa using hz2
    subst hf0
    clear h h' HB hr h0 h3 HU0 hz hff hz2
    go_enter Try.func28, Try.ntmps28
    go_wp2_with fail
    go_ret
    exact ⟨_, rfl, ⟨_, _, _, _, rfl, HD.out⟩, HU.out⟩
  · have hd : s.dead = true := by rcases hr with h | h
                                  · exact absurd h hz
                                  · exact h
    have hs : { s with dead := true } = s := by cases s; simp at hd; simp [hd]
    have HD0 : Hid (RfAt (w.alloc (.cells (sec x) TS)) G b gs cs V { s with dead := true }) := Lib.hid (by rw [hs]; exact h')
    rw [hd] at h2
    have hz2 : (nrm s.fuse == 0) = false := by rw [nrm_zero]; simpa using hz
    obtain ⟨f, hff⟩ : ∃ f, f = nrm s.fuse := ⟨_, rfl⟩
    rw [← hff] at h1 hz2
    clear h h' HB hr h0 h3 HU hz hs HD hd hff
    go_enter Try.func28, Try.ntmps28
    go_wp2_with fail
    go_ret
    exact ⟨_, rfl, ⟨_, _, _, _, rfl, HD0.out⟩, HU0.out⟩

/-- Behind the fuse's test. -/
def Mr (w wx : World) (G : Nat → Prop) (b gs cs : Nat) (V : Nat → Value) (s : St) (x : Sec) : Prop :=
  RfAt wx G b gs cs V { s with fuse := if 0 < s.fuse then s.fuse - 1 else s.fuse } ∧ Blk wx w.heap.size TS (sec x) ∧ Upd G G w wx ∧ w.heap.size < wx.heap.size

set_option maxRecDepth 100000 in
set_option maxHeartbeats 4000000 in
theorem refWrite_yes {G : Nat → Prop} {r : Value} {s : St} (w : World) (h : Rf w G r s) (i : Nat) (hi : i < s.ls.length) (x : Sec) (hr : ¬ s.refuses) (hw : s.writes ≤ 1000000000) (hl : (s.t i).length ≤ 1000000000) : Calls Try.prog 28 #[r, .int .i64 (i : Int), .agg (sec x)] w fun e w' => ChgR G r (s.wrote i x) (.bool true) w e w' := by
  obtain ⟨b, gs, cs, V, rfl, h⟩ := h
  have hz : s.fuse ≠ 0 := fun e => hr (.inl e)
  have hd : s.dead = false := by
    cases hq : s.dead with
    | false => rfl
    | true => exact absurd (.inr hq) hr
  have hg : Gr w (w.alloc (.cells (sec x) TS)) := (Gr.refl w).alloc (Nat.le_refl _) _
  have h' := h.gr hg
  obtain ⟨h0, h1, h2, h3⟩ := h'.cells
  have hf := h'.blk.frozen 1
  rw [hd] at h2
  have hz2 : (nrm s.fuse == 0) = false := by rw [nrm_zero]; simpa using hz
  have HX0 := Lib.hid (Blk.new w TS (sec x))
  have HLow : Hid (¬ G w.heap.size) := Lib.hid (fun e => by have := h.low _ e; omega)
  have HU0 := Lib.hid (Upd.of_gr (F := G) hg)
  have HD : Hid (RfAt (w.alloc (.cells (sec x) TS)) G b gs cs V s) := Lib.hid h'
  have HWr : Hid (s.writes ≤ 1000000000) := Lib.hid hw
  have HIl : Hid (i < s.ls.length) := Lib.hid hi
  have HTl : Hid ((s.t i).length ≤ 1000000000) := Lib.hid hl
  have HB := Lib.hid (h'.blk.set 1 (.int .i64 (s.fuse - 1)))
  have hlo := h.lo
  have hhi := h.hi
  have HD2 : Hid (0 < s.fuse → RfAt ((w.alloc (.cells (sec x) TS)).setCell ⟨b, 1, none⟩ (.int .i64 (s.fuse - 1))) G b gs cs V { s with fuse := s.fuse - 1 }) := Lib.hid fun hp =>
    h'.block (s' := { s with fuse := s.fuse - 1 }) rfl rfl (by show -9223372036854775808 ≤ s.fuse - 1; omega) (by show s.fuse - 1 ≤ 9223372036854775807; omega) (by
      have e : nrm (s.fuse - 1) = s.fuse - 1 := by unfold nrm; rw [if_neg (by omega)]
      show Blk _ b TRf #[_, .int .i64 (nrm (s.fuse - 1)), _, _]
      rw [e]
      simpa using HB.out) (fun k _ hk => Below.heap_setCell _ _ _ k hk) (by simp [World.setCell])
  have HU2 := Lib.hid (Upd.trans (Upd.of_gr (F := G) hg) (upd_cell (w := w.alloc (.cells (sec x) TS)) (i := 1) h.ownB (.int .i64 (s.fuse - 1))))
  have hnb : w.heap.size ≠ b := fun e => HLow.out (by rw [e]; exact h.ownB)
  have HX2 : Hid (Blk ((w.alloc (.cells (sec x) TS)).setCell ⟨b, 1, none⟩ (.int .i64 (s.fuse - 1))) w.heap.size TS (sec x)) := Lib.hid (HX0.out.far (by simpa using hnb) _)
  have HBx : Hid (w.heap.size < (w.alloc (.cells (sec x) TS)).heap.size) := Lib.hid (by simp)
  clear h h' hi hr h0 h3 hd hw HB hz hg hnb hl
  go_enter Try.func28, Try.ntmps28
  go_upto_if 23 with fail
  go_cut [24] (fun s24 wx => Mr w wx G b gs cs V s x)
  case first =>
    by_cases hp : 0 < s.fuse
    · rw [nrm_pos hp] at h1
      rw [nrm_pos hp]
      go_wp2
      go_meet
      exact ⟨by rw [if_pos hp]; exact HD2.out hp, HX2.out, HU2.out, by simp [World.setCell]⟩
    · have hp2 := nrm_le hp
      go_wp2
      go_meet
      exact ⟨by rw [if_neg (by omega)]; exact HD.out, HX0.out, HU0.out, HBx.out⟩
  case rest =>
    obtain ⟨w0, hw0⟩ : ∃ w0, w0 = w := ⟨_, rfl⟩
    subst hw0
    clear HX0 HU0 HD HU2 HX2 HBx HD2 h1 h2 hf hz2 hlo hhi
    obtain ⟨hd, hx, hu, hlt⟩ := hcut
    obtain ⟨f', hff⟩ : ∃ f', f' = (if 0 < s.fuse then s.fuse - 1 else s.fuse) := ⟨_, rfl⟩
    have HFin : Hid (s.wrote i x = { ls := s.ls, t := (fun j => if j = i then s.t i ++ [x] else s.t j), fuse := f', dead := s.dead, writes := s.writes + 1 }) := Lib.hid (by unfold St.wrote; rw [hff])
    rw [← hff] at hd
    clear hff
    have hc3 := hd.cells.2.2.2
    have hf3 := hd.blk.frozen 3
    have HB3 := Lib.hid (hd.blk.set 3 (.int .i64 ((s.writes + 1 : Nat) : Int)))
    obtain ⟨wd, hwd⟩ : ∃ wd, wd = wc.setCell ⟨b, 3, none⟩ (.int .i64 ((s.writes + 1 : Nat) : Int)) := ⟨_, rfl⟩
    have hd2 : RfAt wd G b gs cs V { ls := s.ls, t := s.t, fuse := f', dead := s.dead, writes := s.writes + 1 } := by
      rw [hwd]
      exact hd.block (s' := { ls := s.ls, t := s.t, fuse := f', dead := s.dead, writes := s.writes + 1 }) rfl rfl hd.lo hd.hi (by simpa using HB3.out) (fun k _ hk => Below.heap_setCell _ _ _ k hk) (by simp [World.setCell])
    have HU3 : Hid (Upd G G w0 wd) := Lib.hid (by rw [hwd]; exact hu.trans (upd_cell (i := 3) hd.ownB _))
    have hnb : w0.heap.size ≠ b := fun e => HLow.out (by rw [e]; exact hd.ownB)
    have hxd : Blk wd w0.heap.size TS (sec x) := by rw [hwd]; exact hx.far (by simpa using hnb) _
    have HDd := Lib.hid hd2
    obtain ⟨gu, cu, hv, _, hc1, hc2⟩ := (hd2.rows i HIl.out).full (at_ne _ i)
    obtain ⟨ss, hss⟩ : ∃ ss, ss = s.at i := ⟨_, rfl⟩
    have hse : (St.at { ls := s.ls, t := s.t, fuse := f', dead := s.dead, writes := s.writes + 1 } i) = ss := hss.symm
    rw [hse] at hv
    have hrow : Row wd (.slice (some ⟨gu, 0, none⟩) ss.length cu) ss := by
      have := hd2.rows i HIl.out
      rwa [hse, hv] at this
    obtain ⟨N, hN⟩ : ∃ N, N = s.ls.length := ⟨_, rfl⟩
    have hiN : i < N := by rw [hN]; exact HIl.out
    have hi65 : (i : Int) < 65536 := by have := hd2.most; have h2 : s.ls.length ≤ 65536 := this; omega
    have HA : Hid (∀ W, Gr wd W → W.cell? ⟨b, 0, none⟩ = some (.slice (some ⟨gs, 0, none⟩) N cs)) := Lib.hid fun W e => by rw [hN]; exact (hd2.gr e).cells.1
    have HV : Hid (∀ W, Gr wd W → W.cell? ⟨gs, i, none⟩ = some (.slice (some ⟨gu, 0, none⟩) ss.length cu)) := Lib.hid fun W e => by rw [← hv]; exact (hd2.gr e).outer.cell i HIl.out
    have HFz : Hid (∀ W, Gr wd W → W.frozen? ⟨gs, i, none⟩ = false) := Lib.hid fun W e => (hd2.gr e).outer.frozen i
    have HR : Hid (∀ W, Gr wd W → Row W (.slice (some ⟨gu, 0, none⟩) ss.length cu) ss) := Lib.hid fun W e => hrow.gr e
    have HX : Hid (∀ W, Gr wd W → W.rangeAt w0.heap.size 0 x.cells) := Lib.hid fun W e => (hxd.gr e).one
    have HL : Hid (ss.length + 1 ≤ 500000000000) := Lib.hid (by rw [hss, at_len]; have := HTl.out; omega)
    have hwr : (s.writes : Int) ≤ 1000000000 := by have := HWr.out; omega
    have hssl : 0 < ss.length := by rw [hss, at_len]; omega
    have HSs := Lib.hid hss
    clear hd hx hu hlt hd2 hnb hxd hv hc1 hc2 hss hse hrow hN HB3 HWr HTl
    go_wp2_with fail
    rw [show (((s.writes : Nat) : Int) + 1) = ((s.writes + 1 : Nat) : Int) by omega, ← hwd]
    clear hwd hc3 hf3 hwr
    refine Flow.regionZ 17 17 (by kernel_rfl) [] 20 (Sv wd.heap.size b gs cs N i gu cu x ss) (Gr wd) (Fv wd gs i (ss ++ [x])) (fun _ => True) Gv (by kernel_rfl) (by kernel_rfl) (by kernel_rfl) ?mono ⟨rfl, rfl, rfl, Nat.le_refl _, fun _ _ => rfl⟩ True.intro ?steps ?fin
    case mono =>
      intro i d v w w' hb hs hg
      by_cases h15 : i = 15
      · subst h15
        exact Sv.any d (Flow.bears2_only [38, 39, 40, 41, 42, 54] (by kernel_rfl) hb) v w w' hs
      · by_cases h17 : i = 17
        · subst h17
          have := Flow.bears2_only [] (by kernel_rfl) hb
          cases this
        · have e1 : (i == 15 || i == 17) = false := by simp [h15, h17]
          unfold Gv at hg
          rw [e1] at hg
          exact Sv.kept d v w w' hs hg
    case fin =>
      intro a W hfr hfin hsl
      clear hsl
      have e := Flow.frame hfr [38, 39, 40, 41, 42, 43, 44, 45, 46, 47, 48, 49, 50, 51, 52, 53, 54] (List.range 55) (by kernel_rfl) (by kernel_rfl)
      simp [List.range, List.range.loop] at e
      rw [e]
      clear e hfr
      obtain ⟨w1, q, n, c, hg1, hr1, hq, rfl⟩ := hfin
      have hil := HIl.out
      have HD3 : Hid (RfAt _ _ b gs cs _ (s.wrote i x)) := Lib.hid (((HDd.out.gr hg1).put (s' := s.wrote i x) i hil (by
        have : (s.wrote i x).at i = ss ++ [x] := by rw [HSs.out]; unfold St.at St.wrote; simp
        rw [this]; exact hr1) rfl (fun j hj hne => by unfold St.at St.wrote; simp [hne]) (by rw [HFin.out]) (by rw [HFin.out]) (by rw [HFin.out])))
      have HU4 := Lib.hid (HU3.out.trans (upd_put hg1 (i := i) HDd.out.ownS (v := .slice (some ⟨q, 0, none⟩) n c) (fun g hg => by cases hg; exact hq)))
      clear hg1 hr1 hq HA HV HFz HR HX HL HSs HDd HU3 HFin hil
      rename_i K hK
      refine hK _ _ ?_
      go_wp2
      go_ret
      exact ⟨_, rfl, ⟨_, _, _, _, rfl, HD3.out⟩, HU4.out⟩
    case steps =>
      refine Flow.StepsZ.cons (fun a W hfr hinv hear hdep K hK => ?_) ?_
      · have s0 : a.tmps.getD 0 undef = .pointer (some ⟨b, 0, none⟩) := hfr.at 0 (by kernel_rfl)
        have t0 : a.tmps[0]?.getD undef = .pointer (some ⟨b, 0, none⟩) := by simpa using s0
        rw [if_pos (Flow.wanted_none rfl)]
        clear hfr hdep hear
        go_simp
        exact hK _ _ (show Gr W W from Gr.refl W) hinv (fun _ => True.intro) (fun d hd => by cases hd; rfl)
      refine Flow.StepsZ.cons (fun a W hfr hinv hear hdep K hK => ?_) ?_
      · have s38 : a.tmps.getD 38 undef = .pointer (some ⟨b, 0, none⟩) := hdep 38 (by kernel_rfl)
        have t38 : a.tmps[38]?.getD undef = .pointer (some ⟨b, 0, none⟩) := by simpa using s38
        rw [if_pos (Flow.wanted_none rfl)]
        clear hfr hdep hear
        go_simp
        exact hK _ _ (show Gr W W from Gr.refl W) hinv (fun _ => True.intro) (fun d hd => by cases hd; rfl)
      refine Flow.StepsZ.cons (fun a W hfr hinv hear hdep K hK => ?_) ?_
      · have s39 : a.tmps.getD 39 undef = .pointer (some ⟨b, 0, none⟩) := hdep 39 (by kernel_rfl)
        have t39 : a.tmps[39]?.getD undef = .pointer (some ⟨b, 0, none⟩) := by simpa using s39
        rw [if_pos (Flow.wanted_none rfl)]
        clear hfr hdep hear
        go_simp
        exact hK _ _ (show Gr W W from Gr.refl W) hinv (fun _ => True.intro) (fun d hd => by cases hd; rfl)
      refine Flow.StepsZ.cons (fun a W hfr hinv hear hdep K hK => ?_) ?_
      · have s40 : a.tmps.getD 40 undef = .pointer (some ⟨b, 0, none⟩) := hdep 40 (by kernel_rfl)
        have t40 : a.tmps[40]?.getD undef = .pointer (some ⟨b, 0, none⟩) := by simpa using s40
        have hc := HA.out W hinv
        rw [if_pos (Flow.wanted_none rfl)]
        clear hfr hdep hear
        go_simp
        exact hK _ _ (show Gr W W from Gr.refl W) hinv (fun _ => True.intro) (fun d hd => by cases hd; rfl)
      refine Flow.StepsZ.cons (fun a W hfr hinv hear hdep K hK => ?_) ?_
      · have s1 : a.tmps.getD 1 undef = .int .i64 (i : Int) := hfr.at 1 (by kernel_rfl)
        have t1 : a.tmps[1]?.getD undef = .int .i64 (i : Int) := by simpa using s1
        rw [if_pos (Flow.wanted_none rfl)]
        clear hfr hdep hear
        go_simp
        exact hK _ _ (show Gr W W from Gr.refl W) hinv (fun _ => True.intro) (fun d hd => by cases hd; rfl)
      refine Flow.StepsZ.cons (fun a W hfr hinv hear hdep K hK => ?_) ?_
      · have s0 : a.tmps.getD 0 undef = .pointer (some ⟨b, 0, none⟩) := hfr.at 0 (by kernel_rfl)
        have t0 : a.tmps[0]?.getD undef = .pointer (some ⟨b, 0, none⟩) := by simpa using s0
        rw [if_pos (Flow.wanted_none rfl)]
        clear hfr hdep hear
        go_simp
        exact hK _ _ (show Gr W W from Gr.refl W) hinv (fun _ => True.intro) (fun d hd => by cases hd; rfl)
      refine Flow.StepsZ.cons (fun a W hfr hinv hear hdep K hK => ?_) ?_
      · have s43 : a.tmps.getD 43 undef = .pointer (some ⟨b, 0, none⟩) := hdep 43 (by kernel_rfl)
        have t43 : a.tmps[43]?.getD undef = .pointer (some ⟨b, 0, none⟩) := by simpa using s43
        rw [if_pos (Flow.wanted_none rfl)]
        clear hfr hdep hear
        go_simp
        exact hK _ _ (show Gr W W from Gr.refl W) hinv (fun _ => True.intro) (fun d hd => by cases hd; rfl)
      refine Flow.StepsZ.cons (fun a W hfr hinv hear hdep K hK => ?_) ?_
      · have s44 : a.tmps.getD 44 undef = .pointer (some ⟨b, 0, none⟩) := hdep 44 (by kernel_rfl)
        have t44 : a.tmps[44]?.getD undef = .pointer (some ⟨b, 0, none⟩) := by simpa using s44
        rw [if_pos (Flow.wanted_none rfl)]
        clear hfr hdep hear
        go_simp
        exact hK _ _ (show Gr W W from Gr.refl W) hinv (fun _ => True.intro) (fun d hd => by cases hd; rfl)
      refine Flow.StepsZ.cons (fun a W hfr hinv hear hdep K hK => ?_) ?_
      · have s45 : a.tmps.getD 45 undef = .pointer (some ⟨b, 0, none⟩) := hdep 45 (by kernel_rfl)
        have t45 : a.tmps[45]?.getD undef = .pointer (some ⟨b, 0, none⟩) := by simpa using s45
        have hc := HA.out W hinv
        rw [if_pos (Flow.wanted_none rfl)]
        clear hfr hdep hear
        go_simp
        exact hK _ _ (show Gr W W from Gr.refl W) hinv (fun _ => True.intro) (fun d hd => by cases hd; rfl)
      refine Flow.StepsZ.cons (fun a W hfr hinv hear hdep K hK => ?_) ?_
      · have s1 : a.tmps.getD 1 undef = .int .i64 (i : Int) := hfr.at 1 (by kernel_rfl)
        have t1 : a.tmps[1]?.getD undef = .int .i64 (i : Int) := by simpa using s1
        rw [if_pos (Flow.wanted_none rfl)]
        clear hfr hdep hear
        go_simp
        exact hK _ _ (show Gr W W from Gr.refl W) hinv (fun _ => True.intro) (fun d hd => by cases hd; rfl)
      refine Flow.StepsZ.cons (fun a W hfr hinv hear hdep K hK => ?_) ?_
      · have s46 : a.tmps.getD 46 undef = .slice (some ⟨gs, 0, none⟩) N cs := hdep 46 (by kernel_rfl)
        have t46 : a.tmps[46]?.getD undef = .slice (some ⟨gs, 0, none⟩) N cs := by simpa using s46
        have s47 : a.tmps.getD 47 undef = .int .i64 (i : Int) := hdep 47 (by kernel_rfl)
        have t47 : a.tmps[47]?.getD undef = .int .i64 (i : Int) := by simpa using s47
        rw [if_pos (Flow.wanted_none rfl)]
        clear hfr hdep hear
        go_simp
        exact hK _ _ (show Gr W W from Gr.refl W) hinv (fun _ => True.intro) (fun d hd => by cases hd; rfl)
      refine Flow.StepsZ.cons (fun a W hfr hinv hear hdep K hK => ?_) ?_
      · have s48 : a.tmps.getD 48 undef = .pointer (some ⟨gs, i, none⟩) := hdep 48 (by kernel_rfl)
        have t48 : a.tmps[48]?.getD undef = .pointer (some ⟨gs, i, none⟩) := by simpa using s48
        have hc := HV.out W hinv
        rw [if_pos (Flow.wanted_none rfl)]
        clear hfr hdep hear
        go_simp
        exact hK _ _ (show Gr W W from Gr.refl W) hinv (fun _ => True.intro) (fun d hd => by cases hd; rfl)
      refine Flow.StepsZ.cons (fun a W hfr hinv hear hdep K hK => ?_) ?_
      · have s49 : a.tmps.getD 49 undef = .slice (some ⟨gu, 0, none⟩) ss.length cu := hdep 49 (by kernel_rfl)
        have t49 : a.tmps[49]?.getD undef = .slice (some ⟨gu, 0, none⟩) ss.length cu := by simpa using s49
        rw [if_pos (Flow.wanted_none rfl)]
        clear hfr hdep
        refine app_sec (.const (.slice none 0 0)) (.tmp 49) rfl rfl (Row.empty W) (by simpa [Act.eval] using s49) (HR.out W hinv) rfl (by have := HL.out; simp; omega) ?_
        intro v' w' h1 h2 h3
        have hg2 : Gr W w' := (Gr.refl W).own h2 (fun q e => by cases e)
        have hq2 : ∀ q, v'.ownBlock = some q → wd.heap.size ≤ q := fun q hq => h3.elim (fun h => by rw [hq] at h; cases h) (fun h => by rw [hq] at h; cases h; exact hinv.size)
        exact hK _ _ (show Gr W w' from hg2) (Gr.trans hinv hg2) (fun _ => True.intro) (fun d hd => by cases hd; exact ⟨h1, hq2⟩)
      refine Flow.StepsZ.cons (fun a W hfr hinv hear hdep K hK => ?_) ?_
      · have s5 : a.tmps.getD 5 undef = .pointer (some ⟨w0.heap.size, 0, none⟩) := hfr.at 5 (by kernel_rfl)
        have t5 : a.tmps[5]?.getD undef = .pointer (some ⟨w0.heap.size, 0, none⟩) := by simpa using s5
        rw [if_pos (Flow.wanted_none rfl)]
        clear hfr hdep
        refine wp_load_sec (.tmp 5) rfl (HX.out W hinv) (by simpa [Act.eval] using s5) ?_
        exact hK _ _ (show Gr W W from Gr.refl W) hinv (fun _ => True.intro) (fun d hd => by cases hd; rfl)
      refine Flow.StepsZ.cons (fun a W hfr hinv hear hdep K hK => ?_) ?_
      · have s51 : a.tmps.getD 51 undef = .agg (sec x) := hdep 51 (by kernel_rfl)
        have t51 : a.tmps[51]?.getD undef = .agg (sec x) := by simpa using s51
        rw [if_pos (Flow.wanted_none rfl)]
        clear hfr hdep
        refine wp_buildSecs 1 #[(0, .tmp 51)] rfl [x] rfl (by omega) (by omega) (by simp [Act.eval, t51, partsOf, partsL, sec]) ?_
        exact hK _ _ (show Gr W (W.alloc _) from Gr.new W _) (Gr.trans hinv (Gr.new W _)) (fun _ => True.intro) (fun d hd => by cases hd; exact ⟨_, rfl, Row.lit W [x] 1 rfl (by omega)⟩)
      refine Flow.StepsZ.cons (fun a W hfr hinv hear hdep K hK => ?_) ?_
      · have s50 : (Row W (a.tmps.getD 50 undef) ss ∧ ∀ q, (a.tmps.getD 50 undef).ownBlock = some q → wd.heap.size ≤ q) := hdep 50 (by kernel_rfl)
        have s52 : (∃ q, (a.tmps.getD 52 undef) = .slice (some ⟨q, 0, none⟩) 1 1 ∧ Row W (.slice (some ⟨q, 0, none⟩) 1 1) [x]) := hdep 52 (by kernel_rfl)
        rw [if_pos (Flow.wanted_none rfl)]
        clear hfr hdep
        obtain ⟨r50, l50⟩ := s50
        obtain ⟨q, e52, r52⟩ := s52
        refine app_sec (.tmp 50) (.tmp 52) rfl (by simp [Act.eval]) r50 (by simpa [Act.eval] using e52) r52 rfl HL.out ?_
        intro v' w' h1 h2 h3
        have hq2 : ∀ q, v'.ownBlock = some q → wd.heap.size ≤ q := fun q hq => h3.elim (fun h => l50 q (h.symm.trans hq)) (fun h => by rw [hq] at h; cases h; exact hinv.size)
        exact hK _ _ True.intro (hinv.own h2 l50) (fun _ => True.intro) (fun d hd => by cases hd; exact ⟨h1, hq2⟩)
      refine Flow.StepsZ.cons (fun a W hfr hinv hear hdep K hK => ?_) ?_
      · have s41 : a.tmps.getD 41 undef = .slice (some ⟨gs, 0, none⟩) N cs := hdep 41 (by kernel_rfl)
        have t41 : a.tmps[41]?.getD undef = .slice (some ⟨gs, 0, none⟩) N cs := by simpa using s41
        have s42 : a.tmps.getD 42 undef = .int .i64 (i : Int) := hdep 42 (by kernel_rfl)
        have t42 : a.tmps[42]?.getD undef = .int .i64 (i : Int) := by simpa using s42
        rw [if_pos (Flow.wanted_none rfl)]
        clear hfr hdep hear
        go_simp
        exact hK _ _ (show Gr W W from Gr.refl W) hinv (fun _ => True.intro) (fun d hd => by cases hd; rfl)
      refine Flow.StepsZ.cons (fun a W hfr hinv hear hdep K hK => ?_) ?_
      · have s54 : a.tmps.getD 54 undef = .pointer (some ⟨gs, i, none⟩) := hdep 54 (by kernel_rfl)
        have t54 : a.tmps[54]?.getD undef = .pointer (some ⟨gs, i, none⟩) := by simpa using s54
        have s53 : (Row W (a.tmps.getD 53 undef) (ss ++ [x]) ∧ ∀ q, (a.tmps.getD 53 undef).ownBlock = some q → wd.heap.size ≤ q) := hdep 53 (by kernel_rfl)
        rw [if_pos (Flow.wanted_none rfl)]
        clear hfr hdep
        obtain ⟨r53, l53⟩ := s53
        obtain ⟨g, c, e53, hgl, hcl, hcm⟩ := r53.full (by simp)
        rw [e53] at r53 l53
        have t53 : a.tmps[53]?.getD undef = .slice (some ⟨g, 0, none⟩) (ss ++ [x]).length c := by simpa using e53
        have hoc := HV.out W hinv
        have hof := HFz.out W hinv
        obtain ⟨n, hn⟩ : ∃ n, n = (ss ++ [x]).length := ⟨_, rfl⟩
        rw [← hn] at r53 l53 t53
        clear hn e53 hcl
        go_simp
        exact hK undef _ True.intro ⟨W, g, n, c, hinv, r53, l53 g rfl, rfl⟩ True.intro (fun d hd => by cases hd)
      exact True.intro

end Go.Proofs.Ytkoalabacfjgbaa
