
/-
  An act of both: a barrier, a fuse, a loss of power, nothing.
-/
import Derived.Test.YtkoalabacfjgbaaDo1
namespace Go.Proofs.Ytkoalabacfjgbaa
open Go.RowKit Go.Maps

def BaS (s : St) : St := if s.dead then s else s.barrier
def BaE (s : St) : Int := if s.dead then 8 else 0
theorem Barrier_all {F : Nat → Prop} {p : Value} {s : St} (w : World) (h : Dk w F p s) (hw : s.writes ≤ 1000000000) : Calls Try.prog 29 #[p] w fun e w' => Chg F p (BaS s) (.int .i64 (BaE s)) w e w' := by
  unfold BaS BaE
  by_cases hd : s.dead = true
  · rw [if_pos hd, if_pos hd]
    refine (Barrier_dead w h hd).mono ?_
    rintro e w' ⟨rfl, rfl⟩
    exact ⟨F, rfl, h, Upd.same _⟩
  · rw [if_neg hd, if_neg hd]
    exact Barrier_yes w h hw (by simpa using hd)
theorem refBarrier_all {G : Nat → Prop} {r : Value} {s : St} (w : World) (h : Rf w G r s) : Calls Try.prog 30 #[r] w fun e w' => ChgR G r (BaS s) (.bool (!s.dead)) w e w' := by
  unfold BaS
  by_cases hd : s.dead = true
  · rw [if_pos hd, hd]
    refine (refBarrier_dead w h hd).mono ?_
    rintro e w' ⟨rfl, rfl⟩
    exact ⟨G, rfl, h, Upd.same _⟩
  · rw [if_neg hd]
    have hd2 : s.dead = false := by simpa using hd
    rw [hd2]
    exact refBarrier_yes w h hd2

set_option maxRecDepth 100000 in
set_option maxHeartbeats 4000000 in
theorem do_barrier {F G : Nat → Prop} {p r : Value} {s : St} (w : World) (h : Pair w F G p r s) (a : Do) (ha : a.Ok) (v : Value) (hk : a.kind = 2) (hw : s.writes ≤ 1000000000) : Calls Try.prog 9 #[p, r, .agg (a.val v)] w fun e w' => DoRet w F G (s.does a) e w' := by
  obtain ⟨rb, gs, cs, V, hr, hrf⟩ := h.rf
  obtain ⟨pb, lv, pm, pL, hp, hdk⟩ := h.dk
  subst hr
  subst hp
  obtain ⟨p, hp⟩ : ∃ p, p = Value.pointer (some ⟨pb, 0, none⟩) := ⟨_, rfl⟩
  have HOk := Lib.hid hdk.ok
  rw [← hp] at h ⊢
  obtain ⟨kd, hkd⟩ : ∃ kd, kd = a.kind := ⟨_, rfl⟩
  obtain ⟨i, hi⟩ : ∃ i, i = a.i := ⟨_, rfl⟩
  obtain ⟨y, hy⟩ : ∃ y, y = a.byt := ⟨_, rfl⟩
  obtain ⟨nn, hnn⟩ : ∃ nn, nn = a.n := ⟨_, rfl⟩
  have hval : a.val v = #[.int .i64 kd, .int .i64 i, .int .i64 nn, .int .u8 (B8 y), v] := by unfold Do.val; rw [hkd, hi, hy, hnn]
  rw [hval]
  obtain ⟨wc, hwc⟩ : ∃ wc, wc = w.alloc (.cells #[.int .i64 kd, .int .i64 i, .int .i64 nn, .int .u8 (B8 y), v] TAct) := ⟨_, rfl⟩
  have hg : Gr w wc := by rw [hwc]; exact Gr.new w _
  have hb : Blk wc w.heap.size TAct #[.int .i64 kd, .int .i64 i, .int .i64 nn, .int .u8 (B8 y), v] := by rw [hwc]; exact Blk.new w _ _
  have hbl : w.heap.size < wc.heap.size := by rw [hwc]; simp
  obtain ⟨bx, hbx⟩ : ∃ bx, bx = w.heap.size := ⟨_, rfl⟩
  rw [← hbx] at hb hbl
  have HPr := Lib.hid (h.stays hg)
  have hFb : ¬ F bx := fun e => by rw [hbx] at e; have := h.dk.low _ e; omega
  have hGb : ¬ G bx := fun e => by rw [hbx] at e; have := h.rf.low _ e; omega
  have HBl : Hid (∀ W F', Upd F F' wc W → Blk W bx TAct #[.int .i64 kd, .int .i64 i, .int .i64 nn, .int .u8 (B8 y), v] ∧ bx < W.heap.size) := Lib.hid fun W F' u => ⟨hb.stays (u.block bx hbl hFb), Nat.lt_of_lt_of_le hbl u.size⟩
  have HGb := Lib.hid hGb
  have HG := Lib.hid hg
  have HB := Lib.hid hb
  have hdoes : s.does a = BaS s := by unfold St.does BaS; rw [if_neg (by omega), if_pos hk]
  rw [hdoes]
  have hk2 : kd = 2 := by rw [hkd, hk]
  subst hk2
  obtain ⟨s1, hs1⟩ : ∃ s1, s1 = BaS s := ⟨_, rfl⟩
  obtain ⟨E, hE⟩ : ∃ E, E = BaE s := ⟨_, rfl⟩
  have HC1 := Lib.hid (Barrier_all wc HPr.out.dk hw)
  rw [← hs1, ← hE] at HC1
  rw [← hs1]
  have HEE : Hid (E = if s.dead then 8 else 0) := Lib.hid hE
  have HS1 := Lib.hid hs1
  have HRb : Hid (∀ W, Rf W G (.pointer (some ⟨rb, 0, none⟩)) s → Calls Try.prog 30 #[.pointer (some ⟨rb, 0, none⟩)] W fun e w' => ChgR G (.pointer (some ⟨rb, 0, none⟩)) s1 (.bool (!s.dead)) W e w') := Lib.hid fun W h => by rw [HS1.out]; exact refBarrier_all W h
  obtain ⟨B, hB⟩ : ∃ B, B = s.dead := ⟨_, rfl⟩
  rw [← hB] at HEE HRb
  clear h hrf hdk ha hval hdoes hi hy hnn hg hb hbl hFb hGb hE hs1 hw hp hk hkd hB
  go_enter Try.func9, Try.ntmps9
  go_wp2_with fail
  rw [← hwc]
  clear hwc
  refine HC1.out.mono ?_
  rintro e W ⟨F', rfl, hd1, hu1⟩
  obtain ⟨hrf1, hap1⟩ := HPr.out.code hu1
  have HDk := Lib.hid hd1
  have HU1 := Lib.hid hu1
  have HAp := Lib.hid hap1
  have HC2 := Lib.hid (HRb.out W hrf1)
  clear hd1 hu1 hap1 hrf1 HC1 HRb
  go_wp2_with fail
  refine HC2.out.mono ?_
  rintro e W3 ⟨G', rfl, hr3, hu3⟩
  have HF : Hid (DoRet w F G s1 (.returned (.tuple #[p, .pointer (some ⟨rb, 0, none⟩), .bool true])) W3) := Lib.hid (by
    obtain ⟨h1, h2⟩ := Pair.doc HU1.out HDk.out HAp.out hu3 hr3
    exact ⟨_, _, _, _, rfl, h1, Upd.pre HG.out h2⟩)
  clear hr3 hu3 HC2 HDk HU1 HAp HPr HB HBl
  cases B with
  | true =>
    have hE8 : E = 8 := HEE.out
    subst hE8
    clear HEE
    go_wp2
    go_ret3
    exact HF.out
  | false =>
    have hE0 : E = 0 := by have := HEE.out; simpa using this
    subst hE0
    clear HEE
    go_wp2
    go_ret3
    exact HF.out

set_option maxRecDepth 100000 in
set_option maxHeartbeats 4000000 in
theorem do_fuse {F G : Nat → Prop} {p r : Value} {s : St} (w : World) (h : Pair w F G p r s) (a : Do) (ha : a.Ok) (v : Value) (hk : a.kind = 3) (hw : s.writes ≤ 1000000000) : Calls Try.prog 9 #[p, r, .agg (a.val v)] w fun e w' => DoRet w F G (s.does a) e w' := by
  obtain ⟨rb, gs, cs, V, hr, hrf⟩ := h.rf
  obtain ⟨pb, lv, pm, pL, hp, hdk⟩ := h.dk
  subst hr
  subst hp
  obtain ⟨p, hp⟩ : ∃ p, p = Value.pointer (some ⟨pb, 0, none⟩) := ⟨_, rfl⟩
  have HOk := Lib.hid hdk.ok
  rw [← hp] at h ⊢
  obtain ⟨kd, hkd⟩ : ∃ kd, kd = a.kind := ⟨_, rfl⟩
  obtain ⟨i, hi⟩ : ∃ i, i = a.i := ⟨_, rfl⟩
  obtain ⟨y, hy⟩ : ∃ y, y = a.byt := ⟨_, rfl⟩
  obtain ⟨nn, hnn⟩ : ∃ nn, nn = a.n := ⟨_, rfl⟩
  have hval : a.val v = #[.int .i64 kd, .int .i64 i, .int .i64 nn, .int .u8 (B8 y), v] := by unfold Do.val; rw [hkd, hi, hy, hnn]
  rw [hval]
  obtain ⟨wc, hwc⟩ : ∃ wc, wc = w.alloc (.cells #[.int .i64 kd, .int .i64 i, .int .i64 nn, .int .u8 (B8 y), v] TAct) := ⟨_, rfl⟩
  have hg : Gr w wc := by rw [hwc]; exact Gr.new w _
  have hb : Blk wc w.heap.size TAct #[.int .i64 kd, .int .i64 i, .int .i64 nn, .int .u8 (B8 y), v] := by rw [hwc]; exact Blk.new w _ _
  have hbl : w.heap.size < wc.heap.size := by rw [hwc]; simp
  obtain ⟨bx, hbx⟩ : ∃ bx, bx = w.heap.size := ⟨_, rfl⟩
  rw [← hbx] at hb hbl
  have HPr := Lib.hid (h.stays hg)
  have hFb : ¬ F bx := fun e => by rw [hbx] at e; have := h.dk.low _ e; omega
  have hGb : ¬ G bx := fun e => by rw [hbx] at e; have := h.rf.low _ e; omega
  have HBl : Hid (∀ W F', Upd F F' wc W → Blk W bx TAct #[.int .i64 kd, .int .i64 i, .int .i64 nn, .int .u8 (B8 y), v] ∧ bx < W.heap.size) := Lib.hid fun W F' u => ⟨hb.stays (u.block bx hbl hFb), Nat.lt_of_lt_of_le hbl u.size⟩
  have HGb := Lib.hid hGb
  have HG := Lib.hid hg
  have HB := Lib.hid hb
  have hdoes : s.does a = { s with fuse := nn } := by unfold St.does; rw [if_neg (by omega), if_neg (by omega), if_pos hk, hnn]
  rw [hdoes]
  have hk2 : kd = 3 := by rw [hkd, hk]
  subst hk2
  have hn0 : -9223372036854775808 ≤ nn := by rw [hnn]; exact ha.n0
  have hn1 : nn ≤ 9223372036854775807 := by rw [hnn]; exact ha.n1
  have HC1 := Lib.hid (Fuse_any wc HPr.out.dk nn hn0 hn1)
  have hbx2 := HB.out.cell 2
  simp at hbx2
  clear h hrf hdk ha hval hdoes hi hy hnn hg hb hbl hFb hGb hw hp hk hkd
  go_enter Try.func9, Try.ntmps9
  go_wp2_with fail
  rw [← hwc]
  clear hbx2
  refine HC1.out.mono ?_
  rintro e W ⟨rfl, hd1, hu1⟩
  obtain ⟨hrf1, hap1⟩ := HPr.out.code hu1
  obtain ⟨hbW, hbxl⟩ := HBl.out W F hu1
  obtain ⟨rb2, gs2, cs2, V2, er2, hr2⟩ := hrf1
  have erb : rb = rb2 := by simpa using er2
  subst erb
  have hne : rb ≠ bx := fun e => HGb.out (by rw [← e]; exact hr2.ownB)
  have hc1 := hr2.cells.2.1
  have hf1 := hr2.blk.frozen 1
  have hbx2 := hbW.cell 2
  simp at hbx2
  have hbx3 : (W.setCell ⟨rb, 1, none⟩ (.int .i64 nn)).cell? ⟨bx, 2, none⟩ = some (.int .i64 nn) := by
    have := (hbW.far (p := ⟨rb, 1, none⟩) (fun e => hne e.symm) (.int .i64 nn)).cell 2
    simpa using this
  have hB1 := hr2.blk.set 1 (.int .i64 nn)
  have hc2 := hB1.cell 1
  have hf2 := hB1.frozen 1
  simp at hc2
  have HR3 : Hid (0 ≤ nn → Rf (W.setCell ⟨rb, 1, none⟩ (.int .i64 nn)) G (.pointer (some ⟨rb, 0, none⟩)) { s with fuse := nn }) := Lib.hid fun h0 => ⟨_, _, _, _, rfl, hr2.block (s' := { s with fuse := nn }) rfl rfl hn0 hn1 (by
    have e : nrm nn = nn := by unfold nrm; rw [if_neg (by omega)]
    show Blk _ _ TRf #[_, .int .i64 (nrm nn), _, _]
    rw [e]
    simpa using hB1) (fun k _ hk => Below.heap_setCell _ _ _ k hk) (by simp [World.setCell])⟩
  have HR4 : Hid (nn < 0 → Rf ((W.setCell ⟨rb, 1, none⟩ (.int .i64 nn)).setCell ⟨rb, 1, none⟩ (.int .i64 (-1))) G (.pointer (some ⟨rb, 0, none⟩)) { s with fuse := nn }) := Lib.hid fun h0 => ⟨_, _, _, _, rfl, hr2.block (s' := { s with fuse := nn }) rfl rfl hn0 hn1 (by
    have e : nrm nn = -1 := by unfold nrm; rw [if_pos h0]
    show Blk _ _ TRf #[_, .int .i64 (nrm nn), _, _]
    rw [e]
    simpa using hB1.set 1 (.int .i64 (-1))) (fun k _ hk => (Below.heap_setCell _ _ _ k hk).trans (Below.heap_setCell _ _ _ k hk)) (by simp [World.setCell])⟩
  have HU3 : Hid (Upd G G W (W.setCell ⟨rb, 1, none⟩ (.int .i64 nn))) := Lib.hid (upd_cell hr2.ownB _)
  have HU4 : Hid (Upd G G W ((W.setCell ⟨rb, 1, none⟩ (.int .i64 nn)).setCell ⟨rb, 1, none⟩ (.int .i64 (-1)))) := Lib.hid ((upd_cell hr2.ownB _).trans (upd_cell hr2.ownB _))
  have HDk := Lib.hid hd1
  have HU1 := Lib.hid hu1
  have HAp := Lib.hid hap1
  clear hd1 hu1 hap1 HC1 hbW er2 hr2 hB1 hne HPr HBl HB
  rw [hbx] at hbx2 hbx3
  by_cases h0 : nn < 0
  · have HF : Hid (DoRet w F G { s with fuse := nn } (.returned (.tuple #[p, .pointer (some ⟨rb, 0, none⟩), .bool true])) _) := Lib.hid (by
      obtain ⟨h1, h2⟩ := Pair.doc HU1.out HDk.out HAp.out HU4.out (HR4.out h0)
      exact ⟨_, _, _, _, rfl, h1, Upd.pre HG.out h2⟩)
    clear HR3 HR4 HU3 HU4 HDk HU1 HAp
    go_wp2_with fail
    go_ret3
    exact HF.out
  · have HF : Hid (DoRet w F G { s with fuse := nn } (.returned (.tuple #[p, .pointer (some ⟨rb, 0, none⟩), .bool true])) _) := Lib.hid (by
      obtain ⟨h1, h2⟩ := Pair.doc HU1.out HDk.out HAp.out HU3.out (HR3.out (by omega))
      exact ⟨_, _, _, _, rfl, h1, Upd.pre HG.out h2⟩)
    clear HR3 HR4 HU3 HU4 HDk HU1 HAp
    go_wp2_with fail
    go_ret3
    exact HF.out

set_option maxRecDepth 100000 in
set_option maxHeartbeats 4000000 in
theorem do_crash {F G : Nat → Prop} {p r : Value} {s : St} (w : World) (h : Pair w F G p r s) (a : Do) (ha : a.Ok) (q : Option Addr) (n c : Nat) (hz : Nums w q n c a.picks) (hk : a.kind = 4) (hw : s.writes ≤ 1000000000) : Calls Try.prog 9 #[p, r, .agg (a.val (.slice q n c))] w fun e w' => DoRet w F G (s.does a) e w' := by
  obtain ⟨rb, gs, cs, V, hr, hrf⟩ := h.rf
  obtain ⟨pb, lv, pm, pL, hp, hdk⟩ := h.dk
  subst hr
  subst hp
  obtain ⟨p, hp⟩ : ∃ p, p = Value.pointer (some ⟨pb, 0, none⟩) := ⟨_, rfl⟩
  have HOk := Lib.hid hdk.ok
  rw [← hp] at h ⊢
  obtain ⟨kd, hkd⟩ : ∃ kd, kd = a.kind := ⟨_, rfl⟩
  obtain ⟨i, hi⟩ : ∃ i, i = a.i := ⟨_, rfl⟩
  obtain ⟨y, hy⟩ : ∃ y, y = a.byt := ⟨_, rfl⟩
  obtain ⟨nn, hnn⟩ : ∃ nn, nn = a.n := ⟨_, rfl⟩
  have hval : a.val (.slice q n c) = #[.int .i64 kd, .int .i64 i, .int .i64 nn, .int .u8 (B8 y), .slice q n c] := by unfold Do.val; rw [hkd, hi, hy, hnn]
  rw [hval]
  obtain ⟨wc, hwc⟩ : ∃ wc, wc = w.alloc (.cells #[.int .i64 kd, .int .i64 i, .int .i64 nn, .int .u8 (B8 y), .slice q n c] TAct) := ⟨_, rfl⟩
  have hg : Gr w wc := by rw [hwc]; exact Gr.new w _
  have hb : Blk wc w.heap.size TAct #[.int .i64 kd, .int .i64 i, .int .i64 nn, .int .u8 (B8 y), .slice q n c] := by rw [hwc]; exact Blk.new w _ _
  have hbl : w.heap.size < wc.heap.size := by rw [hwc]; simp
  obtain ⟨bx, hbx⟩ : ∃ bx, bx = w.heap.size := ⟨_, rfl⟩
  rw [← hbx] at hb hbl
  have HPr := Lib.hid (h.stays hg)
  have hFb : ¬ F bx := fun e => by rw [hbx] at e; have := h.dk.low _ e; omega
  have hGb : ¬ G bx := fun e => by rw [hbx] at e; have := h.rf.low _ e; omega
  have HBl : Hid (∀ W F', Upd F F' wc W → Blk W bx TAct #[.int .i64 kd, .int .i64 i, .int .i64 nn, .int .u8 (B8 y), .slice q n c] ∧ bx < W.heap.size) := Lib.hid fun W F' u => ⟨hb.stays (u.block bx hbl hFb), Nat.lt_of_lt_of_le hbl u.size⟩
  have HGb := Lib.hid hGb
  have HG := Lib.hid hg
  have HB := Lib.hid hb
  have hdoes : s.does a = s.crash a.picks := by unfold St.does; rw [if_neg (by omega), if_neg (by omega), if_neg (by omega), if_pos hk]
  rw [hdoes]
  have hk2 : kd = 4 := by rw [hkd, hk]
  subst hk2
  have HC1 := Lib.hid (Crash_any wc HPr.out.dk hw q n c a.picks (hz.gr hg))
  have hbx4 := HB.out.cell 4
  simp at hbx4
  have HRC : Hid (∀ W, Gr wc W → Calls Try.prog 12 #[.pointer (some ⟨rb, 0, none⟩), .slice q n c] W fun e w' => NewRf W w' e (s.crash a.picks)) := Lib.hid fun W g => refCrash_any W (HPr.out.rf.gr g) (fun j => Nat.le_trans (HOk.out.less j) hw) q n c a.picks ((hz.gr hg).gr g)
  clear h hrf hdk ha hval hdoes hi hy hnn hg hb hbl hFb hGb hw hp hk hkd hz
  go_enter Try.func9, Try.ntmps9
  go_wp2_with fail
  rw [← hwc, ← hbx]
  clear hbx4
  refine HC1.out.mono ?_
  rintro e W ⟨p2, F', rfl, hd1, hg1, hn1⟩
  have hbx4 := (HB.out.gr hg1).cell 4
  simp at hbx4
  rw [hbx] at hbx4
  obtain ⟨pb2, lv2, pm2, pL2, rfl, hdk2⟩ := hd1
  have HDk : Hid (Dk W F' (.pointer (some ⟨pb2, 0, none⟩)) (s.crash a.picks)) := Lib.hid ⟨_, _, _, _, rfl, hdk2⟩
  have HC2 := Lib.hid (HRC.out W hg1)
  have HG1 := Lib.hid hg1
  have HN1 := Lib.hid hn1
  clear hg1 hn1 hdk2 HC1 HRC
  go_wp2_with fail
  refine HC2.out.mono ?_
  rintro e W3 ⟨r3, G', rfl, hr3, hg3, hn3⟩
  have HF : Hid (DoRet w F G (s.crash a.picks) (.returned (.tuple #[.pointer (some ⟨pb2, 0, none⟩), r3, .bool true])) W3) := Lib.hid (by
    refine ⟨_, _, F', G', rfl, ⟨HDk.out.gr hg3, hr3, fun k hk hk2 => ?_⟩, ?_⟩
    · have h1 := HDk.out.low k hk
      have h2 := hn3 k hk2
      omega
    · have hgg : Gr w W3 := Gr.trans HG.out (Gr.trans HG1.out hg3)
      refine ⟨hgg.os, hgg.tape, hgg.output, hgg.size, fun k hk _ => hgg.block k hk, fun k hk => .inr ?_⟩
      rcases hk with hk | hk
      · exact Nat.le_trans HG.out.size (HN1.out k hk)
      · exact Nat.le_trans HG.out.size (Nat.le_trans HG1.out.size (hn3 k hk)))
  clear hr3 hg3 hn3 HC2 HDk HG1 HN1
  go_wp2
  go_ret3
  exact HF.out

set_option maxRecDepth 100000 in
set_option maxHeartbeats 4000000 in
theorem do_none {F G : Nat → Prop} {p r : Value} {s : St} (w : World) (h : Pair w F G p r s) (a : Do) (ha : a.Ok) (v : Value) (h1 : a.kind ≠ 1) (h2 : a.kind ≠ 2) (h3 : a.kind ≠ 3) (h4 : a.kind ≠ 4) (hw : s.writes ≤ 1000000000) : Calls Try.prog 9 #[p, r, .agg (a.val v)] w fun e w' => DoRet w F G (s.does a) e w' := by
  obtain ⟨rb, gs, cs, V, hr, hrf⟩ := h.rf
  obtain ⟨pb, lv, pm, pL, hp, hdk⟩ := h.dk
  subst hr
  subst hp
  obtain ⟨p, hp⟩ : ∃ p, p = Value.pointer (some ⟨pb, 0, none⟩) := ⟨_, rfl⟩
  have HOk := Lib.hid hdk.ok
  rw [← hp] at h ⊢
  obtain ⟨kd, hkd⟩ : ∃ kd, kd = a.kind := ⟨_, rfl⟩
  obtain ⟨i, hi⟩ : ∃ i, i = a.i := ⟨_, rfl⟩
  obtain ⟨y, hy⟩ : ∃ y, y = a.byt := ⟨_, rfl⟩
  obtain ⟨nn, hnn⟩ : ∃ nn, nn = a.n := ⟨_, rfl⟩
  have hval : a.val v = #[.int .i64 kd, .int .i64 i, .int .i64 nn, .int .u8 (B8 y), v] := by unfold Do.val; rw [hkd, hi, hy, hnn]
  rw [hval]
  obtain ⟨wc, hwc⟩ : ∃ wc, wc = w.alloc (.cells #[.int .i64 kd, .int .i64 i, .int .i64 nn, .int .u8 (B8 y), v] TAct) := ⟨_, rfl⟩
  have hg : Gr w wc := by rw [hwc]; exact Gr.new w _
  have hb : Blk wc w.heap.size TAct #[.int .i64 kd, .int .i64 i, .int .i64 nn, .int .u8 (B8 y), v] := by rw [hwc]; exact Blk.new w _ _
  have hbl : w.heap.size < wc.heap.size := by rw [hwc]; simp
  obtain ⟨bx, hbx⟩ : ∃ bx, bx = w.heap.size := ⟨_, rfl⟩
  rw [← hbx] at hb hbl
  have HPr := Lib.hid (h.stays hg)
  have hFb : ¬ F bx := fun e => by rw [hbx] at e; have := h.dk.low _ e; omega
  have hGb : ¬ G bx := fun e => by rw [hbx] at e; have := h.rf.low _ e; omega
  have HBl : Hid (∀ W F', Upd F F' wc W → Blk W bx TAct #[.int .i64 kd, .int .i64 i, .int .i64 nn, .int .u8 (B8 y), v] ∧ bx < W.heap.size) := Lib.hid fun W F' u => ⟨hb.stays (u.block bx hbl hFb), Nat.lt_of_lt_of_le hbl u.size⟩
  have HGb := Lib.hid hGb
  have HG := Lib.hid hg
  have HB := Lib.hid hb
  have hdoes : s.does a = s := by unfold St.does; rw [if_neg h1, if_neg h2, if_neg h3, if_neg h4]
  rw [hdoes]
  have e1 : (kd == 1) = false := by rw [hkd]; simpa using h1
  have e2 : (kd == 2) = false := by rw [hkd]; simpa using h2
  have e3 : (kd == 3) = false := by rw [hkd]; simpa using h3
  have e4 : (kd == 4) = false := by rw [hkd]; simpa using h4
  have HF : Hid (DoRet w F G s (.returned (.tuple #[p, .pointer (some ⟨rb, 0, none⟩), .bool true])) wc) := Lib.hid ⟨_, _, F, G, rfl, HPr.out, Upd.of_gr hg⟩
  clear h hrf hdk ha hval hdoes hi hy hnn hg hb hbl hFb hGb hw hp hkd h1 h2 h3 h4 HB HBl HPr
  go_enter Try.func9, Try.ntmps9
  go_wp2_with fail
  rw [← hwc]
  go_ret3
  exact HF.out

set_option maxRecDepth 100000 in
/-- Any act. -/
theorem do_any {F G : Nat → Prop} {p r : Value} {s : St} (w : World) (h : Pair w F G p r s) (a : Do) (ha : a.Ok) (q : Option Addr) (n c : Nat) (hz : Nums w q n c a.picks) (hw : s.writes ≤ 1000000000) : Calls Try.prog 9 #[p, r, .agg (a.val (.slice q n c))] w fun e w' => DoRet w F G (s.does a) e w' := by
  by_cases h1 : a.kind = 1
  · exact do_write w h a ha h1 _ hw
  · by_cases h2 : a.kind = 2
    · exact do_barrier w h a ha _ h2 hw
    · by_cases h3 : a.kind = 3
      · exact do_fuse w h a ha _ h3 hw
      · by_cases h4 : a.kind = 4
        · exact do_crash w h a ha q n c hz h4 hw
        · exact do_none w h a ha _ h1 h2 h3 h4 hw

end Go.Proofs.Ytkoalabacfjgbaa
