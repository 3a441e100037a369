
/-
  What changes an update back: the program's.
-/
import Derived.Test.YtfjdlcgojigogaaRecTurn
import Derived.Test.YtfjdlcgojigogaaFlowS
import Derived.Deep.DeepCutAuto
import Derived.Deep.CutBlock
namespace Go.Proofs.Ytfjdlcgojigogaa
open Go.RowKit Cr

theorem results_rec2 {fn : Func} {p q : Tmp} (h : fn.results = #[.cell p TR, .tmp q]) (tmps : Array Value) (w : World) (g : Nat) (cs : Array Value) (x : Value) (hs : cs.size = 8)
    (hp : tmps.getD p undef = .pointer (some ⟨g, 0, none⟩)) (hx : tmps.getD q undef = x) (hb : Blk w g TR cs) : (results fn tmps).run Try.prog w = .ok (.tuple #[.agg cs, x]) w := by
  have hp' : tmps[p]?.getD undef = .pointer (some ⟨g, 0, none⟩) := by simpa using hp
  have hx' : tmps[q]?.getD undef = x := by simpa using hx
  have hl := run_loadVar_row (P := Try.prog) w g TR TR cs (0, 0) _ hb Try.underlying26 rfl (by rw [hs]; exact rec_size)
  simp [results, h, hp', hx', asAddr, hl]

/-- Behind the store: the result's cell. -/
def FinB (w : World) (t pr p : Nat) (g o : Int) (b : List Int) (W : World) : Prop :=
  ∃ q m d, Blk W (w.heap.size + 1) TR #[.int .i64 2, .int .u64 t, .int .u64 pr, .int .u64 p, .int .i64 g, .int .i64 o, .slice none 0 0, .slice q m d] ∧ Byt W q m d b ∧ Gr w W
def InB (w W0 : World) (t pr p : Nat) (g o : Int) (b : List Int) (l : Nat → Bool) (W : World) : Prop := cond (l 14) (FinB w t pr p g o b W) (Gr W0 W)
theorem InB.ahead {w W0 W : World} {t pr p : Nat} {g o : Int} {b : List Int} {l : Nat → Bool} (h : InB w W0 t pr p g o b l W) (hl : l 14 = false) : Gr W0 W := by unfold InB at h; rw [hl] at h; exact h
theorem InB.next {w W0 W : World} {t pr p : Nat} {g o : Int} {b : List Int} {l : Nat → Bool} (hl : l 14 = false) (h : Gr W0 W) (i : Nat) (hi : 14 ≠ i) : InB w W0 t pr p g o b (Flow.upd l i) W := by unfold InB; rw [Flow.upd_other l hi, hl]; exact h
theorem InB.keep {w W0 W : World} {t pr p : Nat} {g o : Int} {b : List Int} {l : Nat → Bool} (h : InB w W0 t pr p g o b l W) (i : Nat) (hi : 14 ≠ i) : InB w W0 t pr p g o b (Flow.upd l i) W := by unfold InB; rw [Flow.upd_other l hi]; exact h
theorem InB.last {w W0 W : World} {t pr p : Nat} {g o : Int} {b : List Int} {l : Nat → Bool} (h : FinB w t pr p g o b W) : InB w W0 t pr p g o b (Flow.upd l 14) W := by unfold InB; rw [Flow.upd_same]; exact h
theorem Oth.ofGr {f : Nat} {W W' : World} (g : Gr W W') : Oth f W W' := (Oth.refl f W).gr g

def SlBk (d : Nat) (z : Nat) (t : Nat) (pr : Nat) (p : Nat) (g : Int) (o : Int) (pb : Option Addr) (nb : Nat) (cb : Nat) (b : List Int) (slot : Nat) (v : Value) (w : World) : Prop :=
  match slot with
  | 5 => v = .int .i64 0
  | 15 => v = .pointer (some ⟨d, 1, none⟩)
  | 16 => v = .int .u64 t
  | 17 => v = .int .u64 pr
  | 18 => v = .pointer (some ⟨d, 2, none⟩)
  | 19 => v = .int .u64 p
  | 20 => v = .pointer (some ⟨d, 4, none⟩)
  | 21 => v = .int .i64 g
  | 22 => v = .pointer (some ⟨d, 5, none⟩)
  | 23 => v = .int .i64 o
  | 24 => v = .pointer (some ⟨d, 6, none⟩)
  | 25 => v = .slice pb nb cb
  | 26 => ∃ r, v = .slice (some ⟨r, 0, none⟩) 1 1 ∧ z < r ∧ Blk w r 24 #[.slice pb nb cb]
  | 27 => OwnX (z + 1) w v b
  | 28 => ∃ q m e, v = .agg #[.int .i64 2, .int .u64 t, .int .u64 pr, .int .u64 p, .int .i64 g, .int .i64 o, .slice none 0 0, .slice q m e] ∧ Byt w q m e b ∧ ∀ y, q = some y → z + 1 ≤ y.block
  | _ => True
theorem slBk_oth {d z t pr p : Nat} {g o : Int} {pb : Option Addr} {nb cb : Nat} {b : List Int} {s : Nat} {v : Value} {w w' : World} (h : SlBk d z t pr p g o pb nb cb b s v w) (k : Oth z w w') : SlBk d z t pr p g o pb nb cb b s v w' := by
  unfold SlBk at *
  split <;> simp_all
  · obtain ⟨r, e, hr, hb⟩ := h
    exact ⟨r, e, hr, k.blk hb (by omega)⟩
  · obtain ⟨q, m, e, h1, h2, h3⟩ := h
    exact ⟨q, m, e, h1, k.byt h2 (fun y hy => h3 y hy), h3⟩
  · obtain ⟨q, m, e, h1, h2, h3⟩ := h
    exact ⟨q, m, e, h1, k.byt h2 (fun y hy => h3 y hy), h3⟩

set_option maxRecDepth 100000 in
set_option maxHeartbeats 4000000 in
theorem back_yes (c : Rc) (pb : Option Addr) (nb cb : Nat) (pa : Option Addr) (na ca : Nat) (pr : Nat) (w : World) (hm : mayR c = true) (hk : c.k = 1) (hb : Byt w pb nb cb c.b) (ha : Byt w pa na ca c.a) :
    Calls Try.prog 23 #[.agg #[.int .i64 c.k, .int .u64 c.t, .int .u64 c.p, .int .u64 c.x, .int .i64 c.g, .int .i64 c.o, .slice pb nb cb, .slice pa na ca], .int .u64 pr] w fun e w' => ∃ q m d, e = .returned (.tuple #[.agg #[.int .i64 2, .int .u64 c.t, .int .u64 pr, .int .u64 c.p, .int .i64 c.g, .int .i64 c.o, .slice none 0 0, .slice q m d], .int .i64 0]) ∧ Byt w' q m d c.b ∧ Gr w w' := by
  have HM : Hid (∀ W, Gr w W → Calls Try.prog 11 #[.agg #[.int .i64 c.k, .int .u64 c.t, .int .u64 c.p, .int .u64 c.x, .int .i64 c.g, .int .i64 c.o, .slice pb nb cb, .slice pa na ca]] W (RetB true W)) := Lib.hid fun W gr => by
    have h := mayR_any c pb nb cb pa na ca W (hb.kept gr) (ha.kept gr)
    rw [hm] at h
    exact h
  have hf := (mayR_fits hm).nb1
  have HY := Lib.hid hb
  have HT : Hid (tot [c.b] ≤ 140737488355328) := Lib.hid (by unfold tot; simp; omega)
  have HFL : Hid ([c.b].flatten = c.b) := Lib.hid (by simp)
  clear hm hb ha hf
  obtain ⟨k, t, p, x, g, o, b, a⟩ := c
  simp only at HM HY hk HT HFL
  subst hk
  have HB := Lib.hid ((Blk.new w TR #[.int .i64 1, .int .u64 t, .int .u64 p, .int .u64 x, .int .i64 g, .int .i64 o, .slice pb nb cb, .slice pa na ca]).alloc (.cells #[.int .i64 0, .int .u64 0, .int .u64 0, .int .u64 0, .int .i64 0, .int .i64 0, .slice none 0 0, .slice none 0 0] TR))
  have HZ0 := Blk.new (w.alloc (.cells #[.int .i64 1, .int .u64 t, .int .u64 p, .int .u64 x, .int .i64 g, .int .i64 o, .slice pb nb cb, .slice pa na ca] TR)) TR #[.int .i64 0, .int .u64 0, .int .u64 0, .int .u64 0, .int .i64 0, .int .i64 0, .slice none 0 0, .slice none 0 0]
  simp only [World.size_alloc] at HZ0
  have HZ := Lib.hid HZ0
  have HG := Lib.hid (((Gr.refl w).alloc (Nat.le_refl _) (.cells #[.int .i64 1, .int .u64 t, .int .u64 p, .int .u64 x, .int .i64 g, .int .i64 o, .slice pb nb cb, .slice pa na ca] TR)).alloc (by simp) (.cells #[.int .i64 0, .int .u64 0, .int .u64 0, .int .u64 0, .int .i64 0, .int .i64 0, .slice none 0 0, .slice none 0 0] TR))
  clear HZ0
  obtain ⟨c0, c1, c2, c3, c4, c5, c6, c7⟩ := HB.out.c8
  go_enter Try.func23, Try.ntmps23
  go_wp2_with fail
  refine (HM.out _ HG.out).mono ?_
  rintro e W0 ⟨rfl, g1⟩
  have HB0 := Lib.hid (HB.out.below g1 HB.out.lt)
  have HZ0 := Lib.hid (HZ.out.below g1 HZ.out.lt)
  have HG0 := Lib.hid (Below.trans HG.out (g1.mono HG.out.size))
  have HY0 := Lib.hid (HY.out.kept HG0.out)
  clear g1 HB HZ HG HY HM c0 c1 c2 c3 c4 c5 c6 c7
  go_upto_region 3 with fail
  refine Flow.regionS [5] 20 (SlBk w.heap.size (w.heap.size + 1) t pr p g o pb nb cb b) (InB w W0 t pr p g o b) (fun _ W W2 => Oth (w.heap.size + 1) W W2) (by kernel_rfl) (by kernel_rfl) (fun _ _ _ _ _ _ h k => slBk_oth h k) (Gr.refl W0).drew ?steps ?fin
  case steps =>
    refine Flow.StepsS.cons (fun l a W hfr hun hup hdn hinv hdep K hK => ?_) ?_
    · have s2 : a.tmps.getD 2 undef = .pointer (some ⟨w.heap.size, 0, none⟩) := hfr.at 2 (by kernel_rfl)
      have t2 : a.tmps[2]?.getD undef = .pointer (some ⟨w.heap.size, 0, none⟩) := by simpa using s2
      rw [if_pos (Flow.wanted_none rfl)]
      clear hfr hdep
      have h14 := hup 14 (by decide) (by kernel_rfl)
      have hg := hinv.ahead h14
      go_simp
      exact hK _ _ (Oth.refl _ _) (InB.next h14 hg 0 (by decide)) (fun d hd => by cases hd; trivial)
    refine Flow.StepsS.cons (fun l a W hfr hun hup hdn hinv hdep K hK => ?_) ?_
    · have s15 : a.tmps.getD 15 undef = .pointer (some ⟨w.heap.size, 1, none⟩) := hdep 15 (by kernel_rfl)
      have t15 : a.tmps[15]?.getD undef = .pointer (some ⟨w.heap.size, 1, none⟩) := by simpa using s15
      rw [if_pos (Flow.wanted_none rfl)]
      clear hfr hdep
      have h14 := hup 14 (by decide) (by kernel_rfl)
      have hg := hinv.ahead h14
      obtain ⟨c0, c1, c2, c3, c4, c5, c6, c7⟩ := (HB0.out.below hg HB0.out.lt).c8
      go_simp
      exact hK _ _ (Oth.refl _ _) (InB.next h14 hg 1 (by decide)) (fun d hd => by cases hd; trivial)
    refine Flow.StepsS.cons (fun l a W hfr hun hup hdn hinv hdep K hK => ?_) ?_
    · have s1 : a.tmps.getD 1 undef = .int .u64 pr := hfr.at 1 (by kernel_rfl)
      have t1 : a.tmps[1]?.getD undef = .int .u64 pr := by simpa using s1
      rw [if_pos (Flow.wanted_none rfl)]
      clear hfr hdep
      have h14 := hup 14 (by decide) (by kernel_rfl)
      have hg := hinv.ahead h14
      go_simp
      exact hK _ _ (Oth.refl _ _) (InB.next h14 hg 2 (by decide)) (fun d hd => by cases hd; trivial)
    refine Flow.StepsS.cons (fun l a W hfr hun hup hdn hinv hdep K hK => ?_) ?_
    · have s2 : a.tmps.getD 2 undef = .pointer (some ⟨w.heap.size, 0, none⟩) := hfr.at 2 (by kernel_rfl)
      have t2 : a.tmps[2]?.getD undef = .pointer (some ⟨w.heap.size, 0, none⟩) := by simpa using s2
      rw [if_pos (Flow.wanted_none rfl)]
      clear hfr hdep
      have h14 := hup 14 (by decide) (by kernel_rfl)
      have hg := hinv.ahead h14
      go_simp
      exact hK _ _ (Oth.refl _ _) (InB.next h14 hg 3 (by decide)) (fun d hd => by cases hd; trivial)
    refine Flow.StepsS.cons (fun l a W hfr hun hup hdn hinv hdep K hK => ?_) ?_
    · have s18 : a.tmps.getD 18 undef = .pointer (some ⟨w.heap.size, 2, none⟩) := hdep 18 (by kernel_rfl)
      have t18 : a.tmps[18]?.getD undef = .pointer (some ⟨w.heap.size, 2, none⟩) := by simpa using s18
      rw [if_pos (Flow.wanted_none rfl)]
      clear hfr hdep
      have h14 := hup 14 (by decide) (by kernel_rfl)
      have hg := hinv.ahead h14
      obtain ⟨c0, c1, c2, c3, c4, c5, c6, c7⟩ := (HB0.out.below hg HB0.out.lt).c8
      go_simp
      exact hK _ _ (Oth.refl _ _) (InB.next h14 hg 4 (by decide)) (fun d hd => by cases hd; trivial)
    refine Flow.StepsS.cons (fun l a W hfr hun hup hdn hinv hdep K hK => ?_) ?_
    · have s2 : a.tmps.getD 2 undef = .pointer (some ⟨w.heap.size, 0, none⟩) := hfr.at 2 (by kernel_rfl)
      have t2 : a.tmps[2]?.getD undef = .pointer (some ⟨w.heap.size, 0, none⟩) := by simpa using s2
      rw [if_pos (Flow.wanted_none rfl)]
      clear hfr hdep
      have h14 := hup 14 (by decide) (by kernel_rfl)
      have hg := hinv.ahead h14
      go_simp
      exact hK _ _ (Oth.refl _ _) (InB.next h14 hg 5 (by decide)) (fun d hd => by cases hd; trivial)
    refine Flow.StepsS.cons (fun l a W hfr hun hup hdn hinv hdep K hK => ?_) ?_
    · have s20 : a.tmps.getD 20 undef = .pointer (some ⟨w.heap.size, 4, none⟩) := hdep 20 (by kernel_rfl)
      have t20 : a.tmps[20]?.getD undef = .pointer (some ⟨w.heap.size, 4, none⟩) := by simpa using s20
      rw [if_pos (Flow.wanted_none rfl)]
      clear hfr hdep
      have h14 := hup 14 (by decide) (by kernel_rfl)
      have hg := hinv.ahead h14
      obtain ⟨c0, c1, c2, c3, c4, c5, c6, c7⟩ := (HB0.out.below hg HB0.out.lt).c8
      go_simp
      exact hK _ _ (Oth.refl _ _) (InB.next h14 hg 6 (by decide)) (fun d hd => by cases hd; trivial)
    refine Flow.StepsS.cons (fun l a W hfr hun hup hdn hinv hdep K hK => ?_) ?_
    · have s2 : a.tmps.getD 2 undef = .pointer (some ⟨w.heap.size, 0, none⟩) := hfr.at 2 (by kernel_rfl)
      have t2 : a.tmps[2]?.getD undef = .pointer (some ⟨w.heap.size, 0, none⟩) := by simpa using s2
      rw [if_pos (Flow.wanted_none rfl)]
      clear hfr hdep
      have h14 := hup 14 (by decide) (by kernel_rfl)
      have hg := hinv.ahead h14
      go_simp
      exact hK _ _ (Oth.refl _ _) (InB.next h14 hg 7 (by decide)) (fun d hd => by cases hd; trivial)
    refine Flow.StepsS.cons (fun l a W hfr hun hup hdn hinv hdep K hK => ?_) ?_
    · have s22 : a.tmps.getD 22 undef = .pointer (some ⟨w.heap.size, 5, none⟩) := hdep 22 (by kernel_rfl)
      have t22 : a.tmps[22]?.getD undef = .pointer (some ⟨w.heap.size, 5, none⟩) := by simpa using s22
      rw [if_pos (Flow.wanted_none rfl)]
      clear hfr hdep
      have h14 := hup 14 (by decide) (by kernel_rfl)
      have hg := hinv.ahead h14
      obtain ⟨c0, c1, c2, c3, c4, c5, c6, c7⟩ := (HB0.out.below hg HB0.out.lt).c8
      go_simp
      exact hK _ _ (Oth.refl _ _) (InB.next h14 hg 8 (by decide)) (fun d hd => by cases hd; trivial)
    refine Flow.StepsS.cons (fun l a W hfr hun hup hdn hinv hdep K hK => ?_) ?_
    · have s2 : a.tmps.getD 2 undef = .pointer (some ⟨w.heap.size, 0, none⟩) := hfr.at 2 (by kernel_rfl)
      have t2 : a.tmps[2]?.getD undef = .pointer (some ⟨w.heap.size, 0, none⟩) := by simpa using s2
      rw [if_pos (Flow.wanted_none rfl)]
      clear hfr hdep
      have h14 := hup 14 (by decide) (by kernel_rfl)
      have hg := hinv.ahead h14
      go_simp
      exact hK _ _ (Oth.refl _ _) (InB.next h14 hg 9 (by decide)) (fun d hd => by cases hd; trivial)
    refine Flow.StepsS.cons (fun l a W hfr hun hup hdn hinv hdep K hK => ?_) ?_
    · have s24 : a.tmps.getD 24 undef = .pointer (some ⟨w.heap.size, 6, none⟩) := hdep 24 (by kernel_rfl)
      have t24 : a.tmps[24]?.getD undef = .pointer (some ⟨w.heap.size, 6, none⟩) := by simpa using s24
      rw [if_pos (Flow.wanted_none rfl)]
      clear hfr hdep
      have h14 := hup 14 (by decide) (by kernel_rfl)
      have hg := hinv.ahead h14
      obtain ⟨c0, c1, c2, c3, c4, c5, c6, c7⟩ := (HB0.out.below hg HB0.out.lt).c8
      go_simp
      exact hK _ _ (Oth.refl _ _) (InB.next h14 hg 10 (by decide)) (fun d hd => by cases hd; trivial)
    refine Flow.StepsS.cons (fun l a W hfr hun hup hdn hinv hdep K hK => ?_) ?_
    · have s25 : a.tmps.getD 25 undef = .slice pb nb cb := hdep 25 (by kernel_rfl)
      have t25 : a.tmps[25]?.getD undef = .slice pb nb cb := by simpa using s25
      rw [if_pos (Flow.wanted_none rfl)]
      clear hfr hdep
      have h14 := hup 14 (by decide) (by kernel_rfl)
      have hg := hinv.ahead h14
      have hzl := Nat.lt_of_lt_of_le HZ0.out.lt hg.size
      go_simp
      exact hK _ _ (Oth.ofGr ((Gr.refl W).alloc (Nat.le_refl _) _)) (InB.next h14 (hg.alloc hg.size _) 11 (by decide)) (fun d hd => by cases hd; exact ⟨_, rfl, hzl, Blk.new _ _ _⟩)
    refine Flow.StepsS.cons (fun l a W hfr hun hup hdn hinv hdep K hK => ?_) ?_
    · have s26 : ∃ r, (a.tmps.getD 26 undef) = .slice (some ⟨r, 0, none⟩) 1 1 ∧ (w.heap.size + 1) < r ∧ Blk W r 24 #[.slice pb nb cb] := hdep 26 (by kernel_rfl)
      rw [if_pos (Flow.wanted_none rfl)]
      clear hfr hdep
      have h14 := hup 14 (by decide) (by kernel_rfl)
      have hg := hinv.ahead h14
      obtain ⟨r, s26, hr, hbr⟩ := s26
      have t26 : a.tmps[26]?.getD undef = .slice (some ⟨r, 0, none⟩) 1 1 := by simpa using s26
      have hrow : Rows W (some ⟨r, 0, none⟩) 1 1 [b] := ⟨rfl, Nat.le_refl _, by simp only [maxLen]; omega, fun _ => ⟨r, 0, rfl, fun i hi => by
          obtain rfl : i = 0 := by omega
          exact ⟨pb, nb, cb, hbr.cell 0, HY0.out.kept hg⟩⟩, fun h => by cases h⟩
      have hzl := Nat.lt_of_lt_of_le HZ0.out.lt hg.size
      go_simp
      refine (join_any _ _ _ _ W hrow HT.out).mono ?_
      rintro e W2 ⟨q, m, e2, rfl, hy, g1, hf⟩
      exact hK _ _ (Oth.ofGr g1) (InB.next h14 (Gr.trans hg g1) 12 (by decide)) (fun d hd => by cases hd; exact ⟨_, _, _, rfl, HFL.out ▸ hy, fun y hy2 => Nat.le_trans hzl (hf y hy2)⟩)
    refine Flow.StepsS.cons (fun l a W hfr hun hup hdn hinv hdep K hK => ?_) ?_
    · have s16 : a.tmps.getD 16 undef = .int .u64 t := hdep 16 (by kernel_rfl)
      have t16 : a.tmps[16]?.getD undef = .int .u64 t := by simpa using s16
      have s17 : a.tmps.getD 17 undef = .int .u64 pr := hdep 17 (by kernel_rfl)
      have t17 : a.tmps[17]?.getD undef = .int .u64 pr := by simpa using s17
      have s19 : a.tmps.getD 19 undef = .int .u64 p := hdep 19 (by kernel_rfl)
      have t19 : a.tmps[19]?.getD undef = .int .u64 p := by simpa using s19
      have s21 : a.tmps.getD 21 undef = .int .i64 g := hdep 21 (by kernel_rfl)
      have t21 : a.tmps[21]?.getD undef = .int .i64 g := by simpa using s21
      have s23 : a.tmps.getD 23 undef = .int .i64 o := hdep 23 (by kernel_rfl)
      have t23 : a.tmps[23]?.getD undef = .int .i64 o := by simpa using s23
      have s27 : OwnX ((w.heap.size + 1) + 1) W (a.tmps.getD 27 undef) b := hdep 27 (by kernel_rfl)
      rw [if_pos (Flow.wanted_none rfl)]
      clear hfr hdep
      have h14 := hup 14 (by decide) (by kernel_rfl)
      have hg := hinv.ahead h14
      obtain ⟨q, m, e, s27, hy, hq⟩ := s27
      have t27 : a.tmps[27]?.getD undef = .slice q m e := by simpa using s27
      go_simp
      exact hK _ _ (Oth.refl _ _) (InB.next h14 hg 13 (by decide)) (fun d hd => by cases hd; exact ⟨q, m, e, rfl, hy, hq⟩)
    refine Flow.StepsS.cons (fun l a W hfr hun hup hdn hinv hdep K hK => ?_) ?_
    · have s4 : a.tmps.getD 4 undef = .pointer (some ⟨w.heap.size + 1, 0, none⟩) := hfr.at 4 (by kernel_rfl)
      have t4 : a.tmps[4]?.getD undef = .pointer (some ⟨w.heap.size + 1, 0, none⟩) := by simpa using s4
      have s28 : ∃ q m e, (a.tmps.getD 28 undef) = .agg #[.int .i64 2, .int .u64 t, .int .u64 pr, .int .u64 p, .int .i64 g, .int .i64 o, .slice none 0 0, .slice q m e] ∧ Byt W q m e b ∧ ∀ y, q = some y → (w.heap.size + 1) + 1 ≤ y.block := hdep 28 (by kernel_rfl)
      rw [if_pos (Flow.wanted_none rfl)]
      clear hfr hdep
      have hg := hinv.ahead hun
      obtain ⟨q, m, e, s28, hy, hq⟩ := s28
      have t28 : a.tmps[28]?.getD undef = .agg #[.int .i64 2, .int .u64 t, .int .u64 pr, .int .u64 p, .int .i64 g, .int .i64 o, .slice none 0 0, .slice q m e] := by simpa using s28
      have hbz := HZ0.out.below hg HZ0.out.lt
      obtain ⟨z0, z1, z2, z3, z4, z5, z6, z7⟩ := hbz.c8
      obtain ⟨f0, f1, f2, f3, f4, f5, f6, f7⟩ := hbz.f8
      go_simp
      exact hK undef _ (Oth.set8 _ _ _ _ _ _ _ _ _) (InB.last ⟨q, m, e, (((((((hbz.set 0 _).set 1 _).set 2 _).set 3 _).set 4 _).set 5 _).set 6 _).set 7 _, (Oth.set8 _ _ _ _ _ _ _ _ _).byt hy (fun y hy2 => hq y hy2), below_set8 (Below.trans HG0.out (hg.mono HG0.out.size)) (by omega)⟩) (fun d hd => by cases hd)
    refine Flow.StepsS.cons (fun l a W hfr hun hup hdn hinv hdep K hK => ?_) ?_
    · rw [if_pos (Flow.wanted_none rfl)]
      clear hfr hdep
      go_simp
      exact hK _ _ (Oth.refl _ _) (hinv.keep 15 (by decide)) (fun d hd => by cases hd; trivial)
    exact True.intro
  case fin =>
    intro a W l hfr hall hinv hsl
    have h14 : l 14 = true := hall 14 (by decide)
    have s5 : a.tmps.getD 5 undef = .int .i64 0 := hsl 15 _ 5 rfl rfl (by simp)
    have t5 : a.tmps[5]?.getD undef = .int .i64 0 := by simpa using s5
    have e := Flow.frame hfr [15, 16, 17, 18, 19, 20, 21, 22, 23, 24, 25, 26, 27, 28, 5] (List.range 29) (by kernel_rfl) (by kernel_rfl)
    simp [List.range, List.range.loop] at e
    rw [t5] at e
    rw [e]
    have hfin : FinB w t pr p g o b W := by unfold InB at hinv; rw [h14] at hinv; exact hinv
    clear e hfr hsl hall hinv h14 s5 t5
    first
    | (rename_i hB; refine hB _ _ ?_)
    | (rename_i hB y0; refine hB _ _ ?_)
    | (rename_i hB y0 y1; refine hB _ _ ?_)
    | (rename_i hB y0 y1 y2; refine hB _ _ ?_)
    | (rename_i hB y0 y1 y2 y3; refine hB _ _ ?_)
    | (rename_i hB y0 y1 y2 y3 y4; refine hB _ _ ?_)
    | (rename_i hB y0 y1 y2 y3 y4 y5; refine hB _ _ ?_)
    | (rename_i hB y0 y1 y2 y3 y4 y5 y6; refine hB _ _ ?_)
    | (rename_i hB y0 y1 y2 y3 y4 y5 y6 y7; refine hB _ _ ?_)
    | (rename_i hB y0 y1 y2 y3 y4 y5 y6 y7 y8; refine hB _ _ ?_)
    | (rename_i hB y0 y1 y2 y3 y4 y5 y6 y7 y8 y9; refine hB _ _ ?_)
    | (rename_i hB y0 y1 y2 y3 y4 y5 y6 y7 y8 y9 y10; refine hB _ _ ?_)
    | (rename_i hB y0 y1 y2 y3 y4 y5 y6 y7 y8 y9 y10 y11; refine hB _ _ ?_)
    | (rename_i hB y0 y1 y2 y3 y4 y5 y6 y7 y8 y9 y10 y11 y12; refine hB _ _ ?_)
    obtain ⟨q, m, d, hbz, hyb, hgr⟩ := hfin
    have HBZ := Lib.hid hbz
    have HYB := Lib.hid hyb
    have HGR := Lib.hid hgr
    clear hbz hyb hgr
    go_wp2_with fail
    exact bodyPost_ret (results_rec2 rfl _ _ (w.heap.size + 1) _ _ rfl rfl rfl HBZ.out) rfl ⟨q, m, d, rfl, HYB.out, HGR.out⟩

end Go.Proofs.Ytfjdlcgojigogaa
