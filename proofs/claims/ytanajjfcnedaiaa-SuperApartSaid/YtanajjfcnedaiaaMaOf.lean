
/-
  Which master a sector is: the program's answer, and the document's.
-/
import Derived.Test.YtanajjfcnedaiaaRefOf
import Derived.Test.YtanajjfcnedaiaaFlowZ
namespace Go.Proofs.Ytanajjfcnedaiaa
open Go.RowKit Cr

/-- One block of this type at most, from B on; none. -/
def Uni (B : Nat) (w : World) : Prop := ∀ k k' cs cs', B ≤ k → B ≤ k' → Blk w k TMa cs → Blk w k' TMa cs' → k = k'
def Noma (B : Nat) (w : World) : Prop := ∀ k cs, B ≤ k → ¬ Blk w k TMa cs
/-- Those that are there stay. -/
def Stay (B : Nat) (w w' : World) : Prop := ∀ k cs, B ≤ k → cs.size = 3 → Blk w k TMa cs → ∃ cs', cs'.size = 3 ∧ Blk w' k TMa cs'
theorem Gr.alloc' {V W : World} {o : Obj} (h : Gr V W) : Gr V (W.alloc o) := h.alloc h.size _
theorem Stay.refl (B : Nat) (w : World) : Stay B w w := fun _ cs _ h hb => ⟨cs, h, hb⟩
theorem Stay.alloc (B : Nat) (w : World) (o : Obj) : Stay B w (w.alloc o) := fun _ cs _ h hb => ⟨cs, h, hb.alloc o⟩
theorem blk_old {w : World} {c : Array Value} {t t' : TypeId} (ht : t ≠ t') {k : Nat} {cs : Array Value} (h : Blk (w.alloc (.cells c t)) k t' cs) : Blk w k t' cs := by
  by_cases hk : k = w.heap.size
  · subst hk
    have h1 := heap_alloc_new w (.cells c t)
    unfold Blk at h
    rw [h1] at h
    simp only [Option.some.injEq, Obj.cells.injEq] at h
    exact absurd h.2.1 ht
  · have hl := h.lt
    simp only [World.size_alloc] at hl
    exact (heap_alloc_old w _ (by omega)).symm.trans h
theorem Noma.ts {B : Nat} {w : World} (h : Noma B w) (c : Array Value) : Noma B (w.alloc (.cells c TS)) := fun k cs hk hb => h k cs hk (blk_old (by decide) hb)
theorem Uni.ts {B : Nat} {w : World} (h : Uni B w) (c : Array Value) : Uni B (w.alloc (.cells c TS)) := fun k k' cs cs' hk hk' hb hb' => h k k' cs cs' hk hk' (blk_old (by decide) hb) (blk_old (by decide) hb')
theorem Uni.new {B : Nat} {w : World} (h : Noma B w) (c : Array Value) : Uni B (w.alloc (.cells c TMa)) := by
  have one : ∀ k cs, B ≤ k → Blk (w.alloc (.cells c TMa)) k TMa cs → k = w.heap.size := fun k cs hk hb => by
    by_cases he : k = w.heap.size
    · exact he
    · have hl := hb.lt
      simp only [World.size_alloc] at hl
      exact absurd ((heap_alloc_old w _ (by omega)).symm.trans hb) (h k cs hk)
  intro k k' cs cs' hk hk' hb hb'
  rw [one k cs hk hb, one k' cs' hk' hb']
theorem Noma.start {w : World} : Noma w.heap.size w := fun k cs hk hb => by have := hb.lt; omega
theorem Uni.start {w : World} : Uni w.heap.size w := fun k k' cs cs' hk _ hb _ => by have := hb.lt; omega

/-- Behind the store: one block, with these. -/
def FinMa (V : World) (E F H : Nat) (w : World) : Prop := Gr V w ∧ ∃ k, V.heap.size ≤ k ∧ Blk w k TMa #[.int .u64 E, .int .u64 F, .int .u64 H] ∧ ∀ k' cs, V.heap.size ≤ k' → Blk w k' TMa cs → k' = k
theorem fin_ma {V w : World} {E F H k : Nat} {cs : Array Value} (hg : Gr V w) (hu : Uni V.heap.size w) (hk : V.heap.size ≤ k) (hb : Blk w k TMa cs) : FinMa V E F H (w.setRow k #[.int .u64 E, .int .u64 F, .int .u64 H]) := by
  refine ⟨below_setRow hg hk _, k, hk, hb.row _, fun k' cs' hk' hb' => ?_⟩
  by_cases he : k' = k
  · exact he
  · exact hu k' k cs' cs hk' hk ((setRow_other w k k' _ he).symm.trans hb') hb

theorem size_ma : (Try.prog.info? TMa).map (·.size) = some 3 := by kernel_rfl
theorem wp_store_ma {op : Oper} {a : Act} {w : World} {K : Act → World → Prop} {Q : Exit → Act → World → Prop} (x y : Operand) (ho : op.op = .store TMa x y)
    {g : Nat} {old cs : Array Value} (hb : Blk w g TMa old) (hs : old.size = 3) (hc : cs.size = 3) (h1 : cs.all (·.oneCell') = true) (hx : a.eval x = .pointer (some ⟨g, 0, none⟩)) (hy : a.eval y = .agg cs)
    (h : K (a.put op.dst undef) (w.setRow g cs)) : op.wp Try.prog a w K Q :=
  wp_store_row TMa x y ho g cs hx hy TMa old hb (by rw [hc]; exact size_ma) (by rw [hs, hc]) h1 h

theorem one3 (a b c : Int) : (#[Value.int .u64 a, Value.int .u64 b, Value.int .u64 c] : Array Value).all (·.oneCell') = true := by simp [Value.oneCell']

/-- The slots of the region that makes the master. -/
def SlMa (B : Nat) (S : Sec) (E F H : Nat) (slot : Nat) (v : Value) (w : World) : Prop :=
  match slot with
  | 5 | 7 | 9 => v = .agg (sec S)
  | 6 => v = .int .u64 (E : Int)
  | 8 => v = .int .u64 (F : Int)
  | 10 => v = .int .u64 (H : Int)
  | 11 => v = .agg #[.int .u64 (E : Int), .int .u64 (F : Int), .int .u64 (H : Int)]
  | 4 => ∃ k, v = .pointer (some ⟨k, 0, none⟩) ∧ B ≤ k ∧ ∃ cs, cs.size = 3 ∧ Blk w k TMa cs
  | _ => True
theorem slMa_stay {B : Nat} {S : Sec} {E F H d : Nat} {v : Value} {w w' : World} (h : SlMa B S E F H d v w) (k : Stay B w w') : SlMa B S E F H d v w' := by
  unfold SlMa at *
  split <;> simp_all
  obtain ⟨k', e, hk, cs, hs, hb⟩ := h
  exact ⟨k', e, hk, k k' cs hk hs hb⟩

def SlP1 (E : Nat) (F : Nat) (H : Nat) (S : Sec) (T : Sec) (slot : Nat) (v : Value) (_ : World) : Prop :=
  match slot with
  | 12 => v = .agg (sec S)
  | 13 => v = .agg #[.int .u64 (E : Int), .int .u64 (F : Int), .int .u64 (H : Int)]
  | 14 => v = .agg (sec T)
  | 15 => v = .bool false
  | _ => True

def SlQ1 (E : Nat) (F : Nat) (H : Nat) (S : Sec) (T : Sec) (slot : Nat) (v : Value) (_ : World) : Prop :=
  match slot with
  | 12 => v = .agg (sec S)
  | 13 => v = .agg #[.int .u64 (E : Int), .int .u64 (F : Int), .int .u64 (H : Int)]
  | 14 => v = .agg (sec T)
  | 15 => v = .bool true
  | _ => True

def SlMb (b : Nat) (B : Nat) (E F H : Nat) (slot : Nat) (v : Value) (w : World) : Prop :=
  match slot with
  | 5 => v = .slice (some ⟨b, 8, none⟩) 8 248
  | 7 => v = .slice (some ⟨b, 16, none⟩) 8 240
  | 9 => v = .slice (some ⟨b, 24, none⟩) 8 232
  | 6 => v = .int .u64 (E : Int)
  | 8 => v = .int .u64 (F : Int)
  | 10 => v = .int .u64 (H : Int)
  | 11 => v = .agg #[.int .u64 (E : Int), .int .u64 (F : Int), .int .u64 (H : Int)]
  | 4 => ∃ k, v = .pointer (some ⟨k, 0, none⟩) ∧ B ≤ k ∧ ∃ cs, cs.size = 3 ∧ Blk w k TMa cs
  | _ => True
theorem slMb_stay {b B : Nat} {E F H d : Nat} {v : Value} {w w' : World} (h : SlMb b B E F H d v w) (k : Stay B w w') : SlMb b B E F H d v w' := by
  unfold SlMb at *
  split <;> simp_all
  obtain ⟨k', e, hk, cs, hs, hb⟩ := h
  exact ⟨k', e, hk, k k' cs hk hs hb⟩

def SlP2 (E : Nat) (F : Nat) (H : Nat) (S : Sec) (T : Sec) (slot : Nat) (v : Value) (_ : World) : Prop :=
  match slot with
  | 14 => v = .agg (sec S)
  | 12 => v = .agg #[.int .u64 (E : Int), .int .u64 (F : Int), .int .u64 (H : Int)]
  | 13 => v = .agg (sec T)
  | 15 => v = .bool false
  | _ => True

def SlQ2 (E : Nat) (F : Nat) (H : Nat) (S : Sec) (T : Sec) (slot : Nat) (v : Value) (_ : World) : Prop :=
  match slot with
  | 14 => v = .agg (sec S)
  | 12 => v = .agg #[.int .u64 (E : Int), .int .u64 (F : Int), .int .u64 (H : Int)]
  | 13 => v = .agg (sec T)
  | 15 => v = .bool true
  | _ => True


theorem word_at {xs : List Int} (w : World) (hx : IsSec xs) (i k : Int) (h0 : 0 ≤ i) (h1 : i ≤ 100) (h2 : 0 ≤ k) (h3 : k ≤ 8) : Calls Try.prog 45 #[.agg (sec (Sx xs)), .int .i64 i, .int .i64 k] w fun e w' => e = .returned (.int .u64 (atR xs (8 + i * k) k)) ∧ w.alloc (.cells (sec (Sx xs)) TS) = w' := by
  have HB := Lib.hid (Blk.new w TS (sec (Sx xs)))
  have HA := Lib.hid (fun f => at_any (some ⟨w.heap.size, 0, none⟩) 256 256 xs f k _ (HB.out.byt hx))
  have q0 : 0 ≤ i * k := Int.mul_nonneg h0 h2
  have q1 : i * k ≤ 800 := by
    have := Int.mul_le_mul_of_nonneg_left h3 h0
    omega
  go_enter Try.func45, Try.ntmps45
  go_wp2_with fail
  refine (HA.out _).mono ?_
  rintro e w1 ⟨rfl, rfl⟩
  go_wp2
  go_ret
  exact ⟨rfl, rfl⟩

/-- Results: a master in a cell of its own, and a slot. -/
theorem results_ma {fn : Func} {p q : Tmp} (h : fn.results = #[.cell p TMa, .tmp q]) (tmps : Array Value) (w : World) (g : Nat) (cs : Array Value) (x : Value) (hs : cs.size = 3)
    (hp : tmps.getD p undef = .pointer (some ⟨g, 0, none⟩)) (hx : tmps.getD q undef = x) (hb : Blk w g TMa cs) : (results fn tmps).run Try.prog w = .ok (.tuple #[.agg cs, x]) w := by
  have hp' : tmps[p]?.getD undef = .pointer (some ⟨g, 0, none⟩) := by simpa using hp
  have hx' : tmps[q]?.getD undef = x := by simpa using hx
  have hl := run_loadVar_row (P := Try.prog) w g TMa TMa cs (0, 0) _ hb Try.underlying44 rfl (by rw [hs]; exact size_ma)
  simp [results, h, hp', hx', asAddr, hl]

set_option maxRecDepth 100000 in
set_option maxHeartbeats 2000000 in
theorem masterOf_any (xs : List Int) (w : World) (hx : IsSec xs) : Calls Try.prog 33 #[.agg (sec (Sx xs))] w (RetMa (maOk xs) (maE xs) (maS xs) (maT xs) (.int .i64 (errB (maOk xs))) w) := by
  have l0 : maE xs < 256 ^ 8 := at_lt hx.small 8 8 (by omega)
  have l1 : maS xs < 256 ^ 8 := at_lt hx.small 16 8 (by omega)
  have l2 : maT xs < 256 ^ 8 := at_lt hx.small 24 8 (by omega)
  have hB0 := (Blk.new w TS (sec (Sx xs))).alloc (.cells #[.int .u64 0, .int .u64 0, .int .u64 0] TMa)
  have hr0 := Blk.new (w.alloc (.cells (sec (Sx xs)) TS)) TMa #[.int .u64 0, .int .u64 0, .int .u64 0]
  simp only [World.size_alloc] at hr0
  have hw0 := fun W => word_at W hx 0 8 (by omega) (by omega) (by omega) (by omega)
  rw [show atR xs (8 + 0 * 8) 8 = maE xs from rfl] at hw0
  have hw1 := fun W => word_at W hx 1 8 (by omega) (by omega) (by omega) (by omega)
  rw [show atR xs (8 + 1 * 8) 8 = maS xs from rfl] at hw1
  have hw2 := fun W => word_at W hx 2 8 (by omega) (by omega) (by omega) (by omega)
  rw [show atR xs (8 + 2 * 8) 8 = maT xs from rfl] at hw2
  have HBY := Lib.hid (fun W => maBytes_any (maE xs) (maS xs) (maT xs) W (Nat.le_of_lt_succ l0) (Nat.le_of_lt_succ l1) (Nat.le_of_lt_succ l2))
  have HYS := maB_sec (maE xs) (maS xs) (maT xs)
  have hOK : maOk xs = decide (Sx xs = Sx (maB (maE xs) (maS xs) (maT xs))) := by unfold maOk; rw [decide_eq_decide, Sx_inj hx HYS]
  unfold RetSec at HBY
  obtain ⟨E, e0⟩ : ∃ m, m = maE xs := ⟨_, rfl⟩
  obtain ⟨F, e1⟩ : ∃ m, m = maS xs := ⟨_, rfl⟩
  obtain ⟨H, e2⟩ : ∃ m, m = maT xs := ⟨_, rfl⟩
  obtain ⟨K, e5⟩ : ∃ K, K = maOk xs := ⟨_, rfl⟩
  obtain ⟨T, e4⟩ : ∃ T, T = Sx (maB (maE xs) (maS xs) (maT xs)) := ⟨_, rfl⟩
  obtain ⟨S, e3⟩ : ∃ S, S = Sx xs := ⟨_, rfl⟩
  rw [← e4] at HBY hOK
  rw [← e0, ← e1, ← e2] at HBY ⊢
  rw [← e5] at hOK ⊢
  rw [← e3] at hOK hB0 hr0 ⊢
  rw [← e0, ← e3] at hw0
  rw [← e1, ← e3] at hw1
  rw [← e2, ← e3] at hw2
  have HG0 := ((Gr.refl w).alloc (Nat.le_refl _) (.cells (sec S) TS)).alloc (by simp) (.cells #[.int .u64 0, .int .u64 0, .int .u64 0] TMa)
  obtain ⟨V, hV⟩ : ∃ V, V = (w.alloc (.cells (sec S) TS)).alloc (.cells #[.int .u64 0, .int .u64 0, .int .u64 0] TMa) := ⟨_, rfl⟩
  rw [← hV] at hB0 hr0 HG0
  have HB0 := Lib.hid hB0
  have HR0 := Lib.hid hr0
  have HG0 := Lib.hid HG0
  have HV := Lib.hid hV
  have HW0 := Lib.hid hw0
  clear hw0
  have HW1 := Lib.hid hw1
  clear hw1
  have HW2 := Lib.hid hw2
  clear hw2
  have HKK := Lib.hid hOK
  clear l0 l1 l2 e0 e1 e2 e3 e4 e5 hx hB0 hr0 hV hOK HYS
  go_enter Try.func33, Try.ntmps33
  go_wp2_with fail
  rw [← HV.out]
  refine Flow.regionZ 8 7 (by kernel_rfl) [4] 12 (SlMa V.heap.size S E F H) (fun W => Gr V W ∧ Uni V.heap.size W) (FinMa V E F H) (Noma V.heap.size) (fun _ W W' => Stay V.heap.size W W') (by kernel_rfl) (by kernel_rfl) (by kernel_rfl) (fun _ _ _ _ _ _ h k => slMa_stay h k) ⟨⟨rfl, rfl, rfl, Nat.le_refl _, fun _ _ => rfl⟩, Uni.start (w := V)⟩ (Noma.start (w := V)) ?steps ?fin
  case steps =>
    refine Flow.StepsZ.cons (fun a W hfr hinv hear hdep K hK => ?_) ?_
    · have s1 : a.tmps.getD 1 undef = .pointer (some ⟨w.heap.size, 0, none⟩) := hfr.at 1 (by kernel_rfl)
      have t1 : a.tmps[1]?.getD undef = .pointer (some ⟨w.heap.size, 0, none⟩) := by simpa using s1
      rw [if_pos (Flow.wanted_none rfl)]
      clear hfr hdep
      refine wp_load_x (.tmp 1) rfl (HB0.out.below hinv.1 HB0.out.lt) (by simpa [Act.eval] using s1) ?_
      exact hK _ _ (Stay.refl _ _) hinv (fun h => h) (fun d hd => by cases hd; trivial)
    refine Flow.StepsZ.cons (fun a W hfr hinv hear hdep K hK => ?_) ?_
    · have s5 : a.tmps.getD 5 undef = .agg (sec S) := hdep 5 (by kernel_rfl)
      have t5 : a.tmps[5]?.getD undef = .agg (sec S) := by simpa using s5
      rw [if_pos (Flow.wanted_none rfl)]
      clear hfr hdep
      go_simp
      refine (HW0.out W).mono ?_
      rintro e W' ⟨rfl, rfl⟩
      exact hK _ _ (Stay.alloc _ _ _) ⟨Gr.alloc' hinv.1, hinv.2.ts _⟩ (fun h => h.ts _) (fun d hd => by cases hd; trivial)
    refine Flow.StepsZ.cons (fun a W hfr hinv hear hdep K hK => ?_) ?_
    · have s1 : a.tmps.getD 1 undef = .pointer (some ⟨w.heap.size, 0, none⟩) := hfr.at 1 (by kernel_rfl)
      have t1 : a.tmps[1]?.getD undef = .pointer (some ⟨w.heap.size, 0, none⟩) := by simpa using s1
      rw [if_pos (Flow.wanted_none rfl)]
      clear hfr hdep
      refine wp_load_x (.tmp 1) rfl (HB0.out.below hinv.1 HB0.out.lt) (by simpa [Act.eval] using s1) ?_
      exact hK _ _ (Stay.refl _ _) hinv (fun h => h) (fun d hd => by cases hd; trivial)
    refine Flow.StepsZ.cons (fun a W hfr hinv hear hdep K hK => ?_) ?_
    · have s7 : a.tmps.getD 7 undef = .agg (sec S) := hdep 7 (by kernel_rfl)
      have t7 : a.tmps[7]?.getD undef = .agg (sec S) := by simpa using s7
      rw [if_pos (Flow.wanted_none rfl)]
      clear hfr hdep
      go_simp
      refine (HW1.out W).mono ?_
      rintro e W' ⟨rfl, rfl⟩
      exact hK _ _ (Stay.alloc _ _ _) ⟨Gr.alloc' hinv.1, hinv.2.ts _⟩ (fun h => h.ts _) (fun d hd => by cases hd; trivial)
    refine Flow.StepsZ.cons (fun a W hfr hinv hear hdep K hK => ?_) ?_
    · have s1 : a.tmps.getD 1 undef = .pointer (some ⟨w.heap.size, 0, none⟩) := hfr.at 1 (by kernel_rfl)
      have t1 : a.tmps[1]?.getD undef = .pointer (some ⟨w.heap.size, 0, none⟩) := by simpa using s1
      rw [if_pos (Flow.wanted_none rfl)]
      clear hfr hdep
      refine wp_load_x (.tmp 1) rfl (HB0.out.below hinv.1 HB0.out.lt) (by simpa [Act.eval] using s1) ?_
      exact hK _ _ (Stay.refl _ _) hinv (fun h => h) (fun d hd => by cases hd; trivial)
    refine Flow.StepsZ.cons (fun a W hfr hinv hear hdep K hK => ?_) ?_
    · have s9 : a.tmps.getD 9 undef = .agg (sec S) := hdep 9 (by kernel_rfl)
      have t9 : a.tmps[9]?.getD undef = .agg (sec S) := by simpa using s9
      rw [if_pos (Flow.wanted_none rfl)]
      clear hfr hdep
      go_simp
      refine (HW2.out W).mono ?_
      rintro e W' ⟨rfl, rfl⟩
      exact hK _ _ (Stay.alloc _ _ _) ⟨Gr.alloc' hinv.1, hinv.2.ts _⟩ (fun h => h.ts _) (fun d hd => by cases hd; trivial)
    refine Flow.StepsZ.cons (fun a W hfr hinv hear hdep K hK => ?_) ?_
    · have s6 : a.tmps.getD 6 undef = .int .u64 (E : Int) := hdep 6 (by kernel_rfl)
      have t6 : a.tmps[6]?.getD undef = .int .u64 (E : Int) := by simpa using s6
      have s8 : a.tmps.getD 8 undef = .int .u64 (F : Int) := hdep 8 (by kernel_rfl)
      have t8 : a.tmps[8]?.getD undef = .int .u64 (F : Int) := by simpa using s8
      have s10 : a.tmps.getD 10 undef = .int .u64 (H : Int) := hdep 10 (by kernel_rfl)
      have t10 : a.tmps[10]?.getD undef = .int .u64 (H : Int) := by simpa using s10
      rw [if_pos (Flow.wanted_none rfl)]
      clear hfr hdep hear
      go_simp
      exact hK _ _ (Stay.refl _ _) hinv (fun h => h) (fun d hd => by cases hd; trivial)
    refine Flow.StepsZ.cons (fun a W hfr hinv hear hdep K hK => ?_) ?_
    · rw [if_pos (Flow.wanted_none rfl)]
      clear hfr hdep
      go_simp
      exact hK _ _ (Stay.alloc _ _ _) ⟨Gr.alloc' hinv.1, Uni.new hear _⟩ True.intro (fun d hd => by cases hd; exact ⟨_, rfl, hinv.1.size, _, rfl, Blk.new _ _ _⟩)
    refine Flow.StepsZ.cons (fun a W hfr hinv hear hdep K hK => ?_) ?_
    · have s4 : ∃ k, (a.tmps.getD 4 undef) = .pointer (some ⟨k, 0, none⟩) ∧ V.heap.size ≤ k ∧ ∃ cs, cs.size = 3 ∧ Blk W k TMa cs := hdep 4 (by kernel_rfl)
      have s11 : a.tmps.getD 11 undef = .agg #[.int .u64 (E : Int), .int .u64 (F : Int), .int .u64 (H : Int)] := hdep 11 (by kernel_rfl)
      have t11 : a.tmps[11]?.getD undef = .agg #[.int .u64 (E : Int), .int .u64 (F : Int), .int .u64 (H : Int)] := by simpa using s11
      rw [if_pos (Flow.wanted_none rfl)]
      clear hfr hdep
      obtain ⟨k, s4, hk, cs, hcs, hbk⟩ := s4
      refine wp_store_ma (.tmp 4) (.tmp 11) rfl hbk hcs rfl (one3 _ _ _) (by simpa [Act.eval] using s4) (by simpa [Act.eval] using s11) ?_
      exact hK _ _ (fun k1 cs1 h1 h2 h3 => by
        have e := hinv.2 k1 k cs1 cs h1 hk h3 hbk
        subst e
        exact ⟨_, rfl, hbk.row _⟩) (fin_ma hinv.1 hinv.2 hk hbk) True.intro (fun d hd => by cases hd)
    exact True.intro
  case fin =>
    intro a W hfr hfin hsl
    obtain ⟨hgr, k, hk, hbk, hun⟩ := hfin
    obtain ⟨k', s4, hk', cs, hcs, hb'⟩ : SlMa V.heap.size S E F H 4 (a.tmps.getD 4 undef) W := hsl 7 _ 4 rfl rfl (by simp)
    obtain rfl := hun k' cs hk' hb'
    have t4 : a.tmps[4]?.getD undef = .pointer (some ⟨k', 0, none⟩) := by simpa using s4
    have e := Flow.frame hfr [5, 6, 7, 8, 9, 10, 11, 4] (List.range 18) (by kernel_rfl) (by kernel_rfl)
    simp [List.range, List.range.loop] at e
    rw [t4] at e
    rw [e]
    have HM := Lib.hid hbk
    have HBW := Lib.hid (HB0.out.below hgr HB0.out.lt)
    have HRW := Lib.hid (HR0.out.below hgr HR0.out.lt)
    have HGW : Hid (Gr w W) := Lib.hid (Below.trans HG0.out (hgr.mono HG0.out.size))
    clear e hfr hsl s4 t4 hb' hcs hk hk' hun hbk hgr HB0 HR0 HG0 HV
    rename_i K2 hK2
    refine hK2 _ _ ?_
    go_wp2_with fail
    by_cases hs : S = T
    · subst hs
      rw [decide_eq_true rfl] at HKK
      have hK := HKK.out
      subst hK
      refine Flow.region (SlP1 E F H S S) (Gr W) (fun _ _ => True) (by kernel_rfl) (by kernel_rfl) (fun _ _ _ _ h _ => h) ⟨rfl, rfl, rfl, Nat.le_refl _, fun _ _ => rfl⟩ ?steps ?fin
      case steps =>
        refine Flow.Steps.cons (fun a W hfr hinv hdep K hK => ?_) ?_
        · have s1 : a.tmps.getD 1 undef = .pointer (some ⟨w.heap.size, 0, none⟩) := hfr.at 1 (by kernel_rfl)
          have t1 : a.tmps[1]?.getD undef = .pointer (some ⟨w.heap.size, 0, none⟩) := by simpa using s1
          rw [if_pos (Flow.wanted_none rfl)]
          clear hfr hdep
          refine wp_load_x (.tmp 1) rfl (HBW.out.below hinv HBW.out.lt) (by simpa [Act.eval] using s1) ?_
          exact hK _ _ True.intro hinv (fun d hd => by cases hd; trivial)
        refine Flow.Steps.cons (fun a W hfr hinv hdep K hK => ?_) ?_
        · have s4 : a.tmps.getD 4 undef = .pointer (some ⟨k', 0, none⟩) := hfr.at 4 (by kernel_rfl)
          have t4 : a.tmps[4]?.getD undef = .pointer (some ⟨k', 0, none⟩) := by simpa using s4
          obtain ⟨b0, b1, b2⟩ := HM.out.manyT hinv
          rw [if_pos (Flow.wanted_none rfl)]
          clear hfr hdep
          go_simp
          exact hK _ _ True.intro hinv (fun d hd => by cases hd; trivial)
        refine Flow.Steps.cons (fun a W hfr hinv hdep K hK => ?_) ?_
        · have s13 : a.tmps.getD 13 undef = .agg #[.int .u64 (E : Int), .int .u64 (F : Int), .int .u64 (H : Int)] := hdep 13 (by kernel_rfl)
          have t13 : a.tmps[13]?.getD undef = .agg #[.int .u64 (E : Int), .int .u64 (F : Int), .int .u64 (H : Int)] := by simpa using s13
          rw [if_pos (Flow.wanted_none rfl)]
          clear hfr hdep
          go_simp
          refine (HBY.out W).mono ?_
          rintro e W' ⟨rfl, g1⟩
          exact hK _ _ True.intro (Gr.trans hinv g1) (fun d hd => by cases hd; trivial)
        refine Flow.Steps.cons (fun a W hfr hinv hdep K hK => ?_) ?_
        · have s12 : a.tmps.getD 12 undef = .agg (sec S) := hdep 12 (by kernel_rfl)
          have t12 : a.tmps[12]?.getD undef = .agg (sec S) := by simpa using s12
          have s14 : a.tmps.getD 14 undef = .agg (sec S) := hdep 14 (by kernel_rfl)
          have t14 : a.tmps[14]?.getD undef = .agg (sec S) := by simpa using s14
          have hq := eqi_sec
          rw [if_pos (Flow.wanted_none rfl)]
          clear hfr hdep
          go_simp
          exact hK _ _ True.intro hinv (fun d hd => by cases hd; trivial)
        exact True.intro
      case fin =>
        intro a W' hfr hfin hsl
        have s15 : a.tmps.getD 15 undef = .bool false := hsl 3 _ 15 rfl rfl
        have t15 : a.tmps[15]?.getD undef = .bool false := by simpa using s15
        have e := Flow.frame hfr [12, 13, 14, 15] (List.range 18) (by kernel_rfl) (by kernel_rfl)
        simp [List.range, List.range.loop] at e
        rw [t15] at e
        rw [e]
        clear e hfr hsl s15 t15
        rename_i K2 hK2
        refine hK2 _ _ ?_
        obtain ⟨⟨c0, c1, c2⟩, f0, f1, f2⟩ := (HRW.out.below hfin HRW.out.lt).c3
        obtain ⟨⟨d0, d1, d2⟩, q0, q1, q2⟩ := (HM.out.below hfin HM.out.lt).c3
        have HR3 := Lib.hid (HRW.out.below hfin HRW.out.lt)
        have HG3 := Lib.hid (Gr.trans HGW.out hfin)
        clear hfin
        go_wp2_with fail
        exact bodyPost_ret (results_ma rfl _ _ (w.heap.size + 1) #[.int .u64 E, .int .u64 F, .int .u64 H] _ rfl rfl rfl (((HR3.out.set 0 _).set 1 _).set 2 _)) rfl ⟨rfl, below_set3 HG3.out (by omega)⟩
    · have HD : Hid (decide (S = T) = false) := Lib.hid (decide_eq_false hs)
      rw [decide_eq_false hs] at HKK
      have hK := HKK.out
      subst hK
      clear hs
      refine Flow.region (SlQ1 E F H S T) (Gr W) (fun _ _ => True) (by kernel_rfl) (by kernel_rfl) (fun _ _ _ _ h _ => h) ⟨rfl, rfl, rfl, Nat.le_refl _, fun _ _ => rfl⟩ ?steps ?fin
      case steps =>
        refine Flow.Steps.cons (fun a W hfr hinv hdep K hK => ?_) ?_
        · have s1 : a.tmps.getD 1 undef = .pointer (some ⟨w.heap.size, 0, none⟩) := hfr.at 1 (by kernel_rfl)
          have t1 : a.tmps[1]?.getD undef = .pointer (some ⟨w.heap.size, 0, none⟩) := by simpa using s1
          rw [if_pos (Flow.wanted_none rfl)]
          clear hfr hdep
          refine wp_load_x (.tmp 1) rfl (HBW.out.below hinv HBW.out.lt) (by simpa [Act.eval] using s1) ?_
          exact hK _ _ True.intro hinv (fun d hd => by cases hd; trivial)
        refine Flow.Steps.cons (fun a W hfr hinv hdep K hK => ?_) ?_
        · have s4 : a.tmps.getD 4 undef = .pointer (some ⟨k', 0, none⟩) := hfr.at 4 (by kernel_rfl)
          have t4 : a.tmps[4]?.getD undef = .pointer (some ⟨k', 0, none⟩) := by simpa using s4
          obtain ⟨b0, b1, b2⟩ := HM.out.manyT hinv
          rw [if_pos (Flow.wanted_none rfl)]
          clear hfr hdep
          go_simp
          exact hK _ _ True.intro hinv (fun d hd => by cases hd; trivial)
        refine Flow.Steps.cons (fun a W hfr hinv hdep K hK => ?_) ?_
        · have s13 : a.tmps.getD 13 undef = .agg #[.int .u64 (E : Int), .int .u64 (F : Int), .int .u64 (H : Int)] := hdep 13 (by kernel_rfl)
          have t13 : a.tmps[13]?.getD undef = .agg #[.int .u64 (E : Int), .int .u64 (F : Int), .int .u64 (H : Int)] := by simpa using s13
          rw [if_pos (Flow.wanted_none rfl)]
          clear hfr hdep
          go_simp
          refine (HBY.out W).mono ?_
          rintro e W' ⟨rfl, g1⟩
          exact hK _ _ True.intro (Gr.trans hinv g1) (fun d hd => by cases hd; trivial)
        refine Flow.Steps.cons (fun a W hfr hinv hdep K hK => ?_) ?_
        · have s12 : a.tmps.getD 12 undef = .agg (sec S) := hdep 12 (by kernel_rfl)
          have t12 : a.tmps[12]?.getD undef = .agg (sec S) := by simpa using s12
          have s14 : a.tmps.getD 14 undef = .agg (sec T) := hdep 14 (by kernel_rfl)
          have t14 : a.tmps[14]?.getD undef = .agg (sec T) := by simpa using s14
          rw [if_pos (Flow.wanted_none rfl)]
          clear hfr hdep
          have hq := eqi_sec
          have hd := HD.out
          go_simp
          exact hK _ _ True.intro hinv (fun d hd => by cases hd; trivial)
        exact True.intro
      case fin =>
        intro a W' hfr hfin hsl
        have s15 : a.tmps.getD 15 undef = .bool true := hsl 3 _ 15 rfl rfl
        have t15 : a.tmps[15]?.getD undef = .bool true := by simpa using s15
        have e := Flow.frame hfr [12, 13, 14, 15] (List.range 18) (by kernel_rfl) (by kernel_rfl)
        simp [List.range, List.range.loop] at e
        rw [t15] at e
        rw [e]
        clear e hfr hsl s15 t15
        rename_i K2 hK2
        refine hK2 _ _ ?_
        obtain ⟨⟨c0, c1, c2⟩, f0, f1, f2⟩ := (HRW.out.below hfin HRW.out.lt).c3
        have HR3 := Lib.hid (HRW.out.below hfin HRW.out.lt)
        have HG3 := Lib.hid (Gr.trans HGW.out hfin)
        clear hfin
        go_wp2_with fail
        exact bodyPost_ret (results_ma rfl _ _ (w.heap.size + 1) #[.int .u64 0, .int .u64 0, .int .u64 0] _ rfl rfl rfl (((HR3.out.set 0 _).set 1 _).set 2 _)) rfl ⟨rfl, below_set3 HG3.out (by omega)⟩

set_option maxRecDepth 100000 in
set_option maxHeartbeats 2000000 in
theorem refMasterOf_any (xs : List Int) (w : World) (hx : IsSec xs) : Calls Try.prog 34 #[.agg (sec (Sx xs))] w (RetMa (maOk xs) (maE xs) (maS xs) (maT xs) (.bool (maOk xs)) w) := by
  have l0 : maE xs < 256 ^ 8 := at_lt hx.small 8 8 (by omega)
  have l1 : maS xs < 256 ^ 8 := at_lt hx.small 16 8 (by omega)
  have l2 : maT xs < 256 ^ 8 := at_lt hx.small 24 8 (by omega)
  have hB0 := (Blk.new w TS (sec (Sx xs))).alloc (.cells #[.int .u64 0, .int .u64 0, .int .u64 0] TMa)
  have hr0 := Blk.new (w.alloc (.cells (sec (Sx xs)) TS)) TMa #[.int .u64 0, .int .u64 0, .int .u64 0]
  simp only [World.size_alloc] at hr0
  have hw0 : ∀ W, Blk W w.heap.size TS (sec (Sx xs)) → Calls Try.prog 46 #[.slice (some ⟨w.heap.size, 8, none⟩) 8 248] W fun e w' => e = .returned (.int .u64 (maE xs)) ∧ W = w' := fun W hb => by
    have h := refGet_any _ _ _ _ W ((hb.byt hx).sub (by omega) 8 8 248 (by omega) (by omega) (by simp only [maxLen]; omega)) (by omega)
    rw [← at_dec hx 8 8 (by omega) (by omega) (by omega), Nat.zero_add] at h
    exact h
  have hw1 : ∀ W, Blk W w.heap.size TS (sec (Sx xs)) → Calls Try.prog 46 #[.slice (some ⟨w.heap.size, 16, none⟩) 8 240] W fun e w' => e = .returned (.int .u64 (maS xs)) ∧ W = w' := fun W hb => by
    have h := refGet_any _ _ _ _ W ((hb.byt hx).sub (by omega) 16 8 240 (by omega) (by omega) (by simp only [maxLen]; omega)) (by omega)
    rw [← at_dec hx 16 8 (by omega) (by omega) (by omega), Nat.zero_add] at h
    exact h
  have hw2 : ∀ W, Blk W w.heap.size TS (sec (Sx xs)) → Calls Try.prog 46 #[.slice (some ⟨w.heap.size, 24, none⟩) 8 232] W fun e w' => e = .returned (.int .u64 (maT xs)) ∧ W = w' := fun W hb => by
    have h := refGet_any _ _ _ _ W ((hb.byt hx).sub (by omega) 24 8 232 (by omega) (by omega) (by simp only [maxLen]; omega)) (by omega)
    rw [← at_dec hx 24 8 (by omega) (by omega) (by omega), Nat.zero_add] at h
    exact h
  have HBY := Lib.hid (fun W => refMaBytes_any (maE xs) (maS xs) (maT xs) W (Nat.le_of_lt_succ l0) (Nat.le_of_lt_succ l1) (Nat.le_of_lt_succ l2))
  have HYS := maB_sec (maE xs) (maS xs) (maT xs)
  have hOK : maOk xs = decide (Sx xs = Sx (maB (maE xs) (maS xs) (maT xs))) := by unfold maOk; rw [decide_eq_decide, Sx_inj hx HYS]
  unfold RetSec at HBY
  obtain ⟨E, e0⟩ : ∃ m, m = maE xs := ⟨_, rfl⟩
  obtain ⟨F, e1⟩ : ∃ m, m = maS xs := ⟨_, rfl⟩
  obtain ⟨H, e2⟩ : ∃ m, m = maT xs := ⟨_, rfl⟩
  obtain ⟨K, e5⟩ : ∃ K, K = maOk xs := ⟨_, rfl⟩
  obtain ⟨T, e4⟩ : ∃ T, T = Sx (maB (maE xs) (maS xs) (maT xs)) := ⟨_, rfl⟩
  obtain ⟨S, e3⟩ : ∃ S, S = Sx xs := ⟨_, rfl⟩
  rw [← e4] at HBY hOK
  rw [← e0, ← e1, ← e2] at HBY ⊢
  rw [← e5] at hOK ⊢
  rw [← e3] at hOK hB0 hr0 ⊢
  rw [← e0, ← e3] at hw0
  rw [← e1, ← e3] at hw1
  rw [← e2, ← e3] at hw2
  have HG0 := ((Gr.refl w).alloc (Nat.le_refl _) (.cells (sec S) TS)).alloc (by simp) (.cells #[.int .u64 0, .int .u64 0, .int .u64 0] TMa)
  obtain ⟨V, hV⟩ : ∃ V, V = (w.alloc (.cells (sec S) TS)).alloc (.cells #[.int .u64 0, .int .u64 0, .int .u64 0] TMa) := ⟨_, rfl⟩
  rw [← hV] at hB0 hr0 HG0
  have HB0 := Lib.hid hB0
  have HR0 := Lib.hid hr0
  have HG0 := Lib.hid HG0
  have HV := Lib.hid hV
  have HW0 := Lib.hid (fun W (g : Gr V W) => hw0 W (HB0.out.below g HB0.out.lt))
  clear hw0
  have HW1 := Lib.hid (fun W (g : Gr V W) => hw1 W (HB0.out.below g HB0.out.lt))
  clear hw1
  have HW2 := Lib.hid (fun W (g : Gr V W) => hw2 W (HB0.out.below g HB0.out.lt))
  clear hw2
  have HKK := Lib.hid hOK
  clear l0 l1 l2 e0 e1 e2 e3 e4 e5 hx hB0 hr0 hV hOK HYS
  go_enter Try.func34, Try.ntmps34
  go_wp2_with fail
  rw [← HV.out]
  refine Flow.regionZ 8 7 (by kernel_rfl) [4] 12 (SlMb w.heap.size V.heap.size E F H) (fun W => Gr V W ∧ Uni V.heap.size W) (FinMa V E F H) (Noma V.heap.size) (fun _ W W' => Stay V.heap.size W W') (by kernel_rfl) (by kernel_rfl) (by kernel_rfl) (fun _ _ _ _ _ _ h k => slMb_stay h k) ⟨⟨rfl, rfl, rfl, Nat.le_refl _, fun _ _ => rfl⟩, Uni.start (w := V)⟩ (Noma.start (w := V)) ?steps ?fin
  case steps =>
    refine Flow.StepsZ.cons (fun a W hfr hinv hear hdep K hK => ?_) ?_
    · have s1 : a.tmps.getD 1 undef = .pointer (some ⟨w.heap.size, 0, none⟩) := hfr.at 1 (by kernel_rfl)
      have t1 : a.tmps[1]?.getD undef = .pointer (some ⟨w.heap.size, 0, none⟩) := by simpa using s1
      rw [if_pos (Flow.wanted_none rfl)]
      clear hfr hdep hear
      go_simp
      exact hK _ _ (Stay.refl _ _) hinv (fun h => h) (fun d hd => by cases hd; trivial)
    refine Flow.StepsZ.cons (fun a W hfr hinv hear hdep K hK => ?_) ?_
    · have s5 : a.tmps.getD 5 undef = .slice (some ⟨w.heap.size, 8, none⟩) 8 248 := hdep 5 (by kernel_rfl)
      have t5 : a.tmps[5]?.getD undef = .slice (some ⟨w.heap.size, 8, none⟩) 8 248 := by simpa using s5
      rw [if_pos (Flow.wanted_none rfl)]
      clear hfr hdep
      go_simp
      refine (HW0.out W hinv.1).mono ?_
      rintro e W' ⟨rfl, rfl⟩
      exact hK _ _ (Stay.refl _ _) hinv (fun h => h) (fun d hd => by cases hd; trivial)
    refine Flow.StepsZ.cons (fun a W hfr hinv hear hdep K hK => ?_) ?_
    · have s1 : a.tmps.getD 1 undef = .pointer (some ⟨w.heap.size, 0, none⟩) := hfr.at 1 (by kernel_rfl)
      have t1 : a.tmps[1]?.getD undef = .pointer (some ⟨w.heap.size, 0, none⟩) := by simpa using s1
      rw [if_pos (Flow.wanted_none rfl)]
      clear hfr hdep hear
      go_simp
      exact hK _ _ (Stay.refl _ _) hinv (fun h => h) (fun d hd => by cases hd; trivial)
    refine Flow.StepsZ.cons (fun a W hfr hinv hear hdep K hK => ?_) ?_
    · have s7 : a.tmps.getD 7 undef = .slice (some ⟨w.heap.size, 16, none⟩) 8 240 := hdep 7 (by kernel_rfl)
      have t7 : a.tmps[7]?.getD undef = .slice (some ⟨w.heap.size, 16, none⟩) 8 240 := by simpa using s7
      rw [if_pos (Flow.wanted_none rfl)]
      clear hfr hdep
      go_simp
      refine (HW1.out W hinv.1).mono ?_
      rintro e W' ⟨rfl, rfl⟩
      exact hK _ _ (Stay.refl _ _) hinv (fun h => h) (fun d hd => by cases hd; trivial)
    refine Flow.StepsZ.cons (fun a W hfr hinv hear hdep K hK => ?_) ?_
    · have s1 : a.tmps.getD 1 undef = .pointer (some ⟨w.heap.size, 0, none⟩) := hfr.at 1 (by kernel_rfl)
      have t1 : a.tmps[1]?.getD undef = .pointer (some ⟨w.heap.size, 0, none⟩) := by simpa using s1
      rw [if_pos (Flow.wanted_none rfl)]
      clear hfr hdep hear
      go_simp
      exact hK _ _ (Stay.refl _ _) hinv (fun h => h) (fun d hd => by cases hd; trivial)
    refine Flow.StepsZ.cons (fun a W hfr hinv hear hdep K hK => ?_) ?_
    · have s9 : a.tmps.getD 9 undef = .slice (some ⟨w.heap.size, 24, none⟩) 8 232 := hdep 9 (by kernel_rfl)
      have t9 : a.tmps[9]?.getD undef = .slice (some ⟨w.heap.size, 24, none⟩) 8 232 := by simpa using s9
      rw [if_pos (Flow.wanted_none rfl)]
      clear hfr hdep
      go_simp
      refine (HW2.out W hinv.1).mono ?_
      rintro e W' ⟨rfl, rfl⟩
      exact hK _ _ (Stay.refl _ _) hinv (fun h => h) (fun d hd => by cases hd; trivial)
    refine Flow.StepsZ.cons (fun a W hfr hinv hear hdep K hK => ?_) ?_
    · have s6 : a.tmps.getD 6 undef = .int .u64 (E : Int) := hdep 6 (by kernel_rfl)
      have t6 : a.tmps[6]?.getD undef = .int .u64 (E : Int) := by simpa using s6
      have s8 : a.tmps.getD 8 undef = .int .u64 (F : Int) := hdep 8 (by kernel_rfl)
      have t8 : a.tmps[8]?.getD undef = .int .u64 (F : Int) := by simpa using s8
      have s10 : a.tmps.getD 10 undef = .int .u64 (H : Int) := hdep 10 (by kernel_rfl)
      have t10 : a.tmps[10]?.getD undef = .int .u64 (H : Int) := by simpa using s10
      rw [if_pos (Flow.wanted_none rfl)]
      clear hfr hdep hear
      go_simp
      exact hK _ _ (Stay.refl _ _) hinv (fun h => h) (fun d hd => by cases hd; trivial)
    refine Flow.StepsZ.cons (fun a W hfr hinv hear hdep K hK => ?_) ?_
    · rw [if_pos (Flow.wanted_none rfl)]
      clear hfr hdep
      go_simp
      exact hK _ _ (Stay.alloc _ _ _) ⟨Gr.alloc' hinv.1, Uni.new hear _⟩ True.intro (fun d hd => by cases hd; exact ⟨_, rfl, hinv.1.size, _, rfl, Blk.new _ _ _⟩)
    refine Flow.StepsZ.cons (fun a W hfr hinv hear hdep K hK => ?_) ?_
    · have s4 : ∃ k, (a.tmps.getD 4 undef) = .pointer (some ⟨k, 0, none⟩) ∧ V.heap.size ≤ k ∧ ∃ cs, cs.size = 3 ∧ Blk W k TMa cs := hdep 4 (by kernel_rfl)
      have s11 : a.tmps.getD 11 undef = .agg #[.int .u64 (E : Int), .int .u64 (F : Int), .int .u64 (H : Int)] := hdep 11 (by kernel_rfl)
      have t11 : a.tmps[11]?.getD undef = .agg #[.int .u64 (E : Int), .int .u64 (F : Int), .int .u64 (H : Int)] := by simpa using s11
      rw [if_pos (Flow.wanted_none rfl)]
      clear hfr hdep
      obtain ⟨k, s4, hk, cs, hcs, hbk⟩ := s4
      refine wp_store_ma (.tmp 4) (.tmp 11) rfl hbk hcs rfl (one3 _ _ _) (by simpa [Act.eval] using s4) (by simpa [Act.eval] using s11) ?_
      exact hK _ _ (fun k1 cs1 h1 h2 h3 => by
        have e := hinv.2 k1 k cs1 cs h1 hk h3 hbk
        subst e
        exact ⟨_, rfl, hbk.row _⟩) (fin_ma hinv.1 hinv.2 hk hbk) True.intro (fun d hd => by cases hd)
    exact True.intro
  case fin =>
    intro a W hfr hfin hsl
    obtain ⟨hgr, k, hk, hbk, hun⟩ := hfin
    obtain ⟨k', s4, hk', cs, hcs, hb'⟩ : SlMb w.heap.size V.heap.size E F H 4 (a.tmps.getD 4 undef) W := hsl 7 _ 4 rfl rfl (by simp)
    obtain rfl := hun k' cs hk' hb'
    have t4 : a.tmps[4]?.getD undef = .pointer (some ⟨k', 0, none⟩) := by simpa using s4
    have e := Flow.frame hfr [5, 6, 7, 8, 9, 10, 11, 4] (List.range 18) (by kernel_rfl) (by kernel_rfl)
    simp [List.range, List.range.loop] at e
    rw [t4] at e
    rw [e]
    have HM := Lib.hid hbk
    have HBW := Lib.hid (HB0.out.below hgr HB0.out.lt)
    have HRW := Lib.hid (HR0.out.below hgr HR0.out.lt)
    have HGW : Hid (Gr w W) := Lib.hid (Below.trans HG0.out (hgr.mono HG0.out.size))
    clear e hfr hsl s4 t4 hb' hcs hk hk' hun hbk hgr HB0 HR0 HG0 HV
    rename_i K2 hK2
    refine hK2 _ _ ?_
    go_wp2_with fail
    by_cases hs : S = T
    · subst hs
      rw [decide_eq_true rfl] at HKK
      have hK := HKK.out
      subst hK
      refine Flow.region (SlP2 E F H S S) (Gr W) (fun _ _ => True) (by kernel_rfl) (by kernel_rfl) (fun _ _ _ _ h _ => h) ⟨rfl, rfl, rfl, Nat.le_refl _, fun _ _ => rfl⟩ ?steps ?fin
      case steps =>
        refine Flow.Steps.cons (fun a W hfr hinv hdep K hK => ?_) ?_
        · have s4 : a.tmps.getD 4 undef = .pointer (some ⟨k', 0, none⟩) := hfr.at 4 (by kernel_rfl)
          have t4 : a.tmps[4]?.getD undef = .pointer (some ⟨k', 0, none⟩) := by simpa using s4
          obtain ⟨b0, b1, b2⟩ := HM.out.manyT hinv
          rw [if_pos (Flow.wanted_none rfl)]
          clear hfr hdep
          go_simp
          exact hK _ _ True.intro hinv (fun d hd => by cases hd; trivial)
        refine Flow.Steps.cons (fun a W hfr hinv hdep K hK => ?_) ?_
        · have s12 : a.tmps.getD 12 undef = .agg #[.int .u64 (E : Int), .int .u64 (F : Int), .int .u64 (H : Int)] := hdep 12 (by kernel_rfl)
          have t12 : a.tmps[12]?.getD undef = .agg #[.int .u64 (E : Int), .int .u64 (F : Int), .int .u64 (H : Int)] := by simpa using s12
          rw [if_pos (Flow.wanted_none rfl)]
          clear hfr hdep
          go_simp
          refine (HBY.out W).mono ?_
          rintro e W' ⟨rfl, g1⟩
          exact hK _ _ True.intro (Gr.trans hinv g1) (fun d hd => by cases hd; trivial)
        refine Flow.Steps.cons (fun a W hfr hinv hdep K hK => ?_) ?_
        · have s1 : a.tmps.getD 1 undef = .pointer (some ⟨w.heap.size, 0, none⟩) := hfr.at 1 (by kernel_rfl)
          have t1 : a.tmps[1]?.getD undef = .pointer (some ⟨w.heap.size, 0, none⟩) := by simpa using s1
          rw [if_pos (Flow.wanted_none rfl)]
          clear hfr hdep
          refine wp_load_x (.tmp 1) rfl (HBW.out.below hinv HBW.out.lt) (by simpa [Act.eval] using s1) ?_
          exact hK _ _ True.intro hinv (fun d hd => by cases hd; trivial)
        refine Flow.Steps.cons (fun a W hfr hinv hdep K hK => ?_) ?_
        · have s13 : a.tmps.getD 13 undef = .agg (sec S) := hdep 13 (by kernel_rfl)
          have t13 : a.tmps[13]?.getD undef = .agg (sec S) := by simpa using s13
          have s14 : a.tmps.getD 14 undef = .agg (sec S) := hdep 14 (by kernel_rfl)
          have t14 : a.tmps[14]?.getD undef = .agg (sec S) := by simpa using s14
          have hq := eqi_sec
          rw [if_pos (Flow.wanted_none rfl)]
          clear hfr hdep
          go_simp
          exact hK _ _ True.intro hinv (fun d hd => by cases hd; trivial)
        exact True.intro
      case fin =>
        intro a W' hfr hfin hsl
        have s15 : a.tmps.getD 15 undef = .bool false := hsl 3 _ 15 rfl rfl
        have t15 : a.tmps[15]?.getD undef = .bool false := by simpa using s15
        have e := Flow.frame hfr [12, 13, 14, 15] (List.range 18) (by kernel_rfl) (by kernel_rfl)
        simp [List.range, List.range.loop] at e
        rw [t15] at e
        rw [e]
        clear e hfr hsl s15 t15
        rename_i K2 hK2
        refine hK2 _ _ ?_
        obtain ⟨⟨c0, c1, c2⟩, f0, f1, f2⟩ := (HRW.out.below hfin HRW.out.lt).c3
        obtain ⟨⟨d0, d1, d2⟩, q0, q1, q2⟩ := (HM.out.below hfin HM.out.lt).c3
        have HR3 := Lib.hid (HRW.out.below hfin HRW.out.lt)
        have HG3 := Lib.hid (Gr.trans HGW.out hfin)
        clear hfin
        go_wp2_with fail
        exact bodyPost_ret (results_ma rfl _ _ (w.heap.size + 1) #[.int .u64 E, .int .u64 F, .int .u64 H] _ rfl rfl rfl (((HR3.out.set 0 _).set 1 _).set 2 _)) rfl ⟨rfl, below_set3 HG3.out (by omega)⟩
    · have HD : Hid (decide (T = S) = false) := Lib.hid (decide_eq_false (fun e => hs e.symm))
      rw [decide_eq_false hs] at HKK
      have hK := HKK.out
      subst hK
      clear hs
      refine Flow.region (SlQ2 E F H S T) (Gr W) (fun _ _ => True) (by kernel_rfl) (by kernel_rfl) (fun _ _ _ _ h _ => h) ⟨rfl, rfl, rfl, Nat.le_refl _, fun _ _ => rfl⟩ ?steps ?fin
      case steps =>
        refine Flow.Steps.cons (fun a W hfr hinv hdep K hK => ?_) ?_
        · have s4 : a.tmps.getD 4 undef = .pointer (some ⟨k', 0, none⟩) := hfr.at 4 (by kernel_rfl)
          have t4 : a.tmps[4]?.getD undef = .pointer (some ⟨k', 0, none⟩) := by simpa using s4
          obtain ⟨b0, b1, b2⟩ := HM.out.manyT hinv
          rw [if_pos (Flow.wanted_none rfl)]
          clear hfr hdep
          go_simp
          exact hK _ _ True.intro hinv (fun d hd => by cases hd; trivial)
        refine Flow.Steps.cons (fun a W hfr hinv hdep K hK => ?_) ?_
        · have s12 : a.tmps.getD 12 undef = .agg #[.int .u64 (E : Int), .int .u64 (F : Int), .int .u64 (H : Int)] := hdep 12 (by kernel_rfl)
          have t12 : a.tmps[12]?.getD undef = .agg #[.int .u64 (E : Int), .int .u64 (F : Int), .int .u64 (H : Int)] := by simpa using s12
          rw [if_pos (Flow.wanted_none rfl)]
          clear hfr hdep
          go_simp
          refine (HBY.out W).mono ?_
          rintro e W' ⟨rfl, g1⟩
          exact hK _ _ True.intro (Gr.trans hinv g1) (fun d hd => by cases hd; trivial)
        refine Flow.Steps.cons (fun a W hfr hinv hdep K hK => ?_) ?_
        · have s1 : a.tmps.getD 1 undef = .pointer (some ⟨w.heap.size, 0, none⟩) := hfr.at 1 (by kernel_rfl)
          have t1 : a.tmps[1]?.getD undef = .pointer (some ⟨w.heap.size, 0, none⟩) := by simpa using s1
          rw [if_pos (Flow.wanted_none rfl)]
          clear hfr hdep
          refine wp_load_x (.tmp 1) rfl (HBW.out.below hinv HBW.out.lt) (by simpa [Act.eval] using s1) ?_
          exact hK _ _ True.intro hinv (fun d hd => by cases hd; trivial)
        refine Flow.Steps.cons (fun a W hfr hinv hdep K hK => ?_) ?_
        · have s13 : a.tmps.getD 13 undef = .agg (sec T) := hdep 13 (by kernel_rfl)
          have t13 : a.tmps[13]?.getD undef = .agg (sec T) := by simpa using s13
          have s14 : a.tmps.getD 14 undef = .agg (sec S) := hdep 14 (by kernel_rfl)
          have t14 : a.tmps[14]?.getD undef = .agg (sec S) := by simpa using s14
          rw [if_pos (Flow.wanted_none rfl)]
          clear hfr hdep
          have hq := eqi_sec
          have hd := HD.out
          go_simp
          exact hK _ _ True.intro hinv (fun d hd => by cases hd; trivial)
        exact True.intro
      case fin =>
        intro a W' hfr hfin hsl
        have s15 : a.tmps.getD 15 undef = .bool true := hsl 3 _ 15 rfl rfl
        have t15 : a.tmps[15]?.getD undef = .bool true := by simpa using s15
        have e := Flow.frame hfr [12, 13, 14, 15] (List.range 18) (by kernel_rfl) (by kernel_rfl)
        simp [List.range, List.range.loop] at e
        rw [t15] at e
        rw [e]
        clear e hfr hsl s15 t15
        rename_i K2 hK2
        refine hK2 _ _ ?_
        obtain ⟨⟨c0, c1, c2⟩, f0, f1, f2⟩ := (HRW.out.below hfin HRW.out.lt).c3
        have HR3 := Lib.hid (HRW.out.below hfin HRW.out.lt)
        have HG3 := Lib.hid (Gr.trans HGW.out hfin)
        clear hfin
        go_wp2_with fail
        exact bodyPost_ret (results_ma rfl _ _ (w.heap.size + 1) #[.int .u64 0, .int .u64 0, .int .u64 0] _ rfl rfl rfl (((HR3.out.set 0 _).set 1 _).set 2 _)) rfl ⟨rfl, below_set3 HG3.out (by omega)⟩

end Go.Proofs.Ytanajjfcnedaiaa
