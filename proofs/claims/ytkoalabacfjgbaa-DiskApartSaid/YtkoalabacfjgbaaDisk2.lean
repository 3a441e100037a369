
import Derived.Test.YtkoalabacfjgbaaDisk1
namespace Go.Proofs.Ytkoalabacfjgbaa
open Go.RowKit Go.Maps

/-! ### sectors that are noughts -/
theorem zero_cells : Sec.zero.cells = List.replicate 256 (.int .u8 0) := by
  unfold Sec.cells Sec.zero
  rw [List.map_replicate]
  rfl
theorem cellsOf_zero (n : Nat) : cellsOf (List.replicate n Sec.zero) = List.replicate (n * 256) (.int .u8 0) := by
  induction n with
  | zero => rfl
  | succ n ih =>
    rw [List.replicate_succ, ← List.singleton_append, cellsOf_app, cellsOf_one, ih, zero_cells, List.replicate_append_replicate]
    congr 1; omega
theorem made_const (c : Value) (K m : Nat) (h : 0 < K) : (madeCells (List.replicate K c).toArray m).toList = List.replicate m c := by
  apply List.ext_getElem?
  intro j
  by_cases hj : j < m
  · simp [madeCells, hj, List.getElem?_replicate, Nat.mod_lt _ h]
  · simp [madeCells, hj, List.getElem?_replicate]
theorem made_zero (n : Nat) : (madeCells (Value.agg (sec Sec.zero)).cells (n * 256)).toList = cellsOf (List.replicate n Sec.zero) := by
  have h : (Value.agg (sec Sec.zero)).cells = (List.replicate 256 (Value.int .u8 0)).toArray := by
    show (sec Sec.zero) = _
    unfold sec
    rw [zero_cells]
  rw [cellsOf_zero, h, made_const _ _ _ (by omega)]

def Small (n : Int) : Prop := 1 ≤ n ∧ n ≤ 65536

set_option maxRecDepth 100000 in
theorem may_yes (n : Int) (w : World) (h : Small n) : Calls Try.prog 21 #[.int .i64 n] w fun e w' => e = .returned (.bool true) ∧ w = w' := by
  obtain ⟨h1, h2⟩ := h
  go_enter Try.func21, Try.ntmps21
  go_wp2
  go_ret
  exact ⟨rfl, rfl⟩
set_option maxRecDepth 100000 in
theorem may_no (n : Int) (w : World) (h : ¬ Small n) : Calls Try.prog 21 #[.int .i64 n] w fun e w' => e = .returned (.bool false) ∧ w = w' := by
  unfold Small at h
  by_cases h1 : 1 ≤ n
  · have h2 : ¬ n ≤ 65536 := fun e => h ⟨h1, e⟩
    clear h
    go_enter Try.func21, Try.ntmps21
    go_wp2
    go_ret
    exact ⟨rfl, rfl⟩
  · clear h
    go_enter Try.func21, Try.ntmps21
    go_wp2
    go_ret
    exact ⟨rfl, rfl⟩

/-- A disk on which these last. -/
def fresh (l : List Sec) : St := ⟨l, fun _ => [], -1, false, 0⟩
theorem fresh_ok {l : List Sec} (h1 : 0 < l.length) (h2 : l.length ≤ 65536) : (fresh l).Ok := ⟨h1, h2, fun _ _ => rfl, fun _ => Nat.zero_le _, by show (-9223372036854775808 : Int) ≤ -1; omega, by show (-1 : Int) ≤ 9223372036854775807; omega⟩

/-- A new disk: its blocks are new ones. -/
def NewDk (w w' : World) (e : Ending) (s : St) : Prop := ∃ p F, e = .returned p ∧ Dk w' F p s ∧ Gr w w' ∧ ∀ k, F k → w.heap.size ≤ k

theorem Loose.made {w : World} {most N : Nat} : Loose (w.alloc (.map #[] 0)) w.heap.size most N (fun _ => nilS) (fun _ => []) :=
  ⟨.map [], 0, World.ownsMap_made _ _ _ _, Nat.zero_le _, fun i _ => rfl, fun i _ => ⟨(fun h => by cases h), fun h => absurd rfl h⟩, fun k h => by cases h⟩

theorem lasting_at (w : World) (v : Value) (l : List Sec) (h : Row w v l) (h1 : 0 < l.length) (h2 : l.length ≤ 65536) :
    DkAt ((w.alloc (.map #[] 0)).alloc (.cells #[v, .map (some w.heap.size), .int .i64 (-1), .bool false, .int .i64 0] TD)) (fun k => v.ownBlock = some k ∨ w.heap.size ≤ k ∧ k < w.heap.size + 2) (w.heap.size + 1) v w.heap.size (fun _ => nilS) (fresh l) := by
  have e1 : (w.alloc (.map #[] 0)).heap.size = w.heap.size + 1 := by simp
  have hg : Gr w ((w.alloc (.map #[] 0)).alloc (.cells #[v, .map (some w.heap.size), .int .i64 (-1), .bool false, .int .i64 0] TD)) := ((Gr.refl w).alloc (Nat.le_refl _) _).alloc (by simp) _
  refine ⟨fresh_ok h1 h2, ?_, h.gr hg, ?_, fun i => Row.empty _, (fun i j g h => by cases h), (fun i g h => by cases h), .inr ⟨by omega, by omega⟩, .inr ⟨by omega, by omega⟩, fun g hg => .inl hg, (fun i g h => by cases h), ?_⟩
  · have := Blk.new (w.alloc (.map #[] 0)) TD #[v, .map (some w.heap.size), .int .i64 (-1), .bool false, .int .i64 0]
    rwa [e1] at this
  · exact Loose.made.stays (Below.heap_alloc (w.alloc (.map #[] 0)) _ w.heap.size (by rw [e1]; omega))
  · rintro k (hk | ⟨_, hk⟩)
    · have := h.lt k hk
      have := hg.size
      simp; omega
    · simp; omega

set_option maxRecDepth 100000 in
theorem lasting_any (w : World) (v : Value) (l : List Sec) (h : Row w v l) (h1 : 0 < l.length) (h2 : l.length ≤ 65536) : Calls Try.prog 22 #[v] w fun e w' => ∃ p, e = .returned p ∧ Dk w' (fun k => v.ownBlock = some k ∨ w.heap.size ≤ k ∧ k < w.heap.size + 2) p (fresh l) ∧ Gr w w' := by
  have hg : Gr w ((w.alloc (.map #[] 0)).alloc (.cells #[v, .map (some w.heap.size), .int .i64 (-1), .bool false, .int .i64 0] TD)) := ((Gr.refl w).alloc (Nat.le_refl _) _).alloc (by simp) _
  have HA := Lib.hid (lasting_at w v l h h1 h2)
  obtain ⟨g, c, rfl, _⟩ := h.full (fun e => by rw [e] at h1; simp at h1)
  obtain ⟨n, hn⟩ : ∃ n, n = l.length := ⟨_, rfl⟩
  rw [← hn] at HA hg ⊢
  have hmm := @run_makeMap Try.prog
  clear h h1 h2 hn
  go_enter Try.func22, Try.ntmps22
  go_wp2
  go_ret
  exact ⟨_, rfl, ⟨_, _, _, _, rfl, HA.out⟩, hg⟩

/-- Answers of New, Of. -/
def RetNew (w w' : World) (e : Ending) (s : St) : Prop := ∃ p F, e = .returned (.tuple #[p, .int .i64 0]) ∧ Dk w' F p s ∧ Gr w w' ∧ ∀ k, F k → w.heap.size ≤ k

set_option maxRecDepth 100000 in
theorem New_yes (n : Nat) (w : World) (h : Small n) : Calls Try.prog 16 #[.int .i64 (n : Int)] w fun e w' => RetNew w w' e (fresh (List.replicate n Sec.zero)) := by
  have HM := Lib.hid (may_yes n w h)
  obtain ⟨h1, h2⟩ := h
  obtain ⟨i0, hi, hz0, hz1, hz2⟩ := info_parts info_sec
  have HI := Lib.hid hi
  have HZ0 := Lib.hid hz0
  have HZ1 := Lib.hid hz1
  have HZ2 := Lib.hid hz2
  clear hi hz0 hz1 hz2
  go_enter Try.func16, Try.ntmps16
  go_wp2_with fail
  refine HM.out.mono ?_
  rintro e w' ⟨rfl, rfl⟩
  go_wp2_with (at_make; refine wpList_make_full _ rfl _ _ TL rfl 0 TS i0 (.agg (sec Sec.zero)) 256 Try.underlying25 HI.out HZ0.out HZ1.out _ _ _ _ n rfl rfl rfl rfl ?b1 ?b2 (Nat.zero_le _) ?_)
  case b1 => rw [HZ2.out]; omega
  case b2 => unfold maxLen; omega
  intro w1 hown hgrow
  have hz := made_zero n
  simp only [Value.cells] at hz
  rw [hz] at hown
  clear hz
  have hr : Row w1 (.slice (some ⟨w.heap.size, 0, none⟩) n n) (List.replicate n Sec.zero) := by
    unfold Row
    rw [List.length_replicate]
    exact hown
  have HG : Hid (Gr w w1) := Lib.hid ((Gr.refl w).grown hgrow (Nat.le_refl _) (fun k e => by cases e))
  have HC := Lib.hid (lasting_any w1 _ _ hr (by rw [List.length_replicate]; omega) (by rw [List.length_replicate]; omega))
  clear hown hgrow hr
  go_wp2_with fail
  refine HC.out.mono ?_
  rintro e w2 ⟨p, rfl, hd, hg⟩
  have HD := Lib.hid hd
  have HG2 := Lib.hid (Gr.trans HG.out hg)
  have hs := HG.out.size
  clear hd hg
  go_wp2_with fail
  go_ret2
  refine ⟨_, _, rfl, HD.out, HG2.out, ?_⟩
  rintro k (hk | ⟨hk, _⟩)
  · cases hk; exact Nat.le_refl _
  · omega

set_option maxRecDepth 100000 in
theorem New_no (n : Int) (w : World) (h : ¬ Small n) : Calls Try.prog 16 #[.int .i64 n] w fun e w' => e = .returned (.tuple #[.pointer none, .int .i64 2]) ∧ w = w' := by
  have HM := Lib.hid (may_no n w h)
  clear h
  go_enter Try.func16, Try.ntmps16
  go_wp2_with fail
  refine HM.out.mono ?_
  rintro e w' ⟨rfl, rfl⟩
  go_wp2
  go_ret2
  exact ⟨rfl, rfl⟩

end Go.Proofs.Ytkoalabacfjgbaa
