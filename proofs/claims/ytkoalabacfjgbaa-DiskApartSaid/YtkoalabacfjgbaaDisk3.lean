
import Derived.Test.YtkoalabacfjgbaaDisk2
namespace Go.Proofs.Ytkoalabacfjgbaa
open Go.RowKit Go.Maps

theorem wpList_build_sec {ops : Array Oper} {rest : List Oper} {o : Oper} {a : Act} {w : World} {Q : Exit → Act → World → Prop} (hg : o.guard = none) (parts : Array (Nat × Operand)) (ho : o.op = .build TS parts) {s : Sec}
    (hb : Try.prog.built TS (parts.map fun (i, x) => (i, a.eval x)).toList = some (sec s))
    (h : wpList Try.prog ops Q rest (a.put o.dst (.agg (sec s))) w) : wpList Try.prog ops Q (o :: rest) a w :=
  wpList_build hg TS parts ho (by rw [hb]; rfl) (by rw [hb]; exact h)
theorem wpList_build_zero {ops : Array Oper} {rest : List Oper} {o : Oper} {a : Act} {w : World} {Q : Exit → Act → World → Prop} (hg : o.guard = none) (ho : o.op = .build TS #[])
    (h : wpList Try.prog ops Q rest (a.put o.dst (.agg (sec Sec.zero))) w) : wpList Try.prog ops Q (o :: rest) a w :=
  wpList_build_sec hg #[] ho (by simpa using built_zero) h
theorem results_sec2 {fn : Func} {p q : Tmp} (h : fn.results = #[.cell p TS, .tmp q]) (tmps : Array Value) (w : World) (g : Nat) (s : Sec)
    (hp : tmps.getD p undef = .pointer (some ⟨g, 0, none⟩)) (hb : Blk w g TS (sec s)) : (results fn tmps).run Try.prog w = .ok (.tuple #[.agg (sec s), tmps.getD q undef]) w := by
  have hp' : tmps[p]?.getD undef = .pointer (some ⟨g, 0, none⟩) := by simpa using hp
  have hl := run_loadVar_row (P := Try.prog) w g TS TS (sec s) (0, 0) _ hb under_sec rfl (by rw [sec_size]; exact size_sec)
  simp [results, h, hp', asAddr, hl]

/-- Answers of Read. -/
def RetRead (w w' : World) (e : Ending) (s : Sec) (x : Int) : Prop := e = .returned (.tuple #[.agg (sec s), .int .i64 x]) ∧ Gr w w'

set_option maxRecDepth 100000 in
set_option maxHeartbeats 1000000 in
theorem Read_yes {F : Nat → Prop} {p : Value} {s : St} (w : World) (h : Dk w F p s) (i : Nat) (hi : i < s.ls.length) : Calls Try.prog 15 #[p, .int .i64 (i : Int)] w fun e w' => RetRead w w' e (s.nw i) 0 := by
  obtain ⟨b, lv, m, L, rfl, h⟩ := h
  have hg : Gr w (w.alloc (.cells (sec Sec.zero) TS)) := (Gr.refl w).alloc (Nat.le_refl _) _
  have h' := h.gr hg
  have ha := asked_any _ h' (i : Int)
  have he : askE s.ls.length (i : Int) = 0 := by unfold askE; rw [if_neg (by omega)]
  rw [he] at ha
  have HA := Lib.hid ha
  have HB := Lib.hid (newest_any _ h' i hi)
  have HG := Lib.hid hg
  have HN := Lib.hid (Blk.new w TS (sec Sec.zero))
  have hz := zero_sec
  clear he ha h h' hi hg
  go_enter Try.func15, Try.ntmps15
  go_wp2_with fail
  refine HA.out.mono ?_
  rintro e w1 ⟨rfl, rfl⟩
  clear hz
  go_wp2_with fail
  refine HB.out.mono ?_
  rintro e w1 ⟨rfl, g1⟩
  have HN1 := Lib.hid (HN.out.gr g1)
  have HG1 := Lib.hid (Gr.trans HG.out g1)
  have HS : Hid (w.heap.size ≤ w1.heap.size) := Lib.hid HG1.out.size
  clear g1 HG HN
  go_wp2_with (refine wpList_store_sec rfl _ _ rfl HN1.out rfl rfl ?_)
  exact bodyPost_ret (results_sec2 rfl _ _ _ _ rfl (HN1.out.row _)) rfl ⟨rfl, below_setRow HG1.out (Nat.le_refl _) _⟩

set_option maxRecDepth 100000 in
set_option maxHeartbeats 1000000 in
theorem Read_no {F : Nat → Prop} {p : Value} {s : St} (w : World) (h : Dk w F p s) (i : Int) (hi : i < 0 ∨ (s.ls.length : Int) ≤ i) : Calls Try.prog 15 #[p, .int .i64 i] w fun e w' => RetRead w w' e Sec.zero 2 := by
  obtain ⟨b, lv, m, L, rfl, h⟩ := h
  have hg : Gr w (w.alloc (.cells (sec Sec.zero) TS)) := (Gr.refl w).alloc (Nat.le_refl _) _
  have ha := asked_any _ (h.gr hg) i
  have he : askE s.ls.length i = 2 := by unfold askE; rw [if_pos hi]
  rw [he] at ha
  have HA := Lib.hid ha
  have HG := Lib.hid hg
  have HN := Lib.hid (Blk.new w TS (sec Sec.zero))
  have hz := zero_sec
  clear he ha h hi hg
  go_enter Try.func15, Try.ntmps15
  go_wp2_with fail
  refine HA.out.mono ?_
  rintro e w1 ⟨rfl, rfl⟩
  clear hz
  go_wp2_with (first | (refine wpList_build_zero rfl rfl ?_) | (refine wpList_store_sec rfl _ _ rfl HN.out rfl rfl ?_))
  exact bodyPost_ret (results_sec2 rfl _ _ _ _ rfl (HN.out.row _)) rfl ⟨rfl, below_setRow HG.out (Nat.le_refl _) _⟩

set_option maxRecDepth 100000 in
theorem asked_gone (a : Option Addr) (w : World) (h : Gone w (.pointer a)) (i : Int) : Calls Try.prog 36 #[.pointer a, .int .i64 i] w fun e w' => e = .returned (.int .i64 1) ∧ w = w' := by
  have HM := Lib.hid (missing_yes a w h)
  clear h
  go_enter Try.func36, Try.ntmps36
  go_wp2_with fail
  refine HM.out.mono ?_
  rintro e w' ⟨rfl, rfl⟩
  go_wp2
  go_ret
  exact ⟨rfl, rfl⟩
set_option maxRecDepth 100000 in
set_option maxHeartbeats 1000000 in
theorem Read_gone (p : Value) (w : World) (h : Gone w p) (i : Int) : Calls Try.prog 15 #[p, .int .i64 i] w fun e w' => RetRead w w' e Sec.zero 1 := by
  have hg : Gr w (w.alloc (.cells (sec Sec.zero) TS)) := (Gr.refl w).alloc (Nat.le_refl _) _
  obtain ⟨a, rfl⟩ := h.shape
  have HA := Lib.hid (asked_gone a _ (h.gr hg) i)
  have HG := Lib.hid hg
  have HN := Lib.hid (Blk.new w TS (sec Sec.zero))
  have hz := zero_sec
  clear h hg
  go_enter Try.func15, Try.ntmps15
  go_wp2_with fail
  refine HA.out.mono ?_
  rintro e w1 ⟨rfl, rfl⟩
  clear hz
  go_wp2_with (first | (refine wpList_build_zero rfl rfl ?_) | (refine wpList_store_sec rfl _ _ rfl HN.out rfl rfl ?_))
  exact bodyPost_ret (results_sec2 rfl _ _ _ _ rfl (HN.out.row _)) rfl ⟨rfl, below_setRow HG.out (Nat.le_refl _) _⟩

set_option maxRecDepth 100000 in
theorem Sectors_any {F : Nat → Prop} {p : Value} {s : St} (w : World) (h : Dk w F p s) : Calls Try.prog 26 #[p] w fun e w' => e = .returned (.int .i64 (s.ls.length : Int)) ∧ w = w' := by
  obtain ⟨b, lv, m, L, rfl, h⟩ := h
  have HM := Lib.hid (missing_no w h)
  obtain ⟨h0, h1, h2, h3, h4⟩ := h.cells
  obtain ⟨g, c, rfl⟩ := h.lv
  obtain ⟨N, hN⟩ : ∃ N, N = s.ls.length := ⟨_, rfl⟩
  rw [← hN] at h0 ⊢
  clear h hN h1 h2 h3 h4
  go_enter Try.func26, Try.ntmps26
  go_wp2_with fail
  refine HM.out.mono ?_
  rintro e w' ⟨rfl, rfl⟩
  go_wp2
  go_ret
  exact ⟨rfl, rfl⟩
set_option maxRecDepth 100000 in
theorem Dead_any {F : Nat → Prop} {p : Value} {s : St} (w : World) (h : Dk w F p s) : Calls Try.prog 20 #[p] w fun e w' => e = .returned (.bool s.dead) ∧ w = w' := by
  obtain ⟨b, lv, m, L, rfl, h⟩ := h
  have HM := Lib.hid (missing_no w h)
  obtain ⟨h0, h1, h2, h3, h4⟩ := h.cells
  clear h h1 h2 h0 h4
  go_enter Try.func20, Try.ntmps20
  go_wp2_with fail
  refine HM.out.mono ?_
  rintro e w' ⟨rfl, rfl⟩
  go_wp2
  go_ret
  exact ⟨rfl, rfl⟩
set_option maxRecDepth 100000 in
theorem Writes_any {F : Nat → Prop} {p : Value} {s : St} (w : World) (h : Dk w F p s) : Calls Try.prog 27 #[p] w fun e w' => e = .returned (.int .i64 (s.writes : Int)) ∧ w = w' := by
  obtain ⟨b, lv, m, L, rfl, h⟩ := h
  have HM := Lib.hid (missing_no w h)
  obtain ⟨h0, h1, h2, h3, h4⟩ := h.cells
  clear h h1 h2 h0 h3
  go_enter Try.func27, Try.ntmps27
  go_wp2_with fail
  refine HM.out.mono ?_
  rintro e w' ⟨rfl, rfl⟩
  go_wp2
  go_ret
  exact ⟨rfl, rfl⟩

/-- One cell of the disk's own block is set. -/
theorem upd_cell {F : Nat → Prop} {w : World} {b i : Nat} (hb : F b) (v : Value) : Upd F F w (w.setCell ⟨b, i, none⟩ v) :=
  ⟨rfl, rfl, rfl, by simp [World.setCell], fun k _ hk => Below.heap_setCell w _ v k (fun e => hk (by rw [e]; exact hb)), fun k hk => .inl hk⟩
theorem Upd.trans {F F1 F2 : Nat → Prop} {w w1 w2 : World} (h : Upd F F1 w w1) (k : Upd F1 F2 w1 w2) : Upd F F2 w w2 :=
  ⟨k.os.trans h.os, k.tape.trans h.tape, k.output.trans h.output, Nat.le_trans h.size k.size, fun j hj hf => by
    rw [k.block j (by have := h.size; omega) (fun h1 => by
      rcases h.fresh j h1 with h2 | h2
      · exact hf h2
      · omega), h.block j hj hf], fun j hj => by
    rcases k.fresh j hj with h1 | h1
    · exact h.fresh j h1
    · exact .inr (by have := h.size; omega)⟩
/-- The disk's own block is set anew; the rest is as it was. -/
theorem DkAt.block {w w' : World} {F : Nat → Prop} {b : Nat} {lv : Value} {m : Nat} {L : Nat → Value} {s s' : St} (h : DkAt w F b lv m L s) (ok : s'.Ok) (hls : s'.ls = s.ls) (ht : s'.t = s.t) (hw : s.writes ≤ s'.writes)
    (hb : Blk w' b TD #[lv, .map (some m), .int .i64 s'.fuse, .bool s'.dead, .int .i64 (s'.writes : Int)]) (e : ∀ k, F k → k ≠ b → w'.heap[k]? = w.heap[k]?) (hs : w.heap.size ≤ w'.heap.size) : DkAt w' F b lv m L s' := by
  have hkind : ∀ {g : Nat} {cs : Array Value}, w.heap[g]? = some (.cells cs TS (0, 0)) → g ≠ b := fun {g cs} hg e => by
    subst e
    have h1 := h.blk
    unfold Blk at h1
    rw [hg] at h1
    simp only [Option.some.injEq, Obj.cells.injEq] at h1
    exact absurd h1.2.1 (by decide)
  have hm : m ≠ b := fun e => by
    subst e
    obtain ⟨D, n, ⟨es, c, h1, _⟩, _⟩ := h.map
    have h2 := h.blk
    unfold Blk at h2
    rw [h1] at h2
    cases h2
  have e1 : Row w' lv s.ls := h.ls.stays fun g hg => by
    obtain ⟨cs, hk⟩ := h.ls.kind hg
    exact e g (h.ownL g hg) (hkind hk)
  have e2 : ∀ i, Row w' (L i) (s.t i) := fun i => (h.rows i).stays fun g hg => by
    obtain ⟨cs, hk⟩ := (h.rows i).kind hg
    exact e g (h.ownR i g hg) (hkind hk)
  refine ⟨ok, hb, by rw [hls]; exact e1, ?_, fun i => by rw [ht]; exact e2 i, h.apart, h.apart0, h.ownB, h.ownM, h.ownL, h.ownR, fun k hk => Nat.lt_of_lt_of_le (h.low k hk) hs⟩
  rw [hls, ht]
  obtain ⟨D, n, ho, hn, r⟩ := h.map.stays (e m h.ownM hm)
  exact ⟨D, n, ho, by omega, r⟩

set_option maxRecDepth 100000 in
theorem Fuse_any {F : Nat → Prop} {p : Value} {s : St} (w : World) (h : Dk w F p s) (n : Int) (h1 : -9223372036854775808 ≤ n) (h2 : n ≤ 9223372036854775807) : Calls Try.prog 19 #[p, .int .i64 n] w fun e w' => e = .returned (.tuple #[]) ∧ Dk w' F p { s with fuse := n } ∧ Upd F F w w' := by
  obtain ⟨b, lv, m, L, rfl, h⟩ := h
  have HM := Lib.hid (missing_no w h)
  have HU := Lib.hid (upd_cell (w := w) (i := 2) h.ownB (.int .i64 n))
  have hc := h.blk.cell 2
  have hf := h.blk.frozen 2
  have HB := Lib.hid (h.blk.set 2 (.int .i64 n))
  have HD : Hid (DkAt (w.setCell ⟨b, 2, none⟩ (.int .i64 n)) F b lv m L { s with fuse := n }) := Lib.hid (h.block (s' := { s with fuse := n }) ⟨h.ok.pos, h.ok.most, h.ok.out, h.ok.less, h1, h2⟩ rfl rfl (Nat.le_refl _) (by simpa using HB.out) (fun k _ hk => Below.heap_setCell w _ _ k hk) HU.out.size)
  simp at hc
  clear h HB h1 h2
  go_enter Try.func19, Try.ntmps19
  go_wp2_with fail
  refine HM.out.mono ?_
  rintro e w' ⟨rfl, rfl⟩
  go_wp2
  go_end0
  exact ⟨rfl, ⟨_, _, _, _, rfl, HD.out⟩, HU.out⟩

end Go.Proofs.Ytkoalabacfjgbaa
