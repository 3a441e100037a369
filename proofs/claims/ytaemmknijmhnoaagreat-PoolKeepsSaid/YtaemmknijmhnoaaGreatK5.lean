/-
  Texts, put together: SecOps Disk5.
-/
import Derived.Great.BuildSlice
import Derived.Maps.AppendAt
import Derived.Test.YtaemmknijmhnoaaGreatK4
set_option linter.unusedVariables false
set_option linter.unusedSimpArgs false
/-
  Sectors: the operations that load one, build a list of them, put one behind a row, look into the map, and store into it.
-/
namespace Go.Proofs.YtaemmknijmhnoaaGreat
open Go.RowKit Go.Maps

theorem set_all (off : Nat) : ∀ (l : List Value) (k : Nat) (cs : Array Value), off + k + l.length ≤ cs.size →
    ((l.zipIdx k).foldl (fun cs (p : Value × Nat) => cs.setIfInBounds (off + p.2) p.1) cs) = (cs.toList.take (off + k) ++ l ++ cs.toList.drop (off + k + l.length)).toArray
  | [], k, cs, _ => by simp
  | v :: r, k, cs, h => by
    have hl : off + k < cs.size := by simp at h; omega
    rw [List.zipIdx_cons, List.foldl_cons, set_all off r (k + 1) _ (by simp at h ⊢; omega)]
    apply congrArg List.toArray
    have e1 : (cs.setIfInBounds (off + k) v).toList = cs.toList.set (off + k) v := by simp
    show List.take (off + (k + 1)) (cs.setIfInBounds (off + k) v).toList ++ r ++ _ = _
    rw [e1, List.set_eq_take_append_cons_drop, if_pos (by simpa using hl)]
    have ht : (cs.toList.take (off + k)).length = off + k := by simp; omega
    generalize cs.toList.take (off + k) = A at ht ⊢
    have h2 : List.take (off + (k + 1)) (A ++ v :: List.drop (off + k + 1) cs.toList) = A ++ [v] := by
      rw [List.take_append, ht, List.take_of_length_le (by omega), show off + (k + 1) - (off + k) = 1 by omega]; rfl
    have h3 : List.drop (off + (k + 1) + r.length) (A ++ v :: List.drop (off + k + 1) cs.toList) = List.drop (off + k + (v :: r).length) cs.toList := by
      rw [List.drop_append, ht, List.drop_of_length_le (by omega), List.nil_append, show off + (k + 1) + r.length - (off + k) = r.length + 1 by omega, List.drop_succ_cons, List.drop_drop]
      congr 1
      simp; omega
    rw [h2, h3]
    simp

/-- The parts of a literal list of arrays. -/
def partsL : Nat → List (List Value) → List (Nat × Value)
  | _, [] => []
  | k, l :: r => (k, .agg l.toArray) :: partsL (k + 1) r
theorem fill_many (K : Nat) : ∀ (ls : List (List Value)) (k : Nat) (cs : Array Value), (∀ l ∈ ls, l.length = K) → (k + ls.length) * K ≤ cs.size →
    Instr.fill (fun i => some (i * K, K)) cs (partsL k ls) = some ((cs.toList.take (k * K) ++ ls.flatten ++ cs.toList.drop ((k + ls.length) * K)).toArray)
  | [], k, cs, _, _ => by
    rw [List.flatten_nil, List.append_nil, List.length_nil, Nat.add_zero, List.take_append_drop]
    rfl
  | l :: r, k, cs, hl, h => by
    have hll : l.length = K := hl l (by simp)
    have h2 : (k + 1 + r.length) * K ≤ cs.size := by rw [List.length_cons] at h; rwa [show k + 1 + r.length = k + (r.length + 1) by omega]
    have hk : k * K + K ≤ cs.size := by
      have := Nat.mul_le_mul_right K (show k + 1 ≤ k + 1 + r.length by omega)
      rw [Nat.add_mul k 1 K, Nat.one_mul] at this
      omega
    have e1 : (l.toArray.zipIdx.foldl (fun cs (p : Value × Nat) => cs.setIfInBounds (k * K + p.2) p.1) cs) = (cs.toList.take (k * K) ++ l ++ cs.toList.drop (k * K + K)).toArray := by
      have := set_all (k * K) l 0 cs (by rw [hll]; exact hk)
      rw [hll, Nat.add_zero] at this
      rw [← this, ← Array.foldl_toList, Array.toList_zipIdx]
    have hsz : (cs.toList.take (k * K) ++ l ++ cs.toList.drop (k * K + K)).toArray.size = cs.size := by
      simp only [List.size_toArray, List.length_append, List.length_take, List.length_drop, hll, Array.length_toList]
      omega
    show Instr.fill _ cs ((k, .agg l.toArray) :: partsL (k + 1) r) = _
    unfold Instr.fill
    have e0 : (Value.agg l.toArray).cells = l.toArray := rfl
    simp only [e0, List.size_toArray, hll]
    rw [if_neg (by simp; omega)]
    show Instr.fill _ (l.toArray.zipIdx.foldl (fun cs (p : Value × Nat) => cs.setIfInBounds (k * K + p.2) p.1) cs) (partsL (k + 1) r) = _
    rw [e1, fill_many K r (k + 1) _ (fun x hx => hl x (by simp [hx])) (by rw [hsz]; exact h2)]
    congr 1
    apply congrArg List.toArray
    have hA : (cs.toList.take (k * K)).length = k * K := by simp; omega
    have hA2 : (cs.toList.take (k * K) ++ l).length = (k + 1) * K := by rw [List.length_append, hA, hll, Nat.add_mul, Nat.one_mul]
    show List.take ((k + 1) * K) (cs.toList.take (k * K) ++ l ++ cs.toList.drop (k * K + K)) ++ r.flatten ++ List.drop ((k + 1 + r.length) * K) (cs.toList.take (k * K) ++ l ++ cs.toList.drop (k * K + K)) = _
    rw [List.take_append_of_le_length (by rw [hA2]; omega), List.take_of_length_le (by rw [hA2]; omega), List.drop_append, hA2, List.drop_of_length_le (by rw [hA2]; exact Nat.mul_le_mul_right K (by omega)), List.nil_append, List.drop_drop, List.flatten_cons, List.length_cons]
    rw [List.append_assoc, List.append_assoc, List.append_assoc, List.append_assoc]
    congr 4
    have h5 : (k + 1) * K ≤ (k + 1 + r.length) * K := Nat.mul_le_mul_right K (by omega)
    have e5 : (k + (r.length + 1)) * K = (k + 1 + r.length) * K := by rw [show k + (r.length + 1) = k + 1 + r.length by omega]
    rw [e5]
    have e6 : (k + 1) * K = k * K + K := by rw [Nat.add_mul, Nat.one_mul]
    omega

def partsOf (k : Nat) (ss : List Sec) : List (Nat × Value) := partsL k (ss.map Sec.cells)
theorem cellsOf_flat (ss : List Sec) : (ss.map Sec.cells).flatten = cellsOf ss := by unfold cellsOf; rw [List.flatMap_def]
theorem fill_secs (ss : List Sec) (cs : Array Value) (h : ss.length * 256 = cs.size) : Instr.fill (fun i => some (i * 256, 256)) cs (partsOf 0 ss) = some (cellsOf ss).toArray := by
  have hf := fill_many 256 (ss.map Sec.cells) 0 cs (fun l hl => by obtain ⟨s, _, rfl⟩ := List.mem_map.1 hl; exact s.cells_len) (by rw [List.length_map, Nat.zero_add, h]; exact Nat.le_refl _)
  unfold partsOf
  rw [hf, cellsOf_flat, List.length_map, Nat.zero_mul, List.take_zero, List.nil_append, Nat.zero_add, List.drop_of_length_le (by rw [Array.length_toList, h]; exact Nat.le_refl _), List.append_nil]

/-- A literal list of sectors is built. -/
theorem run_buildSecs (w : World) (ss : List Sec) (parts : Array (Nat × Value)) (n : Nat) (hn : n = ss.length) (h0 : 0 < n) (h1 : n ≤ 1000) (hp : parts.toList = partsOf 0 ss) :
    (Instr.buildSlice TL n parts).run Tryz.prog w = .ok (.slice (some ⟨w.heap.size, 0, none⟩) n n) (w.alloc (.cells (cellsOf ss).toArray TS)) := by
  obtain ⟨i, hi, hz, hs, _⟩ := info_parts info_sec
  have hsz : i.size = 256 := hs
  have hf := fill_secs ss ((Array.range (n * 256)).map ((Value.agg (sec Sec.zero)).cells[· % (Value.agg (sec Sec.zero)).cells.size]!)) (by rw [Array.size_map, Array.size_range, hn])
  refine run_buildSlice w TL TS n parts _ i (.agg (sec Sec.zero)) Tryz.underlying50 hi hz ?_ ?_ ?_
  · rw [hsz]; omega
  · rw [hsz]; omega
  · rw [hsz, hp, hf]

theorem wp_buildSecs {o : Oper} {a : Act} {w : World} {K : Act → World → Prop} {Q : Exit → Act → World → Prop} (n : Nat) (parts : Array (Nat × Operand)) (ho : o.op = .buildSlice TL n parts) (ss : List Sec) (hn : n = ss.length) (h0 : 0 < n) (h1 : n ≤ 1000)
    (hp : (parts.map fun (i, x) => (i, a.eval x)).toList = partsOf 0 ss) (h : K (a.put o.dst (.slice (some ⟨w.heap.size, 0, none⟩) n n)) (w.alloc (.cells (cellsOf ss).toArray TS))) : o.wp Tryz.prog a w K Q := by
  unfold Oper.wp execOp
  simp only [ho, Sem.run_bind, run_buildSecs w ss _ n hn h0 h1 hp, Result.andThen_ok]
  exact h
theorem Row.lit (w : World) (ss : List Sec) (n : Nat) (hn : n = ss.length) (h1 : n ≤ 1000) : Row (w.alloc (.cells (cellsOf ss).toArray TS)) (.slice (some ⟨w.heap.size, 0, none⟩) n n) ss := by
  subst hn
  refine ⟨cellsOf_len ss, .inr ⟨_, _, _, rfl, Nat.zero_le _, heap_alloc_new w _, Nat.le_refl _, by unfold maxLen; omega, by rw [List.size_toArray, cellsOf_len], ?_⟩⟩
  rw [← cellsOf_len]
  exact List.take_length

/-- One sector behind a row of one's own. -/
theorem app_sec {w : World} {v : Value} {ss ts : List Sec} {o : Oper} {a : Act} {K : Act → World → Prop} {Q : Exit → Act → World → Prop} (s x : Operand) (ho : o.op = .call { callee := .builtin .append, args := #[s, x], argTypes := #[TL, TL] })
    (hs : a.eval s = v) (hr : Row w v ss) {q m c : Nat} (hx : a.eval x = .slice (some ⟨q, 0, none⟩) m c) (hy : Row w (.slice (some ⟨q, 0, none⟩) m c) ts) (hm : m = ts.length) (hl : ss.length + m ≤ 500000000000)
    (h : ∀ v' w', Row w' v' (ss ++ ts) → w.grownBy w' v.ownBlock → (v'.ownBlock = v.ownBlock ∨ v'.ownBlock = some w.heap.size) → K (a.put o.dst v') w') : o.wp Tryz.prog a w K Q := by
  obtain ⟨i, hi, hz, hsz, hb⟩ := info_parts info_sec
  have hnews : ∀ j u, (cellsOf ts)[j]? = some u → w.cell? ((⟨q, 0, none⟩ : Addr).add j) = some u := by
    intro j u hj
    have hlt : j < ts.length * 256 := by rw [← cellsOf_len]; exact (List.getElem?_eq_some_iff.1 hj).1
    have hq : j / 256 < ts.length := by omega
    have e : j / 256 * 256 + j % 256 = j := Nat.div_add_mod' j 256
    have hl := hy.lies (j / 256) hq (j % 256) u (by rw [← cellsOf_at ts (j / 256) hq (j % 256) (Nat.mod_lt _ (by omega)), e, hj])
    rw [Addr.add_mid, Nat.zero_add]
    rwa [e] at hl
  obtain ⟨v', w', hrun, h1, h2, _, h3⟩ := run_append_own_at (P := Tryz.prog) w 0 TL o.type TS i (.agg (sec Sec.zero)) 256 256 Tryz.underlying50 hi hz hsz hb (sec_size _) (by omega) v ss.length (cellsOf ss) hr ⟨q, 0, none⟩ m c (cellsOf ts) (by rw [cellsOf_len, hm]) hnews (cellsOf_each ts) (by unfold maxLen; omega) (by omega) (Nat.zero_le _)
  unfold Oper.wp execOp
  simp only [ho, resolve, invoke, builtin, Sem.run_bind, Sem.run_pure, Result.andThen_ok, List.map_toArray, List.map_cons, List.map_nil, hs, hx, hrun]
  refine h v' w' ?_ h2 h3
  unfold Row
  rw [cellsOf_app, List.length_append, ← hm]
  exact h1

/-- A store into the map of what lies loose. -/
theorem upd_loose {w : World} {b n : Nat} {D : DataW Value} {o : Oper} {a : Act} {K : Act → World → Prop} {Q : Exit → Act → World → Prop} (m x v : Operand) (ho : o.op = .mapUpdate TM m x v) (hm : a.eval m = .map (some b)) (i : Nat) (hi : i < 65536) (hx : a.eval x = .int .i64 (i : Int)) (u : Value) (hv : a.eval v = u)
    (hown : w.ownsMap Tryz.prog TI eltR b n D) (hn : n < maxLen)
    (h : ∀ w', w'.ownsMap Tryz.prog TI eltR b (n + 1) (D.put (key i) (.held u)) → w.grownBy w' (some b) → K (a.put o.dst undef) w') : o.wp Tryz.prog a w K Q := by
  obtain ⟨w', hrun, r1, r2⟩ := hown.update (t := TM) (e := TL) (int_keyed Tryz.underlying3) Tryz.underlying110 hn (key := .int .i64 (i : Int)) (val := u) (kl := key i) (d := .held u) (ps := []) (keyOf_int_mk Tryz.underlying3 (WalkArith.wf_i64 (by omega))) rfl
  unfold Oper.wp
  simp [execOp, ho, hm, hx, hv, hrun, Result.andThen]
  exact h _ r1 r2

end Go.Proofs.YtaemmknijmhnoaaGreat

namespace Go.Proofs.YtaemmknijmhnoaaGreat
open Go.RowKit Go.Maps

theorem wp_load_sec {op : Oper} {a : Act} {w : World} {K : Act → World → Prop} {Q : Exit → Act → World → Prop} (x : Operand) (ho : op.op = .load TS x) {b o : Nat} {s : Sec} (hc : w.rangeAt b o s.cells) (hx : a.eval x = .pointer (some ⟨b, o, none⟩))
    (h : K (a.put op.dst (.agg (sec s))) w) : op.wp Tryz.prog a w K Q :=
  wp_load_mid TS x ho b o hx s.cells _ hc under_sec rfl (by rw [s.cells_len]; exact size_sec) h
theorem Gr.new (w : World) (o : Obj) : Gr w (w.alloc o) := (Gr.refl w).alloc (Nat.le_refl _) o

/-- Blocks of a disk that are not one. -/
theorem DkAt.neM {w : World} {F : Nat → Prop} {b : Nat} {lv : Value} {m : Nat} {L : Nat → Value} {s : St} (h : DkAt w F b lv m L s) : b ≠ m := fun e => by
  subst e
  obtain ⟨D, n, ⟨es, c, h1, _⟩, _⟩ := h.map
  have h2 := h.blk
  unfold Blk at h2
  rw [h1] at h2
  cases h2
theorem row_ne {w : World} {g b m : Nat} {v : Value} {ss : List Sec} {cs : Array Value} {n : Nat} {D : DataW Value} (h : Row w v ss) (hg : v.ownBlock = some g) (hb : Blk w b TD cs) (hm : w.ownsMap Tryz.prog TI eltR m n D) : g ≠ b ∧ g ≠ m := by
  obtain ⟨cur, hk⟩ := h.kind hg
  constructor
  · intro e
    subst e
    unfold Blk at hb
    rw [hk] at hb
    simp only [Option.some.injEq, Obj.cells.injEq] at hb
    exact absurd hb.2.1 (by decide)
  · intro e
    subst e
    obtain ⟨es, c, h1, _⟩ := hm
    rw [hk] at h1
    cases h1

/-- How the world grows in the region that writes. -/
def Gw (u : Value) (i : Nat) (w w' : World) : Prop := cond (i == 13) (w.grownBy w' u.ownBlock) (cond (i == 14) True (Gr w w'))
/-- What the region's slots hold. -/
def Sw (W0 : World) (b m i bx : Nat) (x : Sec) (u : Value) (ss : List Sec) (d : Nat) (v : Value) (w : World) : Prop :=
  match d with
  | 38 | 39 | 43 | 44 => v = .pointer (some ⟨b, 0, none⟩)
  | 40 | 45 => v = .pointer (some ⟨b, 1, none⟩)
  | 41 | 46 => v = .map (some m)
  | 42 | 47 => v = .int .i64 (i : Int)
  | 48 => v = u ∧ Row w u ss
  | 49 => v = .agg (sec x)
  | 50 => ∃ q, v = .slice (some ⟨q, 0, none⟩) 1 1 ∧ Row w (.slice (some ⟨q, 0, none⟩) 1 1) [x]
  | 51 => Row w v (ss ++ [x]) ∧ (v.ownBlock = u.ownBlock ∨ ∃ g, v.ownBlock = some g ∧ W0.heap.size ≤ g)
  | _ => True
theorem Sw.kept {W0 : World} {b m i bx : Nat} {x : Sec} {u : Value} {ss : List Sec} (d : Nat) (v : Value) (w w' : World) (h : Sw W0 b m i bx x u ss d v w) (g : Gr w w') : Sw W0 b m i bx x u ss d v w' := by
  unfold Sw at h ⊢
  split <;> simp only at h
  all_goals first
    | exact h
    | exact ⟨h.1, Row.gr h.2 g⟩
    | exact (let ⟨q, h1, h2⟩ := h; ⟨q, h1, Row.gr h2 g⟩)
    | exact ⟨Row.gr h.1 g, h.2⟩
theorem Sw.any {W0 : World} {b m i bx : Nat} {x : Sec} {u : Value} {ss : List Sec} (d : Nat) (hd : d ∈ [38, 39, 40, 41, 42]) (v : Value) (w w' : World) (h : Sw W0 b m i bx x u ss d v w) : Sw W0 b m i bx x u ss d v w' := by
  simp only [List.mem_cons, List.not_mem_nil, or_false] at hd
  rcases hd with rfl | rfl | rfl | rfl | rfl <;> exact h

/-- What lies loose behind a write. -/
def Fw (W0 : World) (m i : Nat) (x : Sec) (u : Value) (ss : List Sec) (n : Nat) (D : DataW Value) (w : World) : Prop :=
  ∃ v w1, Row w1 v (ss ++ [x]) ∧ W0.grownBy w1 u.ownBlock ∧ (v.ownBlock = u.ownBlock ∨ ∃ g, v.ownBlock = some g ∧ W0.heap.size ≤ g) ∧ w.ownsMap Tryz.prog TI eltR m (n + 1) (D.put (key i) (.held v)) ∧ w1.grownBy w (some m)

theorem key_lit (i : Nat) : WideAt.IsKeyLit (key i) := True.intro
theorem key_inj {i j : Nat} (h : key i = key j) : i = j := by
  unfold key at h
  simp only [Lit.int.injEq, true_and] at h
  omega

set_option maxHeartbeats 1000000 in
/-- The disk behind a write. -/
theorem DkAt.wrote {w0 w : World} {F : Nat → Prop} {b : Nat} {lv : Value} {m : Nat} {L : Nat → Value} {s : St} (h : DkAt w0 F b lv m L s) (i : Nat) (hi : i < s.ls.length) (x : Sec) {n : Nat} {D : DataW Value} (ho : w0.ownsMap Tryz.prog TI eltR m n D) (hn : n ≤ 65536 + s.writes)
    (hat : ∀ i, i < s.ls.length → D.atKey (key i) (.held nilS) = .held (L i)) (hhas : ∀ i, i < s.ls.length → (has D (key i) = true ↔ s.t i ≠ [])) (hkeys : ∀ k, has D k = true → ∃ i, i < s.ls.length ∧ k = key i) (hf : Fw w0 m i x (L i) (s.t i) n D w) :
    ∃ F' L', DkAt (w.setCell ⟨b, 4, none⟩ (.int .i64 ((s.writes + 1 : Nat) : Int))) F' b lv m L' { s with t := fun j => if j = i then s.t i ++ [x] else s.t j, writes := s.writes + 1 } ∧ Upd F F' w0 (w.setCell ⟨b, 4, none⟩ (.int .i64 ((s.writes + 1 : Nat) : Int))) ∧
      w.cell? ⟨b, 4, none⟩ = some (.int .i64 (s.writes : Int)) ∧ w.frozen? ⟨b, 4, none⟩ = false := by
  obtain ⟨v, w1, r1, g1, l1, ho2, g2⟩ := hf
  have hbm := h.neM
  have hmL := h.low m h.ownM
  have hbL := h.low b h.ownB
  -- blocks that are no row of i stay
  have e1 : ∀ k, F k → (L i).ownBlock ≠ some k → w1.heap[k]? = w0.heap[k]? := fun k hk hne => g1.block k (h.low k hk) (fun e => hne e.symm)
  have e2 : ∀ k, F k → (L i).ownBlock ≠ some k → k ≠ m → w.heap[k]? = w0.heap[k]? := fun k hk hne hm => (g2.block k (Nat.lt_of_lt_of_le (h.low k hk) g1.size) (fun e => hm (by cases e; rfl))).trans (e1 k hk hne)
  have hbi : (L i).ownBlock ≠ some b := fun e => (row_ne (h.rows i) e h.blk ho).1 rfl
  have hmi : (L i).ownBlock ≠ some m := fun e => (row_ne (h.rows i) e h.blk ho).2 rfl
  have hblk : Blk w b TD #[lv, .map (some m), .int .i64 s.fuse, .bool s.dead, .int .i64 (s.writes : Int)] := h.blk.stays (e2 b h.ownB hbi hbm)
  have hvm : ∀ g, v.ownBlock = some g → g ≠ m ∧ g ≠ b := fun g hg => by
    have hb1 : Blk w1 b TD #[lv, .map (some m), .int .i64 s.fuse, .bool s.dead, .int .i64 (s.writes : Int)] := h.blk.stays (e1 b h.ownB hbi)
    have := row_ne r1 hg hb1 (ownsMap_stays ho (e1 m h.ownM hmi))
    exact ⟨this.2, this.1⟩
  have hrow : Row w v (s.t i ++ [x]) := r1.stays fun g hg => g2.block g (r1.lt g hg) (fun e => (hvm g hg).1 (by cases e; rfl))
  have hsz : w0.heap.size ≤ w.heap.size := Nat.le_trans g1.size g2.size
  have hset : ∀ k, k ≠ b → (w.setCell ⟨b, 4, none⟩ (.int .i64 ((s.writes + 1 : Nat) : Int))).heap[k]? = w.heap[k]? := fun k hk => Below.heap_setCell w _ _ k hk
  have hss : (w.setCell ⟨b, 4, none⟩ (.int .i64 ((s.writes + 1 : Nat) : Int))).heap.size = w.heap.size := by simp [World.setCell]
  have hlvne : ∀ g, lv.ownBlock = some g → (L i).ownBlock ≠ some g := fun g hg e => h.apart0 i g e hg
  have hlvb : ∀ g, lv.ownBlock = some g → g ≠ b ∧ g ≠ m := fun g hg => row_ne h.ls hg h.blk ho
  have hnew : ∀ g, v.ownBlock = some g → ¬ (∃ j, j ≠ i ∧ (L j).ownBlock = some g) ∧ lv.ownBlock ≠ some g := fun g hg => by
    rcases l1 with e | ⟨g', e, hge⟩
    · rw [hg] at e
      exact ⟨fun ⟨j, hj, e2⟩ => hj (h.apart j i g e2 e.symm), fun e2 => h.apart0 i g e.symm e2⟩
    · rw [hg] at e
      cases e
      refine ⟨fun ⟨j, hj, e2⟩ => ?_, fun e2 => ?_⟩
      · have := (h.rows j).lt _ e2; omega
      · have := h.ls.lt _ e2; omega
  refine ⟨fun k => F k ∨ v.ownBlock = some k, fun j => if j = i then v else L j, ⟨?_, ?_, ?_, ?_, ?_, ?_, ?_, .inl h.ownB, .inl h.ownM, fun g hg => .inl (h.ownL g hg), ?_, ?_⟩, ?_, ?_, ?_⟩
  · refine ⟨h.ok.pos, h.ok.most, fun j hj => ?_, fun j => ?_, h.ok.lo, h.ok.hi⟩
    · show (if j = i then _ else _) = _
      rw [if_neg (by have : s.ls.length ≤ j := hj; omega)]
      exact h.ok.out j hj
    · show (if j = i then _ else _ : List Sec).length ≤ s.writes + 1
      have := h.ok.less j
      have := h.ok.less i
      split
      · simp; omega
      · omega
  · have := hblk.set 4 (.int .i64 ((s.writes + 1 : Nat) : Int))
    simpa using this
  · exact h.ls.stays fun g hg => (hset g (hlvb g hg).1).trans (e2 g (h.ownL g hg) (hlvne g hg) (hlvb g hg).2)
  · refine ⟨D.put (key i) (.held v), n + 1, ownsMap_stays ho2 (hset m (fun e => hbm e.symm)), by show n + 1 ≤ 65536 + (s.writes + 1); omega, fun j hj => ?_, fun j hj => ?_, fun k hk => ?_⟩
    · by_cases hji : j = i
      · subst hji
        show _ = DataW.held (if j = j then v else L j)
        rw [if_pos rfl]
        exact atKey_put_same ho.isMap (key_lit j) _ _
      · show _ = DataW.held (if j = i then v else L j)
        rw [if_neg hji, atKey_put_other (fun e => hji (key_inj e))]
        exact hat j hj
    · by_cases hji : j = i
      · subst hji
        refine ⟨fun _ => ?_, fun _ => has_put_same ho.isMap (key_lit j) _⟩
        simp
      · rw [has_put_other (fun e => hji (key_inj e))]
        simp only [if_neg hji]
        exact hhas j hj
    · by_cases hki : k = key i
      · exact ⟨i, hi, hki⟩
      · rw [has_put_other hki] at hk
        exact hkeys k hk
  · intro j
    by_cases hji : j = i
    · subst hji
      simp only [if_pos]
      exact hrow.stays fun g hg => hset g (hvm g hg).2
    · simp only [if_neg hji]
      refine (h.rows j).stays fun g hg => ?_
      have := row_ne (h.rows j) hg h.blk ho
      exact (hset g this.1).trans (e2 g (h.ownR j g hg) (fun e => hji (h.apart j i g hg e)) this.2)
  · intro j k g hj hk
    by_cases hji : j = i <;> by_cases hki : k = i
    · rw [hji, hki]
    · simp only [if_pos hji, if_neg hki] at hj hk
      exact absurd ⟨k, hki, hk⟩ (hnew g hj).1
    · simp only [if_neg hji, if_pos hki] at hj hk
      exact absurd ⟨j, hji, hj⟩ (hnew g hk).1
    · simp only [if_neg hji, if_neg hki] at hj hk
      exact h.apart j k g hj hk
  · intro j g hj
    by_cases hji : j = i
    · simp only [if_pos hji] at hj
      exact (hnew g hj).2
    · simp only [if_neg hji] at hj
      exact h.apart0 j g hj
  · intro j g hj
    by_cases hji : j = i
    · simp only [if_pos hji] at hj
      exact .inr hj
    · simp only [if_neg hji] at hj
      exact .inl (h.ownR j g hj)
  · rintro k (hk | hk)
    · rw [hss]; exact Nat.lt_of_lt_of_le (h.low k hk) hsz
    · rw [hss]; exact hrow.lt k hk
  · refine ⟨g2.os.trans g1.os, g2.tape.trans g1.tape, g2.output.trans g1.output, by rw [hss]; exact hsz, fun k hk hF => ?_, fun k hk => ?_⟩
    · have hkb : k ≠ b := fun e => hF (by rw [e]; exact h.ownB)
      have hkm : k ≠ m := fun e => hF (by rw [e]; exact h.ownM)
      have hki : (L i).ownBlock ≠ some k := fun e => hF (h.ownR i k e)
      exact (hset k hkb).trans ((g2.block k (Nat.lt_of_lt_of_le hk g1.size) (fun e => hkm (by cases e; rfl))).trans (g1.block k hk (fun e => hki e.symm)))
    · rcases hk with hk | hk
      · exact .inl hk
      · rcases l1 with e | ⟨g', e, hge⟩
        · exact .inl (h.ownR i k (e ▸ hk))
        · rw [hk] at e; cases e; exact .inr hge
  · exact hblk.cell 4
  · exact hblk.frozen 4

/-- An answer; the disk has become s, by its own blocks and new ones. -/
def Chg (F : Nat → Prop) (p : Value) (s : St) (v : Value) (w : World) (e : Ending) (w' : World) : Prop := ∃ F', e = .returned v ∧ Dk w' F' p s ∧ Upd F F' w w'

/-- Behind the fuse's test. -/
def Mw (w wx : World) (F : Nat → Prop) (b : Nat) (lv : Value) (m : Nat) (L : Nat → Value) (s : St) (x : Sec) : Prop :=
  DkAt wx F b lv m L { s with fuse := if 0 < s.fuse then s.fuse - 1 else s.fuse } ∧ Blk wx w.heap.size TS (sec x) ∧ Upd F F w wx ∧ w.heap.size < wx.heap.size

/-- An answer; the disk's map is the one that it was. -/
def ChgM (F : Nat → Prop) (b : Nat) (lv : Value) (m : Nat) (s : St) (v : Value) (w : World) (e : Ending) (w' : World) : Prop := ∃ F' L', e = .returned v ∧ DkAt w' F' b lv m L' s ∧ Upd F F' w w'
set_option maxRecDepth 100000 in
set_option maxHeartbeats 4000000 in
theorem Write_yesM {F : Nat → Prop} {b : Nat} {lv : Value} {m : Nat} {L : Nat → Value} {s : St} (w : World) (h : DkAt w F b lv m L s) (i : Nat) (hi : i < s.ls.length) (x : Sec) (hr : ¬ s.refuses) (hw : s.writes ≤ 1000000000) : Calls Tryz.prog 77 #[.pointer (some ⟨b, 0, none⟩), .int .i64 (i : Int), .agg (sec x)] w fun e w' => ChgM F b lv m (s.wrote i x) (.int .i64 0) w e w' := by
  have hz : s.fuse ≠ 0 := fun e => hr (.inl e)
  have hd : s.dead = false := by
    cases hq : s.dead with
    | false => rfl
    | true => exact absurd (.inr hq) hr
  have hg : Gr w (w.alloc (.cells (sec x) TS)) := (Gr.refl w).alloc (Nat.le_refl _) _
  have h' := h.gr hg
  have ha := asked_any _ h' (i : Int)
  have he : askE s.ls.length (i : Int) = 0 := by unfold askE; rw [if_neg (by omega)]
  rw [he] at ha
  have HA := Lib.hid ha
  obtain ⟨h0, h1, h2, h3, h4⟩ := h'.cells
  have hf := h'.blk.frozen 2
  rw [hd] at h3
  have hz2 : (s.fuse == 0) = false := by simpa using hz
  have hlo := h.ok.lo
  have hhi := h.ok.hi
  have HX0 := Lib.hid (Blk.new w TS (sec x))
  have HLow : Hid (¬ F w.heap.size) := Lib.hid (fun e => by have := h.low _ e; omega)
  have HU0 := Lib.hid (Upd.of_gr (F := F) hg)
  have HD : Hid (DkAt (w.alloc (.cells (sec x) TS)) F b lv m L s) := Lib.hid h'
  have HWr : Hid (s.writes ≤ 1000000000) := Lib.hid hw
  have HIl : Hid (i < s.ls.length) := Lib.hid hi
  have HB := Lib.hid (h'.blk.set 2 (.int .i64 (s.fuse - 1)))
  have HD2 : Hid (0 < s.fuse → DkAt ((w.alloc (.cells (sec x) TS)).setCell ⟨b, 2, none⟩ (.int .i64 (s.fuse - 1))) F b lv m L { s with fuse := s.fuse - 1 }) := Lib.hid fun hp =>
    h'.block (s' := { s with fuse := s.fuse - 1 }) ⟨h.ok.pos, h.ok.most, h.ok.out, h.ok.less, by show -9223372036854775808 ≤ s.fuse - 1; omega, by show s.fuse - 1 ≤ 9223372036854775807; omega⟩ rfl rfl (Nat.le_refl _) (by simpa using HB.out) (fun k _ hk => Below.heap_setCell _ _ _ k hk) (by simp [World.setCell])
  have HU2 := Lib.hid (Upd.trans (Upd.of_gr (F := F) hg) (upd_cell (w := w.alloc (.cells (sec x) TS)) (i := 2) h.ownB (.int .i64 (s.fuse - 1))))
  have hnb : w.heap.size ≠ b := fun e => HLow.out (by rw [e]; exact h.ownB)
  have HX2 : Hid (Blk ((w.alloc (.cells (sec x) TS)).setCell ⟨b, 2, none⟩ (.int .i64 (s.fuse - 1))) w.heap.size TS (sec x)) := Lib.hid (HX0.out.far (by simpa using hnb) _)
  have HBx : Hid (w.heap.size < (w.alloc (.cells (sec x) TS)).heap.size) := Lib.hid (by simp)
  clear h h' ha he hi hr h0 h1 h4 hd hw HB hz hg hnb
  go_enter Tryz.func77, Tryz.ntmps77
  go_wp2_with fail
  refine HA.out.mono ?_
  rintro e w1 ⟨rfl, rfl⟩
  go_upto_if 30 with fail
  go_cut [31] (fun s31 wx => Mw w wx F b lv m L s x)
  case first =>
    by_cases hp : 0 < s.fuse
    · go_wp2
      go_meet
      exact ⟨by rw [if_pos hp]; exact HD2.out hp, HX2.out, HU2.out, by simp [World.setCell]⟩
    · go_wp2
      go_meet
      exact ⟨by rw [if_neg (by omega)]; exact HD.out, HX0.out, HU0.out, HBx.out⟩
  case rest =>
    obtain ⟨w0, hw0⟩ : ∃ w0, w0 = w := ⟨_, rfl⟩
    subst hw0
    clear HA HX0 HU0 HD HU2 HX2 HBx HD2 h2 h3 hf hz2 hlo hhi

    obtain ⟨hd, hx, hu, hlt⟩ := hcut
    obtain ⟨f', hff⟩ : ∃ f', f' = (if 0 < s.fuse then s.fuse - 1 else s.fuse) := ⟨_, rfl⟩
    have hfin : s.wrote i x = { ls := s.ls, t := (fun j => if j = i then s.t i ++ [x] else s.t j), fuse := f', dead := s.dead, writes := s.writes + 1 } := by unfold St.wrote; rw [hff]
    have HFin := Lib.hid hfin
    rw [← hff] at hd
    clear hfin hff
    have HDk := Lib.hid hd
    have HU := Lib.hid hu
    obtain ⟨D, n, ho, hn, hat, hhas, hkeys⟩ := hd.map
    have HMap := Lib.hid (And.intro ho (And.intro hn (And.intro hat (And.intro hhas hkeys))))
    obtain ⟨u, hu1⟩ : ∃ u, u = L i := ⟨_, rfl⟩
    obtain ⟨ss, hss⟩ : ∃ ss, ss = s.t i := ⟨_, rfl⟩
    have hrow : Row wc u ss := by rw [hu1, hss]; exact hd.rows i
    have hub : ∀ g, u.ownBlock = some g → g ≠ b ∧ g ≠ m := fun g hg => row_ne hrow hg hd.blk ho
    have hux : u.ownBlock ≠ some w0.heap.size := fun e => HLow.out (hd.ownR i _ (by rw [← hu1]; exact e))
    have hmlt := hd.low m hd.ownM
    have hblt := hd.low b hd.ownB
    have hmost := hd.ok.most
    have hless := hd.ok.less i
    have HC : Hid (∀ W, wc.grownBy W u.ownBlock → W.cell? ⟨b, 1, none⟩ = some (.map (some m))) := Lib.hid fun W h => (World.cell?_of_block (h.block b hblt fun e => (hub b e.symm).1 rfl)).trans (hd.blk.cell 1)
    have HO : Hid (∀ W, wc.grownBy W u.ownBlock → W.ownsMap Tryz.prog TI eltR m n D) := Lib.hid fun W h => ownsMap_stays ho (h.block m hmlt fun e => (hub m e.symm).2 rfl)
    have HK : Hid (∀ W, wc.grownBy W u.ownBlock → (Instr.lookup TM (.map (some m)) (.int .i64 (i : Int)) false).run Tryz.prog W = .ok u W) := Lib.hid fun W h => by
      rw [hu1]
      exact Loose.look (q := 65536 + s.writes) (t := s.t) ⟨D, n, HO.out W h, hn, hat, hhas, hkeys⟩ i HIl.out hmost
    have HR : Hid (∀ W, Gr wc W → Row W u ss) := Lib.hid fun W h => hrow.gr h
    have HX : Hid (∀ W, wc.grownBy W u.ownBlock → W.rangeAt w0.heap.size 0 x.cells) := Lib.hid fun W h => (hx.stays (h.block _ hlt fun e => hux e.symm)).one
    have HL : Hid (ss.length + 1 ≤ 500000000000) := Lib.hid (by rw [hss]; have := HWr.out; show _ ≤ _; have h2 : (s.t i).length ≤ s.writes := hless; omega)
    have HI : Hid (i < 65536) := Lib.hid (by have := HIl.out; have h2 : s.ls.length ≤ 65536 := hmost; omega)
    have HN : Hid (n < maxLen) := Lib.hid (by have := HWr.out; have h2 : n ≤ 65536 + s.writes := hn; unfold maxLen; omega)
    have HUss := Lib.hid (And.intro hu1 hss)
    have hwr : s.writes ≤ 1000000000 := HWr.out
    clear hd hx hu hlt ho hn hat hhas hkeys hrow hub hux hmlt hblt hmost hless hu1 hss
    go_wp2_with fail
    refine Flow.regionZ 14 13 (by kernel_rfl) [] 16 (Sw wc b m i w0.heap.size x u ss) (fun W => wc.grownBy W u.ownBlock) (Fw wc m i x u ss n D) (Gr wc) (Gw u) (by kernel_rfl) (by kernel_rfl) (by kernel_rfl) ?mono ⟨rfl, rfl, rfl, Nat.le_refl _, fun _ _ _ => rfl⟩ ⟨rfl, rfl, rfl, Nat.le_refl _, fun _ _ => rfl⟩ ?steps ?fin
    case mono =>
      intro i d v w w' hb hs hg
      by_cases h13 : i = 13
      · subst h13
        exact Sw.any d (Flow.bears2_only [38, 39, 40, 41, 42] (by kernel_rfl) hb) v w w' hs
      · by_cases h14 : i = 14
        · subst h14
          have := Flow.bears2_only [] (by kernel_rfl) hb
          cases this
        · have e1 : (i == 13) = false := by simpa using h13
          have e2 : (i == 14) = false := by simpa using h14
          unfold Gw at hg
          rw [e1, e2] at hg
          exact Sw.kept d v w w' hs hg
    case fin =>
      intro a W hfr hfin hsl
      clear hsl
      have e := Flow.frame hfr [38, 39, 40, 41, 42, 43, 44, 45, 46, 47, 48, 49, 50, 51] (List.range 59) (by kernel_rfl) (by kernel_rfl)
      simp [List.range, List.range.loop] at e
      rw [e]
      clear e hfr
      have hdk := HDk.out
      obtain ⟨h1, h2, h3, h4, h5⟩ := HMap.out
      rw [HUss.out.1, HUss.out.2] at hfin
      obtain ⟨F', L', hD, hUp, hc4, hf4⟩ := hdk.wrote i HIl.out x h1 h2 h3 h4 h5 hfin
      have HD := Lib.hid hD
      have HUp := Lib.hid hUp
      simp only at hc4
      clear HMap HUss HDk HC HO HK HR HX HL HI HN hfin hdk h1 h2 h3 h4 h5 hD hUp
      rename_i K hK
      refine hK _ _ ?_
      have hw9 : (s.writes : Int) ≤ 1000000000 := by omega
      go_wp2
      go_ret
      exact ⟨F', L', rfl, by rw [HFin.out]; exact HD.out, HU.out.trans HUp.out⟩
    case steps =>
      refine Flow.StepsZ.cons (fun a W hfr hinv hear hdep K hK => ?_) ?_
      · have s0 : a.tmps.getD 0 undef = .pointer (some ⟨b, 0, none⟩) := hfr.at 0 (by kernel_rfl)
        have t0 : a.tmps[0]?.getD undef = .pointer (some ⟨b, 0, none⟩) := by simpa using s0
        rw [if_pos (Flow.wanted_none rfl)]
        clear hfr hdep hear
        go_simp
        exact hK _ _ (show Gr W W from Gr.refl W) hinv (fun h => h) (fun d hd => by cases hd; rfl)
      refine Flow.StepsZ.cons (fun a W hfr hinv hear hdep K hK => ?_) ?_
      · have s38 : a.tmps.getD 38 undef = .pointer (some ⟨b, 0, none⟩) := hdep 38 (by kernel_rfl)
        have t38 : a.tmps[38]?.getD undef = .pointer (some ⟨b, 0, none⟩) := by simpa using s38
        rw [if_pos (Flow.wanted_none rfl)]
        clear hfr hdep hear
        go_simp
        exact hK _ _ (show Gr W W from Gr.refl W) hinv (fun h => h) (fun d hd => by cases hd; rfl)
      refine Flow.StepsZ.cons (fun a W hfr hinv hear hdep K hK => ?_) ?_
      · have s39 : a.tmps.getD 39 undef = .pointer (some ⟨b, 0, none⟩) := hdep 39 (by kernel_rfl)
        have t39 : a.tmps[39]?.getD undef = .pointer (some ⟨b, 0, none⟩) := by simpa using s39
        rw [if_pos (Flow.wanted_none rfl)]
        clear hfr hdep hear
        go_simp
        exact hK _ _ (show Gr W W from Gr.refl W) hinv (fun h => h) (fun d hd => by cases hd; rfl)
      refine Flow.StepsZ.cons (fun a W hfr hinv hear hdep K hK => ?_) ?_
      · have s40 : a.tmps.getD 40 undef = .pointer (some ⟨b, 1, none⟩) := hdep 40 (by kernel_rfl)
        have t40 : a.tmps[40]?.getD undef = .pointer (some ⟨b, 1, none⟩) := by simpa using s40
        have hc := HC.out W hinv
        rw [if_pos (Flow.wanted_none rfl)]
        clear hfr hdep hear
        go_simp
        exact hK _ _ (show Gr W W from Gr.refl W) hinv (fun h => h) (fun d hd => by cases hd; rfl)
      refine Flow.StepsZ.cons (fun a W hfr hinv hear hdep K hK => ?_) ?_
      · have s1 : a.tmps.getD 1 undef = .int .i64 (i : Int) := hfr.at 1 (by kernel_rfl)
        have t1 : a.tmps[1]?.getD undef = .int .i64 (i : Int) := by simpa using s1
        rw [if_pos (Flow.wanted_none rfl)]
        clear hfr hdep hear
        go_simp
        exact hK _ _ (show Gr W W from Gr.refl W) hinv (fun h => h) (fun d hd => by cases hd; rfl)
      refine Flow.StepsZ.cons (fun a W hfr hinv hear hdep K hK => ?_) ?_
      · have s0 : a.tmps.getD 0 undef = .pointer (some ⟨b, 0, none⟩) := hfr.at 0 (by kernel_rfl)
        have t0 : a.tmps[0]?.getD undef = .pointer (some ⟨b, 0, none⟩) := by simpa using s0
        rw [if_pos (Flow.wanted_none rfl)]
        clear hfr hdep hear
        go_simp
        exact hK _ _ (show Gr W W from Gr.refl W) hinv (fun h => h) (fun d hd => by cases hd; rfl)
      refine Flow.StepsZ.cons (fun a W hfr hinv hear hdep K hK => ?_) ?_
      · have s43 : a.tmps.getD 43 undef = .pointer (some ⟨b, 0, none⟩) := hdep 43 (by kernel_rfl)
        have t43 : a.tmps[43]?.getD undef = .pointer (some ⟨b, 0, none⟩) := by simpa using s43
        rw [if_pos (Flow.wanted_none rfl)]
        clear hfr hdep hear
        go_simp
        exact hK _ _ (show Gr W W from Gr.refl W) hinv (fun h => h) (fun d hd => by cases hd; rfl)
      refine Flow.StepsZ.cons (fun a W hfr hinv hear hdep K hK => ?_) ?_
      · have s44 : a.tmps.getD 44 undef = .pointer (some ⟨b, 0, none⟩) := hdep 44 (by kernel_rfl)
        have t44 : a.tmps[44]?.getD undef = .pointer (some ⟨b, 0, none⟩) := by simpa using s44
        rw [if_pos (Flow.wanted_none rfl)]
        clear hfr hdep hear
        go_simp
        exact hK _ _ (show Gr W W from Gr.refl W) hinv (fun h => h) (fun d hd => by cases hd; rfl)
      refine Flow.StepsZ.cons (fun a W hfr hinv hear hdep K hK => ?_) ?_
      · have s45 : a.tmps.getD 45 undef = .pointer (some ⟨b, 1, none⟩) := hdep 45 (by kernel_rfl)
        have t45 : a.tmps[45]?.getD undef = .pointer (some ⟨b, 1, none⟩) := by simpa using s45
        have hc := HC.out W hinv
        rw [if_pos (Flow.wanted_none rfl)]
        clear hfr hdep hear
        go_simp
        exact hK _ _ (show Gr W W from Gr.refl W) hinv (fun h => h) (fun d hd => by cases hd; rfl)
      refine Flow.StepsZ.cons (fun a W hfr hinv hear hdep K hK => ?_) ?_
      · have s1 : a.tmps.getD 1 undef = .int .i64 (i : Int) := hfr.at 1 (by kernel_rfl)
        have t1 : a.tmps[1]?.getD undef = .int .i64 (i : Int) := by simpa using s1
        rw [if_pos (Flow.wanted_none rfl)]
        clear hfr hdep hear
        go_simp
        exact hK _ _ (show Gr W W from Gr.refl W) hinv (fun h => h) (fun d hd => by cases hd; rfl)
      refine Flow.StepsZ.cons (fun a W hfr hinv hear hdep K hK => ?_) ?_
      · have s46 : a.tmps.getD 46 undef = .map (some m) := hdep 46 (by kernel_rfl)
        have t46 : a.tmps[46]?.getD undef = .map (some m) := by simpa using s46
        have s47 : a.tmps.getD 47 undef = .int .i64 (i : Int) := hdep 47 (by kernel_rfl)
        have t47 : a.tmps[47]?.getD undef = .int .i64 (i : Int) := by simpa using s47
        rw [if_pos (Flow.wanted_none rfl)]
        clear hfr hdep
        have hk := HK.out W hinv
        have hr := HR.out W (Flow.early hear (by kernel_rfl))
        clear hear
        go_simp
        exact hK _ _ (show Gr W W from Gr.refl W) hinv (fun h => h) (fun d hd => by cases hd; exact ⟨rfl, hr⟩)
      refine Flow.StepsZ.cons (fun a W hfr hinv hear hdep K hK => ?_) ?_
      · have s5 : a.tmps.getD 5 undef = .pointer (some ⟨w0.heap.size, 0, none⟩) := hfr.at 5 (by kernel_rfl)
        have t5 : a.tmps[5]?.getD undef = .pointer (some ⟨w0.heap.size, 0, none⟩) := by simpa using s5
        rw [if_pos (Flow.wanted_none rfl)]
        clear hfr hdep
        refine wp_load_sec (.tmp 5) rfl (HX.out W hinv) (by simpa [Act.eval] using s5) ?_
        exact hK _ _ (show Gr W W from Gr.refl W) hinv (fun h => h) (fun d hd => by cases hd; rfl)
      refine Flow.StepsZ.cons (fun a W hfr hinv hear hdep K hK => ?_) ?_
      · have s49 : a.tmps.getD 49 undef = .agg (sec x) := hdep 49 (by kernel_rfl)
        have t49 : a.tmps[49]?.getD undef = .agg (sec x) := by simpa using s49
        rw [if_pos (Flow.wanted_none rfl)]
        clear hfr hdep
        refine wp_buildSecs 1 #[(0, .tmp 49)] rfl [x] rfl (by omega) (by omega) (by simp [Act.eval, t49, partsOf, partsL, sec]) ?_
        exact hK _ _ (show Gr W (W.alloc _) from Gr.new W _) (hinv.trans (World.grownBy_alloc W _ _)) (fun h => Gr.trans h (Gr.new W _)) (fun d hd => by cases hd; exact ⟨_, rfl, Row.lit W [x] 1 rfl (by omega)⟩)
      refine Flow.StepsZ.cons (fun a W hfr hinv hear hdep K hK => ?_) ?_
      · have s48 : ((a.tmps.getD 48 undef) = u ∧ Row W u ss) := hdep 48 (by kernel_rfl)
        have s50 : (∃ q, (a.tmps.getD 50 undef) = .slice (some ⟨q, 0, none⟩) 1 1 ∧ Row W (.slice (some ⟨q, 0, none⟩) 1 1) [x]) := hdep 50 (by kernel_rfl)
        rw [if_pos (Flow.wanted_none rfl)]
        clear hfr hdep
        obtain ⟨e48, r48⟩ := s48
        obtain ⟨q, e50, r50⟩ := s50
        refine app_sec (.tmp 48) (.tmp 50) rfl (by simpa [Act.eval] using e48) r48 (by simpa [Act.eval] using e50) r50 rfl HL.out ?_
        intro v' w' h1 h2 h3
        exact hK _ _ (show W.grownBy w' u.ownBlock from h2) (hinv.trans h2) True.intro (fun d hd => by cases hd; exact ⟨h1, h3.imp id fun h => ⟨_, h, hinv.size⟩⟩)
      refine Flow.StepsZ.cons (fun a W hfr hinv hear hdep K hK => ?_) ?_
      · have s41 : a.tmps.getD 41 undef = .map (some m) := hdep 41 (by kernel_rfl)
        have t41 : a.tmps[41]?.getD undef = .map (some m) := by simpa using s41
        have s42 : a.tmps.getD 42 undef = .int .i64 (i : Int) := hdep 42 (by kernel_rfl)
        have t42 : a.tmps[42]?.getD undef = .int .i64 (i : Int) := by simpa using s42
        have s51 : (Row W (a.tmps.getD 51 undef) (ss ++ [x]) ∧ ((a.tmps.getD 51 undef).ownBlock = u.ownBlock ∨ ∃ g, (a.tmps.getD 51 undef).ownBlock = some g ∧ wc.heap.size ≤ g)) := hdep 51 (by kernel_rfl)
        rw [if_pos (Flow.wanted_none rfl)]
        clear hfr hdep
        obtain ⟨r51, l51⟩ := s51
        refine upd_loose (.tmp 41) (.tmp 42) (.tmp 51) rfl (by simpa [Act.eval] using s41) i HI.out (by simpa [Act.eval] using s42) _ rfl (HO.out W hinv) HN.out ?_
        intro w' h1 h2
        exact hK _ _ True.intro ⟨_, W, r51, hinv, l51, h1, h2⟩ True.intro (fun d hd => by cases hd)
      exact True.intro

/-- The same, where only the disk's value is told. -/
theorem Write_yes {F : Nat → Prop} {p : Value} {s : St} (w : World) (h : Dk w F p s) (i : Nat) (hi : i < s.ls.length) (x : Sec) (hr : ¬ s.refuses) (hw : s.writes ≤ 1000000000) : Calls Tryz.prog 77 #[p, .int .i64 (i : Int), .agg (sec x)] w fun e w' => Chg F p (s.wrote i x) (.int .i64 0) w e w' := by
  obtain ⟨b, lv, m, L, rfl, h⟩ := h
  refine (Write_yesM w h i hi x hr hw).mono ?_
  rintro e w' ⟨F', L', rfl, hd, hu⟩
  exact ⟨F', rfl, ⟨_, _, _, _, rfl, hd⟩, hu⟩

end Go.Proofs.YtaemmknijmhnoaaGreat

