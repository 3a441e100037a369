
/-
  Sectors: the operations that load one, build a list of them, put one behind a row, look into the map, and store into it.
-/
import Derived.Test.YtkoalabacfjgbaaDisk4
import Derived.Test.YtkoalabacfjgbaaFlowZ
import Derived.Great.BuildSlice
import Derived.Maps.AppendAt
namespace Go.Proofs.Ytkoalabacfjgbaa
open Go.RowKit Go.Maps

theorem set_all (off : Nat) : ∀ (l : List Value) (k : Nat) (cs : Array Value), off + k + l.length ≤ cs.size →
    ((l.zipIdx k).foldl (fun cs (p : Value × Nat) => cs.setIfInBounds (off + p.2) p.1) cs) = (cs.toList.take (off + k) ++ l ++ cs.toList.drop (off + k + l.length)).toArray
  | [], k, cs, _ => by simp
  | v :: r, k, cs, h => by
    have hl : off + k < cs.size := by simp at h; omega
    rw [List.zipIdx_cons, List.foldl_cons, set_all off r (k + 1) _ (by simp at h ⊢; omega)]
    apply congrArg List.toArray
    have e1 : (cs.setIfInBounds (off + k) v).toList = cs.toList.set (off + k) v := by simp
    show List.take (off + (k + 1)) (cs.setIfInBounds (off + k) v).toList ++ r ++ _ = _
    rw [e1, List.set_eq_take_append_cons_drop, if_pos (by simpa using hl)]
    have ht : (cs.toList.take (off + k)).length = off + k := by simp; omega
    generalize cs.toList.take (off + k) = A at ht ⊢
    have h2 : List.take (off + (k + 1)) (A ++ v :: List.drop (off + k + 1) cs.toList) = A ++ [v] := by
      rw [List.take_append, ht, List.take_of_length_le (by omega), show off + (k + 1) - (off + k) = 1 by omega]; rfl
    have h3 : List.drop (off + (k + 1) + r.length) (A ++ v :: List.drop (off + k + 1) cs.toList) = List.drop (off + k + (v :: r).length) cs.toList := by
      rw [List.drop_append, ht, List.drop_of_length_le (by omega), List.nil_append, show off + (k + 1) + r.length - (off + k) = r.length + 1 by omega, List.drop_succ_cons, List.drop_drop]
      congr 1
      simp; omega
    rw [h2, h3]
    simp

/-- The parts of a literal list of arrays. -/
def partsL : Nat → List (List Value) → List (Nat × Value)
  | _, [] => []
  | k, l :: r => (k, .agg l.toArray) :: partsL (k + 1) r
theorem fill_many (K : Nat) : ∀ (ls : List (List Value)) (k : Nat) (cs : Array Value), (∀ l ∈ ls, l.length = K) → (k + ls.length) * K ≤ cs.size →
    Instr.fill (fun i => some (i * K, K)) cs (partsL k ls) = some ((cs.toList.take (k * K) ++ ls.flatten ++ cs.toList.drop ((k + ls.length) * K)).toArray)
  | [], k, cs, _, _ => by
    rw [List.flatten_nil, List.append_nil, List.length_nil, Nat.add_zero, List.take_append_drop]
    rfl
  | l :: r, k, cs, hl, h => by
    have hll : l.length = K := hl l (by simp)
    have h2 : (k + 1 + r.length) * K ≤ cs.size := by rw [List.length_cons] at h; rwa [show k + 1 + r.length = k + (r.length + 1) by omega]
    have hk : k * K + K ≤ cs.size := by
      have := Nat.mul_le_mul_right K (show k + 1 ≤ k + 1 + r.length by omega)
      rw [Nat.add_mul k 1 K, Nat.one_mul] at this
      omega
    have e1 : (l.toArray.zipIdx.foldl (fun cs (p : Value × Nat) => cs.setIfInBounds (k * K + p.2) p.1) cs) = (cs.toList.take (k * K) ++ l ++ cs.toList.drop (k * K + K)).toArray := by
      have := set_all (k * K) l 0 cs (by rw [hll]; exact hk)
      rw [hll, Nat.add_zero] at this
      rw [← this, ← Array.foldl_toList, Array.toList_zipIdx]
    have hsz : (cs.toList.take (k * K) ++ l ++ cs.toList.drop (k * K + K)).toArray.size = cs.size := by
      simp only [List.size_toArray, List.length_append, List.length_take, List.length_drop, hll, Array.length_toList]
      omega
    show Instr.fill _ cs ((k, .agg l.toArray) :: partsL (k + 1) r) = _
    unfold Instr.fill
    have e0 : (Value.agg l.toArray).cells = l.toArray := rfl
    simp only [e0, List.size_toArray, hll]
    rw [if_neg (by simp; omega)]
    show Instr.fill _ (l.toArray.zipIdx.foldl (fun cs (p : Value × Nat) => cs.setIfInBounds (k * K + p.2) p.1) cs) (partsL (k + 1) r) = _
    rw [e1, fill_many K r (k + 1) _ (fun x hx => hl x (by simp [hx])) (by rw [hsz]; exact h2)]
    congr 1
    apply congrArg List.toArray
    have hA : (cs.toList.take (k * K)).length = k * K := by simp; omega
    have hA2 : (cs.toList.take (k * K) ++ l).length = (k + 1) * K := by rw [List.length_append, hA, hll, Nat.add_mul, Nat.one_mul]
    show List.take ((k + 1) * K) (cs.toList.take (k * K) ++ l ++ cs.toList.drop (k * K + K)) ++ r.flatten ++ List.drop ((k + 1 + r.length) * K) (cs.toList.take (k * K) ++ l ++ cs.toList.drop (k * K + K)) = _
    rw [List.take_append_of_le_length (by rw [hA2]; omega), List.take_of_length_le (by rw [hA2]; omega), List.drop_append, hA2, List.drop_of_length_le (by rw [hA2]; exact Nat.mul_le_mul_right K (by omega)), List.nil_append, List.drop_drop, List.flatten_cons, List.length_cons]
    rw [List.append_assoc, List.append_assoc, List.append_assoc, List.append_assoc]
    congr 4
    have h5 : (k + 1) * K ≤ (k + 1 + r.length) * K := Nat.mul_le_mul_right K (by omega)
    have e5 : (k + (r.length + 1)) * K = (k + 1 + r.length) * K := by rw [show k + (r.length + 1) = k + 1 + r.length by omega]
    rw [e5]
    have e6 : (k + 1) * K = k * K + K := by rw [Nat.add_mul, Nat.one_mul]
    omega

def partsOf (k : Nat) (ss : List Sec) : List (Nat × Value) := partsL k (ss.map Sec.cells)
theorem cellsOf_flat (ss : List Sec) : (ss.map Sec.cells).flatten = cellsOf ss := by unfold cellsOf; rw [List.flatMap_def]
theorem fill_secs (ss : List Sec) (cs : Array Value) (h : ss.length * 256 = cs.size) : Instr.fill (fun i => some (i * 256, 256)) cs (partsOf 0 ss) = some (cellsOf ss).toArray := by
  have hf := fill_many 256 (ss.map Sec.cells) 0 cs (fun l hl => by obtain ⟨s, _, rfl⟩ := List.mem_map.1 hl; exact s.cells_len) (by rw [List.length_map, Nat.zero_add, h]; exact Nat.le_refl _)
  unfold partsOf
  rw [hf, cellsOf_flat, List.length_map, Nat.zero_mul, List.take_zero, List.nil_append, Nat.zero_add, List.drop_of_length_le (by rw [Array.length_toList, h]; exact Nat.le_refl _), List.append_nil]

/-- A literal list of sectors is built. -/
theorem run_buildSecs (w : World) (ss : List Sec) (parts : Array (Nat × Value)) (n : Nat) (hn : n = ss.length) (h0 : 0 < n) (h1 : n ≤ 1000) (hp : parts.toList = partsOf 0 ss) :
    (Instr.buildSlice TL n parts).run Try.prog w = .ok (.slice (some ⟨w.heap.size, 0, none⟩) n n) (w.alloc (.cells (cellsOf ss).toArray TS)) := by
  obtain ⟨i, hi, hz, hs, _⟩ := info_parts info_sec
  have hsz : i.size = 256 := hs
  have hf := fill_secs ss ((Array.range (n * 256)).map ((Value.agg (sec Sec.zero)).cells[· % (Value.agg (sec Sec.zero)).cells.size]!)) (by rw [Array.size_map, Array.size_range, hn])
  refine run_buildSlice w TL TS n parts _ i (.agg (sec Sec.zero)) Try.underlying25 hi hz ?_ ?_ ?_
  · rw [hsz]; omega
  · rw [hsz]; omega
  · rw [hsz, hp, hf]

theorem wp_buildSecs {o : Oper} {a : Act} {w : World} {K : Act → World → Prop} {Q : Exit → Act → World → Prop} (n : Nat) (parts : Array (Nat × Operand)) (ho : o.op = .buildSlice TL n parts) (ss : List Sec) (hn : n = ss.length) (h0 : 0 < n) (h1 : n ≤ 1000)
    (hp : (parts.map fun (i, x) => (i, a.eval x)).toList = partsOf 0 ss) (h : K (a.put o.dst (.slice (some ⟨w.heap.size, 0, none⟩) n n)) (w.alloc (.cells (cellsOf ss).toArray TS))) : o.wp Try.prog a w K Q := by
  unfold Oper.wp execOp
  simp only [ho, Sem.run_bind, run_buildSecs w ss _ n hn h0 h1 hp, Result.andThen_ok]
  exact h
theorem wpList_buildSecs {ops : Array Oper} {rest : List Oper} {o : Oper} {a : Act} {w : World} {Q : Exit → Act → World → Prop} (hg : o.guard = none) (n : Nat) (parts : Array (Nat × Operand)) (ho : o.op = .buildSlice TL n parts) (ss : List Sec) (hn : n = ss.length) (h0 : 0 < n) (h1 : n ≤ 1000)
    (hp : (parts.map fun (i, x) => (i, a.eval x)).toList = partsOf 0 ss) (h : wpList Try.prog ops Q rest (a.put o.dst (.slice (some ⟨w.heap.size, 0, none⟩) n n)) (w.alloc (.cells (cellsOf ss).toArray TS))) : wpList Try.prog ops Q (o :: rest) a w :=
  wpList_plain hg fun _ hK => wp_buildSecs n parts ho ss hn h0 h1 hp (hK _ _ h)
theorem Row.lit (w : World) (ss : List Sec) (n : Nat) (hn : n = ss.length) (h1 : n ≤ 1000) : Row (w.alloc (.cells (cellsOf ss).toArray TS)) (.slice (some ⟨w.heap.size, 0, none⟩) n n) ss := by
  subst hn
  refine ⟨cellsOf_len ss, .inr ⟨_, _, _, rfl, Nat.zero_le _, heap_alloc_new w _, Nat.le_refl _, by unfold maxLen; omega, by rw [List.size_toArray, cellsOf_len], ?_⟩⟩
  rw [← cellsOf_len]
  exact List.take_length

/-- One sector behind a row of one's own. -/
theorem app_sec {w : World} {v : Value} {ss ts : List Sec} {o : Oper} {a : Act} {K : Act → World → Prop} {Q : Exit → Act → World → Prop} (s x : Operand) (ho : o.op = .call { callee := .builtin .append, args := #[s, x], argTypes := #[TL, TL] })
    (hs : a.eval s = v) (hr : Row w v ss) {q m c : Nat} (hx : a.eval x = .slice (some ⟨q, 0, none⟩) m c) (hy : Row w (.slice (some ⟨q, 0, none⟩) m c) ts) (hm : m = ts.length) (hl : ss.length + m ≤ 500000000000)
    (h : ∀ v' w', Row w' v' (ss ++ ts) → w.grownBy w' v.ownBlock → (v'.ownBlock = v.ownBlock ∨ v'.ownBlock = some w.heap.size) → K (a.put o.dst v') w') : o.wp Try.prog a w K Q := by
  obtain ⟨i, hi, hz, hsz, hb⟩ := info_parts info_sec
  have hnews : ∀ j u, (cellsOf ts)[j]? = some u → w.cell? ((⟨q, 0, none⟩ : Addr).add j) = some u := by
    intro j u hj
    have hlt : j < ts.length * 256 := by rw [← cellsOf_len]; exact (List.getElem?_eq_some_iff.1 hj).1
    have hq : j / 256 < ts.length := by omega
    have e : j / 256 * 256 + j % 256 = j := Nat.div_add_mod' j 256
    have hl := hy.lies (j / 256) hq (j % 256) u (by rw [← cellsOf_at ts (j / 256) hq (j % 256) (Nat.mod_lt _ (by omega)), e, hj])
    rw [Addr.add_mid, Nat.zero_add]
    rwa [e] at hl
  obtain ⟨v', w', hrun, h1, h2, _, h3⟩ := run_append_own_at (P := Try.prog) w 0 TL o.type TS i (.agg (sec Sec.zero)) 256 256 Try.underlying25 hi hz hsz hb (sec_size _) (by omega) v ss.length (cellsOf ss) hr ⟨q, 0, none⟩ m c (cellsOf ts) (by rw [cellsOf_len, hm]) hnews (cellsOf_each ts) (by unfold maxLen; omega) (by omega) (Nat.zero_le _)
  unfold Oper.wp execOp
  simp only [ho, resolve, invoke, builtin, Sem.run_bind, Sem.run_pure, Result.andThen_ok, List.map_toArray, List.map_cons, List.map_nil, hs, hx, hrun]
  refine h v' w' ?_ h2 h3
  unfold Row
  rw [cellsOf_app, List.length_append, ← hm]
  exact h1

/-- A store into the map of what lies loose. -/
theorem upd_loose {w : World} {b n : Nat} {D : DataW Value} {o : Oper} {a : Act} {K : Act → World → Prop} {Q : Exit → Act → World → Prop} (m x v : Operand) (ho : o.op = .mapUpdate TM m x v) (hm : a.eval m = .map (some b)) (i : Nat) (hi : i < 65536) (hx : a.eval x = .int .i64 (i : Int)) (u : Value) (hv : a.eval v = u)
    (hown : w.ownsMap Try.prog TI eltR b n D) (hn : n < maxLen)
    (h : ∀ w', w'.ownsMap Try.prog TI eltR b (n + 1) (D.put (key i) (.held u)) → w.grownBy w' (some b) → K (a.put o.dst undef) w') : o.wp Try.prog a w K Q := by
  obtain ⟨w', hrun, r1, r2⟩ := hown.update (t := TM) (e := TL) (int_keyed Try.underlying3) Try.underlying65 hn (key := .int .i64 (i : Int)) (val := u) (kl := key i) (d := .held u) (ps := []) (keyOf_int_mk Try.underlying3 (WalkArith.wf_i64 (by omega))) rfl
  unfold Oper.wp
  simp [execOp, ho, hm, hx, hv, hrun, Result.andThen]
  exact h _ r1 r2

end Go.Proofs.Ytkoalabacfjgbaa
