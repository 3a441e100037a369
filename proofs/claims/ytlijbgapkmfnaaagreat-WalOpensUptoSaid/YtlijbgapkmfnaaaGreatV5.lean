/-
  Part 5 of what the laws of stage 6 rest on: contracts of the functions that they call, and what these rest on.
-/
import Derived.Deep.DeepCutAuto
import Derived.Deep.CutBlock
import Derived.Outline
import Derived.Great.BuildSlice
import Derived.Maps.AppendAt
import Derived.Shelf.SlIterI.Nil
import Derived.Shelf.SortM.Plain
import Derived.Shelf.SortM.SortNone
import Derived.Test.YtlijbgapkmfnaaaGreatProg
import Derived.ProofKit
import Derived.OpenShut
import Derived.ShutString
import Derived.ChangeOld
import Derived.Deep.Slices
import Derived.Test.YtlijbgapkmfnaaaGreatV1
import Derived.Test.YtlijbgapkmfnaaaGreatV2
import Derived.Test.YtlijbgapkmfnaaaGreatV3
import Derived.Test.YtlijbgapkmfnaaaGreatV4
set_option linter.unusedVariables false
set_option linter.unusedSimpArgs false
namespace Go.Proofs.YtlijbgapkmfnaaaGreat
open Go.RowKit Go.Maps
theorem results_sec2 {fn : Func} {p q : Tmp} (h : fn.results = #[.cell p TS, .tmp q]) (tmps : Array Value) (w : World) (g : Nat) (s : Sec)
  (hp : tmps.getD p undef = .pointer (some ⟨g, 0, none⟩)) (hb : Blk w g TS (sec s)) : (results fn tmps).run Tryz.prog w = .ok (.tuple #[.agg (sec s), tmps.getD q undef]) w := by
 have hp' : tmps[p]?.getD undef = .pointer (some ⟨g, 0, none⟩) := by simpa using hp
 have hl := run_loadVar_row (P := Tryz.prog) w g TS TS (sec s) (0, 0) _ hb under_sec rfl (by rw [sec_size]; exact size_sec)
 simp [results, h, hp', asAddr, hl]
def RetRead (w w' : World) (e : Ending) (s : Sec) (x : Int) : Prop := e = .returned (.tuple #[.agg (sec s), .int .i64 x]) ∧ Gr w w'
set_option maxRecDepth 100000 in
set_option maxHeartbeats 1000000 in
theorem Read_yes {F : Nat → Prop} {p : Value} {s : St} (w : World) (h : Dk w F p s) (i : Nat) (hi : i < s.ls.length) : Calls Tryz.prog 42 #[p, .int .i64 (i : Int)] w fun e w' => RetRead w w' e (s.nw i) 0 := by
 obtain ⟨b, lv, m, L, rfl, h⟩ := h; have hg : Gr w (w.alloc (.cells (sec Sec.zero) TS)) := (Gr.refl w).alloc (Nat.le_refl _) _; have h' := h.gr hg; have ha := asked_any _ h' (i : Int)
 have he : askE s.ls.length (i : Int) = 0 := by unfold askE; rw [if_neg (by omega)]
 rw [he] at ha
 have HA := Lib.hid ha; have HB := Lib.hid (newest_any _ h' i hi); have HG := Lib.hid hg; have HN := Lib.hid (Blk.new w TS (sec Sec.zero)); have hz := zero_sec; clear he ha h h' hi hg
 go_enter Tryz.func42, Tryz.ntmps42
 go_wp2_with fail; refine HA.out.mono ?_; rintro e w1 ⟨rfl, rfl⟩; clear hz; go_wp2_with fail; refine HB.out.mono ?_; rintro e w1 ⟨rfl, g1⟩; have HN1 := Lib.hid (HN.out.gr g1); have HG1 := Lib.hid (Gr.trans HG.out g1); have HS : Hid (w.heap.size ≤ w1.heap.size) := Lib.hid HG1.out.size; clear g1 HG HN
 go_wp2_with (refine wpList_store_sec rfl _ _ rfl HN1.out rfl rfl ?_)
 exact bodyPost_ret (results_sec2 rfl _ _ _ _ rfl (HN1.out.row _)) rfl ⟨rfl, below_setRow HG1.out (Nat.le_refl _) _⟩
set_option maxRecDepth 100000 in
theorem Sectors_any {F : Nat → Prop} {p : Value} {s : St} (w : World) (h : Dk w F p s) : Calls Tryz.prog 72 #[p] w fun e w' => e = .returned (.int .i64 (s.ls.length : Int)) ∧ w = w' := by
 obtain ⟨b, lv, m, L, rfl, h⟩ := h; have HM := Lib.hid (missing_no w h); obtain ⟨h0, h1, h2, h3, h4⟩ := h.cells; obtain ⟨g, c, rfl⟩ := h.lv; obtain ⟨N, hN⟩ : ∃ N, N = s.ls.length := ⟨_, rfl⟩
 rw [← hN] at h0 ⊢
 clear h hN h1 h2 h3 h4
 go_enter Tryz.func72, Tryz.ntmps72
 go_wp2_with fail; refine HM.out.mono ?_; rintro e w' ⟨rfl, rfl⟩
 go_wp2
 go_ret
 exact ⟨rfl, rfl⟩
set_option maxRecDepth 100000 in
theorem Writes_any {F : Nat → Prop} {p : Value} {s : St} (w : World) (h : Dk w F p s) : Calls Tryz.prog 15 #[p] w fun e w' => e = .returned (.int .i64 (s.writes : Int)) ∧ w = w' := by
 obtain ⟨b, lv, m, L, rfl, h⟩ := h; have HM := Lib.hid (missing_no w h); obtain ⟨h0, h1, h2, h3, h4⟩ := h.cells; clear h h1 h2 h0 h3
 go_enter Tryz.func15, Tryz.ntmps15
 go_wp2_with fail; refine HM.out.mono ?_; rintro e w' ⟨rfl, rfl⟩
 go_wp2
 go_ret
 exact ⟨rfl, rfl⟩
theorem upd_cell {F : Nat → Prop} {w : World} {b i : Nat} (hb : F b) (v : Value) : Upd F F w (w.setCell ⟨b, i, none⟩ v) :=
 ⟨rfl, rfl, rfl, by simp [World.setCell], fun k _ hk => Below.heap_setCell w _ v k (fun e => hk (by rw [e]; exact hb)), fun k hk => .inl hk⟩
theorem Upd.trans {F F1 F2 : Nat → Prop} {w w1 w2 : World} (h : Upd F F1 w w1) (k : Upd F1 F2 w1 w2) : Upd F F2 w w2 :=
 ⟨k.os.trans h.os, k.tape.trans h.tape, k.output.trans h.output, Nat.le_trans h.size k.size, fun j hj hf => by
  rw [k.block j (by have := h.size; omega) (fun h1 => by
   rcases h.fresh j h1 with h2 | h2
   · exact hf h2
   · omega), h.block j hj hf], fun j hj => by
  rcases k.fresh j hj with h1 | h1
  · exact h.fresh j h1
  · exact .inr (by have := h.size; omega)⟩
theorem DkAt.block {w w' : World} {F : Nat → Prop} {b : Nat} {lv : Value} {m : Nat} {L : Nat → Value} {s s' : St} (h : DkAt w F b lv m L s) (ok : s'.Ok) (hls : s'.ls = s.ls) (ht : s'.t = s.t) (hw : s.writes ≤ s'.writes)
  (hb : Blk w' b TD #[lv, .map (some m), .int .i64 s'.fuse, .bool s'.dead, .int .i64 (s'.writes : Int)]) (e : ∀ k, F k → k ≠ b → w'.heap[k]? = w.heap[k]?) (hs : w.heap.size ≤ w'.heap.size) : DkAt w' F b lv m L s' := by
 have hkind : ∀ {g : Nat} {cs : Array Value}, w.heap[g]? = some (.cells cs TS (0, 0)) → g ≠ b := fun {g cs} hg e => by
  subst e; have h1 := h.blk
  unfold Blk at h1
  rw [hg] at h1
  simp only [Option.some.injEq, Obj.cells.injEq] at h1
  exact absurd h1.2.1 (by decide)
 have hm : m ≠ b := fun e => by
  subst e; obtain ⟨D, n, ⟨es, c, h1, _⟩, _⟩ := h.map; have h2 := h.blk
  unfold Blk at h2
  rw [h1] at h2
  cases h2
 have e1 : Row w' lv s.ls := h.ls.stays fun g hg => by
  obtain ⟨cs, hk⟩ := h.ls.kind hg; exact e g (h.ownL g hg) (hkind hk)
 have e2 : ∀ i, Row w' (L i) (s.t i) := fun i => (h.rows i).stays fun g hg => by
  obtain ⟨cs, hk⟩ := (h.rows i).kind hg; exact e g (h.ownR i g hg) (hkind hk)
 refine ⟨ok, hb, by rw [hls]; exact e1, ?_, fun i => by rw [ht]; exact e2 i, h.apart, h.apart0, h.ownB, h.ownM, h.ownL, h.ownR, fun k hk => Nat.lt_of_lt_of_le (h.low k hk) hs⟩; rw [hls, ht]; obtain ⟨D, n, ho, hn, r⟩ := h.map.stays (e m h.ownM hm); exact ⟨D, n, ho, by omega, r⟩
end Go.Proofs.YtlijbgapkmfnaaaGreat
namespace Go.Proofs.YtlijbgapkmfnaaaGreat
open Go.RowKit Go.Maps
def St.wrote (s : St) (i : Nat) (x : Sec) : St := { s with fuse := if 0 < s.fuse then s.fuse - 1 else s.fuse, t := fun j => if j = i then s.t i ++ [x] else s.t j, writes := s.writes + 1 }
def St.refuses (s : St) : Prop := s.fuse = 0 ∨ s.dead = true
instance (s : St) : Decidable s.refuses := inferInstanceAs (Decidable (_ ∨ _))
set_option maxRecDepth 100000 in
set_option maxHeartbeats 1000000 in
theorem Write_deadM {F : Nat → Prop} {b : Nat} {lv : Value} {m : Nat} {L : Nat → Value} {s : St} (w : World) (h : DkAt w F b lv m L s) (i : Nat) (hi : i < s.ls.length) (x : Sec) (hr : s.refuses) : Calls Tryz.prog 13 #[.pointer (some ⟨b, 0, none⟩), .int .i64 (i : Int), .agg (sec x)] w fun e w' => e = .returned (.int .i64 8) ∧ DkAt w' F b lv m L { s with dead := true } ∧ Upd F F w w' := by
 have hg : Gr w (w.alloc (.cells (sec x) TS)) := (Gr.refl w).alloc (Nat.le_refl _) _; have h' := h.gr hg; have ha := asked_any _ h' (i : Int)
 have he : askE s.ls.length (i : Int) = 0 := by unfold askE; rw [if_neg (by omega)]
 rw [he] at ha
 have HA := Lib.hid ha; obtain ⟨h0, h1, h2, h3, h4⟩ := h'.cells; have hf := h'.blk.frozen 3; have HB := Lib.hid (h'.blk.set 3 (.bool true)); have HU := Lib.hid (Upd.trans (Upd.of_gr (F := F) hg) (upd_cell (w := w.alloc (.cells (sec x) TS)) (i := 3) h.ownB (.bool true))); have HU0 := Lib.hid (Upd.of_gr (F := F) hg); have HD : Hid (DkAt ((w.alloc (.cells (sec x) TS)).setCell ⟨b, 3, none⟩ (.bool true)) F b lv m L { s with dead := true }) := Lib.hid (h'.block (s' := { s with dead := true }) ⟨h.ok.pos, h.ok.most, h.ok.out, h.ok.less, h.ok.lo, h.ok.hi⟩ rfl rfl (Nat.le_refl _) (by simpa using HB.out) (fun k _ hk => Below.heap_setCell _ _ _ k hk) (by simp [World.setCell]))
 by_cases hz : s.fuse = 0
 ·
  rw [hz] at h2
  clear h h' ha he hi HB hr h0 h1 h4 HU0 hz
  go_enter Tryz.func13, Tryz.ntmps13
  go_wp2_with fail; refine HA.out.mono ?_; rintro e w1 ⟨rfl, rfl⟩
  go_wp2
  go_ret
  exact ⟨rfl, HD.out, HU.out⟩
 ·
  have hd : s.dead = true := by
                 rcases hr with h | h
                 · exact absurd h hz
                 · exact h
  have hs : { s with dead := true } = s := by cases s; simp at hd; simp [hd]
  have HD0 : Hid (DkAt (w.alloc (.cells (sec x) TS)) F b lv m L { s with dead := true }) := Lib.hid (by rw [hs]; exact h')
  rw [hd] at h3
  have hz2 : (s.fuse == 0) = false := by simpa using hz
  obtain ⟨f, hff⟩ : ∃ f, f = s.fuse := ⟨_, rfl⟩
  rw [← hff] at h2 hz2
  clear h h' ha he hi HB hr h0 h1 h4 HU hz hs HD hd hff
  go_enter Tryz.func13, Tryz.ntmps13
  go_wp2_with fail; refine HA.out.mono ?_; rintro e w1 ⟨rfl, rfl⟩
  go_wp2
  go_ret
  exact ⟨rfl, HD0.out, HU0.out⟩
theorem Write_dead {F : Nat → Prop} {p : Value} {s : St} (w : World) (h : Dk w F p s) (i : Nat) (hi : i < s.ls.length) (x : Sec) (hr : s.refuses) : Calls Tryz.prog 13 #[p, .int .i64 (i : Int), .agg (sec x)] w fun e w' => e = .returned (.int .i64 8) ∧ Dk w' F p { s with dead := true } ∧ Upd F F w w' := by
 obtain ⟨b, lv, m, L, rfl, h⟩ := h; refine (Write_deadM w h i hi x hr).mono ?_; rintro e w' ⟨rfl, hd, hu⟩; exact ⟨rfl, ⟨_, _, _, _, rfl, hd⟩, hu⟩
end Go.Proofs.YtlijbgapkmfnaaaGreat
namespace Go.Proofs.YtlijbgapkmfnaaaGreat
open Go.RowKit Go.Maps
theorem set_all (off : Nat) : ∀ (l : List Value) (k : Nat) (cs : Array Value), off + k + l.length ≤ cs.size →
  ((l.zipIdx k).foldl (fun cs (p : Value × Nat) => cs.setIfInBounds (off + p.2) p.1) cs) = (cs.toList.take (off + k) ++ l ++ cs.toList.drop (off + k + l.length)).toArray
 | [], k, cs, _ => by simp
 | v :: r, k, cs, h => by
  have hl : off + k < cs.size := by simp at h; omega
  rw [List.zipIdx_cons, List.foldl_cons, set_all off r (k + 1) _ (by simp at h ⊢; omega)]
  apply congrArg List.toArray
  have e1 : (cs.setIfInBounds (off + k) v).toList = cs.toList.set (off + k) v := by simp
  show List.take (off + (k + 1)) (cs.setIfInBounds (off + k) v).toList ++ r ++ _ = _
  rw [e1, List.set_eq_take_append_cons_drop, if_pos (by simpa using hl)]
  have ht : (cs.toList.take (off + k)).length = off + k := by simp; omega
  generalize cs.toList.take (off + k) = A at ht ⊢
  have h2 : List.take (off + (k + 1)) (A ++ v :: List.drop (off + k + 1) cs.toList) = A ++ [v] := by
   rw [List.take_append, ht, List.take_of_length_le (by omega), show off + (k + 1) - (off + k) = 1 by omega]; rfl
  have h3 : List.drop (off + (k + 1) + r.length) (A ++ v :: List.drop (off + k + 1) cs.toList) = List.drop (off + k + (v :: r).length) cs.toList := by
   rw [List.drop_append, ht, List.drop_of_length_le (by omega), List.nil_append, show off + (k + 1) + r.length - (off + k) = r.length + 1 by omega, List.drop_succ_cons, List.drop_drop]
   congr 1
   simp; omega
  rw [h2, h3]
  simp
def partsL : Nat → List (List Value) → List (Nat × Value)
 | _, [] => []
 | k, l :: r => (k, .agg l.toArray) :: partsL (k + 1) r
theorem fill_many (K : Nat) : ∀ (ls : List (List Value)) (k : Nat) (cs : Array Value), (∀ l ∈ ls, l.length = K) → (k + ls.length) * K ≤ cs.size →
  Instr.fill (fun i => some (i * K, K)) cs (partsL k ls) = some ((cs.toList.take (k * K) ++ ls.flatten ++ cs.toList.drop ((k + ls.length) * K)).toArray)
 | [], k, cs, _, _ => by
  rw [List.flatten_nil, List.append_nil, List.length_nil, Nat.add_zero, List.take_append_drop]
  rfl
 | l :: r, k, cs, hl, h => by
  have hll : l.length = K := hl l (by simp)
  have h2 : (k + 1 + r.length) * K ≤ cs.size := by rw [List.length_cons] at h; rwa [show k + 1 + r.length = k + (r.length + 1) by omega]
  have hk : k * K + K ≤ cs.size := by
   have := Nat.mul_le_mul_right K (show k + 1 ≤ k + 1 + r.length by omega)
   rw [Nat.add_mul k 1 K, Nat.one_mul] at this
   omega
  have e1 : (l.toArray.zipIdx.foldl (fun cs (p : Value × Nat) => cs.setIfInBounds (k * K + p.2) p.1) cs) = (cs.toList.take (k * K) ++ l ++ cs.toList.drop (k * K + K)).toArray := by
   have := set_all (k * K) l 0 cs (by rw [hll]; exact hk)
   rw [hll, Nat.add_zero] at this
   rw [← this, ← Array.foldl_toList, Array.toList_zipIdx]
  have hsz : (cs.toList.take (k * K) ++ l ++ cs.toList.drop (k * K + K)).toArray.size = cs.size := by
   simp only [List.size_toArray, List.length_append, List.length_take, List.length_drop, hll, Array.length_toList]
   omega
  show Instr.fill _ cs ((k, .agg l.toArray) :: partsL (k + 1) r) = _
  unfold Instr.fill
  have e0 : (Value.agg l.toArray).cells = l.toArray := rfl
  simp only [e0, List.size_toArray, hll]
  rw [if_neg (by simp; omega)]
  show Instr.fill _ (l.toArray.zipIdx.foldl (fun cs (p : Value × Nat) => cs.setIfInBounds (k * K + p.2) p.1) cs) (partsL (k + 1) r) = _
  rw [e1, fill_many K r (k + 1) _ (fun x hx => hl x (by simp [hx])) (by rw [hsz]; exact h2)]
  congr 1
  apply congrArg List.toArray
  have hA : (cs.toList.take (k * K)).length = k * K := by simp; omega
  have hA2 : (cs.toList.take (k * K) ++ l).length = (k + 1) * K := by rw [List.length_append, hA, hll, Nat.add_mul, Nat.one_mul]
  show List.take ((k + 1) * K) (cs.toList.take (k * K) ++ l ++ cs.toList.drop (k * K + K)) ++ r.flatten ++ List.drop ((k + 1 + r.length) * K) (cs.toList.take (k * K) ++ l ++ cs.toList.drop (k * K + K)) = _
  rw [List.take_append_of_le_length (by rw [hA2]; omega), List.take_of_length_le (by rw [hA2]; omega), List.drop_append, hA2, List.drop_of_length_le (by rw [hA2]; exact Nat.mul_le_mul_right K (by omega)), List.nil_append, List.drop_drop, List.flatten_cons, List.length_cons]; rw [List.append_assoc, List.append_assoc, List.append_assoc, List.append_assoc]
  congr 4
  have h5 : (k + 1) * K ≤ (k + 1 + r.length) * K := Nat.mul_le_mul_right K (by omega)
  have e5 : (k + (r.length + 1)) * K = (k + 1 + r.length) * K := by rw [show k + (r.length + 1) = k + 1 + r.length by omega]
  rw [e5]
  have e6 : (k + 1) * K = k * K + K := by rw [Nat.add_mul, Nat.one_mul]
  omega
def partsOf (k : Nat) (ss : List Sec) : List (Nat × Value) := partsL k (ss.map Sec.cells)
theorem cellsOf_flat (ss : List Sec) : (ss.map Sec.cells).flatten = cellsOf ss := by unfold cellsOf; rw [List.flatMap_def]
theorem fill_secs (ss : List Sec) (cs : Array Value) (h : ss.length * 256 = cs.size) : Instr.fill (fun i => some (i * 256, 256)) cs (partsOf 0 ss) = some (cellsOf ss).toArray := by
 have hf := fill_many 256 (ss.map Sec.cells) 0 cs (fun l hl => by obtain ⟨s, _, rfl⟩ := List.mem_map.1 hl; exact s.cells_len) (by rw [List.length_map, Nat.zero_add, h]; exact Nat.le_refl _)
 unfold partsOf
 rw [hf, cellsOf_flat, List.length_map, Nat.zero_mul, List.take_zero, List.nil_append, Nat.zero_add, List.drop_of_length_le (by rw [Array.length_toList, h]; exact Nat.le_refl _), List.append_nil]
theorem run_buildSecs (w : World) (ss : List Sec) (parts : Array (Nat × Value)) (n : Nat) (hn : n = ss.length) (h0 : 0 < n) (h1 : n ≤ 1000) (hp : parts.toList = partsOf 0 ss) :
  (Instr.buildSlice TL n parts).run Tryz.prog w = .ok (.slice (some ⟨w.heap.size, 0, none⟩) n n) (w.alloc (.cells (cellsOf ss).toArray TS)) := by
 obtain ⟨i, hi, hz, hs, _⟩ := info_parts info_sec; have hsz : i.size = 256 := hs; have hf := fill_secs ss ((Array.range (n * 256)).map ((Value.agg (sec Sec.zero)).cells[· % (Value.agg (sec Sec.zero)).cells.size]!)) (by rw [Array.size_map, Array.size_range, hn]); refine run_buildSlice w TL TS n parts _ i (.agg (sec Sec.zero)) Tryz.underlying44 hi hz ?_ ?_ ?_
 · rw [hsz]; omega
 · rw [hsz]; omega
 · rw [hsz, hp, hf]
theorem wp_buildSecs {o : Oper} {a : Act} {w : World} {K : Act → World → Prop} {Q : Exit → Act → World → Prop} (n : Nat) (parts : Array (Nat × Operand)) (ho : o.op = .buildSlice TL n parts) (ss : List Sec) (hn : n = ss.length) (h0 : 0 < n) (h1 : n ≤ 1000)
  (hp : (parts.map fun (i, x) => (i, a.eval x)).toList = partsOf 0 ss) (h : K (a.put o.dst (.slice (some ⟨w.heap.size, 0, none⟩) n n)) (w.alloc (.cells (cellsOf ss).toArray TS))) : o.wp Tryz.prog a w K Q := by
 unfold Oper.wp execOp
 simp only [ho, Sem.run_bind, run_buildSecs w ss _ n hn h0 h1 hp, Result.andThen_ok]
 exact h
theorem Row.lit (w : World) (ss : List Sec) (n : Nat) (hn : n = ss.length) (h1 : n ≤ 1000) : Row (w.alloc (.cells (cellsOf ss).toArray TS)) (.slice (some ⟨w.heap.size, 0, none⟩) n n) ss := by
 subst hn; refine ⟨cellsOf_len ss, .inr ⟨_, _, _, rfl, Nat.zero_le _, heap_alloc_new w _, Nat.le_refl _, by unfold maxLen; omega, by rw [List.size_toArray, cellsOf_len], ?_⟩⟩; rw [← cellsOf_len]; exact List.take_length
theorem app_sec {w : World} {v : Value} {ss ts : List Sec} {o : Oper} {a : Act} {K : Act → World → Prop} {Q : Exit → Act → World → Prop} (s x : Operand) (ho : o.op = .call { callee := .builtin .append, args := #[s, x], argTypes := #[TL, TL] })
  (hs : a.eval s = v) (hr : Row w v ss) {q m c : Nat} (hx : a.eval x = .slice (some ⟨q, 0, none⟩) m c) (hy : Row w (.slice (some ⟨q, 0, none⟩) m c) ts) (hm : m = ts.length) (hl : ss.length + m ≤ 500000000000)
  (h : ∀ v' w', Row w' v' (ss ++ ts) → w.grownBy w' v.ownBlock → (v'.ownBlock = v.ownBlock ∨ v'.ownBlock = some w.heap.size) → K (a.put o.dst v') w') : o.wp Tryz.prog a w K Q := by
 obtain ⟨i, hi, hz, hsz, hb⟩ := info_parts info_sec
 have hnews : ∀ j u, (cellsOf ts)[j]? = some u → w.cell? ((⟨q, 0, none⟩ : Addr).add j) = some u := by
  intro j u hj
  have hlt : j < ts.length * 256 := by rw [← cellsOf_len]; exact (List.getElem?_eq_some_iff.1 hj).1
  have hq : j / 256 < ts.length := by omega
  have e : j / 256 * 256 + j % 256 = j := Nat.div_add_mod' j 256; have hl := hy.lies (j / 256) hq (j % 256) u (by rw [← cellsOf_at ts (j / 256) hq (j % 256) (Nat.mod_lt _ (by omega)), e, hj]); rw [Addr.add_mid, Nat.zero_add]
  rwa [e] at hl
 obtain ⟨v', w', hrun, h1, h2, _, h3⟩ := run_append_own_at (P := Tryz.prog) w 0 TL o.type TS i (.agg (sec Sec.zero)) 256 256 Tryz.underlying44 hi hz hsz hb (sec_size _) (by omega) v ss.length (cellsOf ss) hr ⟨q, 0, none⟩ m c (cellsOf ts) (by rw [cellsOf_len, hm]) hnews (cellsOf_each ts) (by unfold maxLen; omega) (by omega) (Nat.zero_le _)
 unfold Oper.wp execOp
 simp only [ho, resolve, invoke, builtin, Sem.run_bind, Sem.run_pure, Result.andThen_ok, List.map_toArray, List.map_cons, List.map_nil, hs, hx, hrun]
 refine h v' w' ?_ h2 h3
 unfold Row
 rw [cellsOf_app, List.length_append, ← hm]; exact h1
theorem upd_loose {w : World} {b n : Nat} {D : DataW Value} {o : Oper} {a : Act} {K : Act → World → Prop} {Q : Exit → Act → World → Prop} (m x v : Operand) (ho : o.op = .mapUpdate TM m x v) (hm : a.eval m = .map (some b)) (i : Nat) (hi : i < 65536) (hx : a.eval x = .int .i64 (i : Int)) (u : Value) (hv : a.eval v = u)
  (hown : w.ownsMap Tryz.prog TI eltR b n D) (hn : n < maxLen)
  (h : ∀ w', w'.ownsMap Tryz.prog TI eltR b (n + 1) (D.put (key i) (.held u)) → w.grownBy w' (some b) → K (a.put o.dst undef) w') : o.wp Tryz.prog a w K Q := by
 obtain ⟨w', hrun, r1, r2⟩ := hown.update (t := TM) (e := TL) (int_keyed Tryz.underlying3) Tryz.underlying93 hn (key := .int .i64 (i : Int)) (val := u) (kl := key i) (d := .held u) (ps := []) (keyOf_int_mk Tryz.underlying3 (WalkArith.wf_i64 (by omega))) rfl
 unfold Oper.wp
 simp [execOp, ho, hm, hx, hv, hrun, Result.andThen]
 exact h _ r1 r2
end Go.Proofs.YtlijbgapkmfnaaaGreat
namespace Go.Proofs.YtlijbgapkmfnaaaGreat
open Go.RowKit Go.Maps
theorem wp_load_sec {op : Oper} {a : Act} {w : World} {K : Act → World → Prop} {Q : Exit → Act → World → Prop} (x : Operand) (ho : op.op = .load TS x) {b o : Nat} {s : Sec} (hc : w.rangeAt b o s.cells) (hx : a.eval x = .pointer (some ⟨b, o, none⟩))
  (h : K (a.put op.dst (.agg (sec s))) w) : op.wp Tryz.prog a w K Q :=
 wp_load_mid TS x ho b o hx s.cells _ hc under_sec rfl (by rw [s.cells_len]; exact size_sec) h
theorem Gr.new (w : World) (o : Obj) : Gr w (w.alloc o) := (Gr.refl w).alloc (Nat.le_refl _) o
theorem DkAt.neM {w : World} {F : Nat → Prop} {b : Nat} {lv : Value} {m : Nat} {L : Nat → Value} {s : St} (h : DkAt w F b lv m L s) : b ≠ m := fun e => by
 subst e; obtain ⟨D, n, ⟨es, c, h1, _⟩, _⟩ := h.map; have h2 := h.blk
 unfold Blk at h2
 rw [h1] at h2
 cases h2
theorem row_ne {w : World} {g b m : Nat} {v : Value} {ss : List Sec} {cs : Array Value} {n : Nat} {D : DataW Value} (h : Row w v ss) (hg : v.ownBlock = some g) (hb : Blk w b TD cs) (hm : w.ownsMap Tryz.prog TI eltR m n D) : g ≠ b ∧ g ≠ m := by
 obtain ⟨cur, hk⟩ := h.kind hg
 constructor
 ·
  intro e
  subst e
  unfold Blk at hb
  rw [hk] at hb
  simp only [Option.some.injEq, Obj.cells.injEq] at hb
  exact absurd hb.2.1 (by decide)
 ·
  intro e
  subst e; obtain ⟨es, c, h1, _⟩ := hm
  rw [hk] at h1
  cases h1
def Gw (u : Value) (i : Nat) (w w' : World) : Prop := cond (i == 13) (w.grownBy w' u.ownBlock) (cond (i == 14) True (Gr w w'))
def Sw (W0 : World) (b m i bx : Nat) (x : Sec) (u : Value) (ss : List Sec) (d : Nat) (v : Value) (w : World) : Prop :=
 match d with
 | 38 | 39 | 43 | 44 => v = .pointer (some ⟨b, 0, none⟩)
 | 40 | 45 => v = .pointer (some ⟨b, 1, none⟩)
 | 41 | 46 => v = .map (some m)
 | 42 | 47 => v = .int .i64 (i : Int)
 | 48 => v = u ∧ Row w u ss
 | 49 => v = .agg (sec x)
 | 50 => ∃ q, v = .slice (some ⟨q, 0, none⟩) 1 1 ∧ Row w (.slice (some ⟨q, 0, none⟩) 1 1) [x]
 | 51 => Row w v (ss ++ [x]) ∧ (v.ownBlock = u.ownBlock ∨ ∃ g, v.ownBlock = some g ∧ W0.heap.size ≤ g)
 | _ => True
theorem Sw.kept {W0 : World} {b m i bx : Nat} {x : Sec} {u : Value} {ss : List Sec} (d : Nat) (v : Value) (w w' : World) (h : Sw W0 b m i bx x u ss d v w) (g : Gr w w') : Sw W0 b m i bx x u ss d v w' := by
 unfold Sw at h ⊢
 split <;> simp only at h
 all_goals first
  | exact h
  | exact ⟨h.1, Row.gr h.2 g⟩
  | exact (let ⟨q, h1, h2⟩ := h; ⟨q, h1, Row.gr h2 g⟩)
  | exact ⟨Row.gr h.1 g, h.2⟩
theorem Sw.any {W0 : World} {b m i bx : Nat} {x : Sec} {u : Value} {ss : List Sec} (d : Nat) (hd : d ∈ [38, 39, 40, 41, 42]) (v : Value) (w w' : World) (h : Sw W0 b m i bx x u ss d v w) : Sw W0 b m i bx x u ss d v w' := by
 simp only [List.mem_cons, List.not_mem_nil, or_false] at hd
 rcases hd with rfl | rfl | rfl | rfl | rfl <;> exact h
def Fw (W0 : World) (m i : Nat) (x : Sec) (u : Value) (ss : List Sec) (n : Nat) (D : DataW Value) (w : World) : Prop :=
 ∃ v w1, Row w1 v (ss ++ [x]) ∧ W0.grownBy w1 u.ownBlock ∧ (v.ownBlock = u.ownBlock ∨ ∃ g, v.ownBlock = some g ∧ W0.heap.size ≤ g) ∧ w.ownsMap Tryz.prog TI eltR m (n + 1) (D.put (key i) (.held v)) ∧ w1.grownBy w (some m)
theorem key_lit (i : Nat) : WideAt.IsKeyLit (key i) := True.intro
theorem key_inj {i j : Nat} (h : key i = key j) : i = j := by
 unfold key at h
 simp only [Lit.int.injEq, true_and] at h
 omega
set_option maxHeartbeats 1000000 in
theorem DkAt.wrote {w0 w : World} {F : Nat → Prop} {b : Nat} {lv : Value} {m : Nat} {L : Nat → Value} {s : St} (h : DkAt w0 F b lv m L s) (i : Nat) (hi : i < s.ls.length) (x : Sec) {n : Nat} {D : DataW Value} (ho : w0.ownsMap Tryz.prog TI eltR m n D) (hn : n ≤ 65536 + s.writes)
  (hat : ∀ i, i < s.ls.length → D.atKey (key i) (.held nilS) = .held (L i)) (hhas : ∀ i, i < s.ls.length → (has D (key i) = true ↔ s.t i ≠ [])) (hkeys : ∀ k, has D k = true → ∃ i, i < s.ls.length ∧ k = key i) (hf : Fw w0 m i x (L i) (s.t i) n D w) :
  ∃ F' L', DkAt (w.setCell ⟨b, 4, none⟩ (.int .i64 ((s.writes + 1 : Nat) : Int))) F' b lv m L' { s with t := fun j => if j = i then s.t i ++ [x] else s.t j, writes := s.writes + 1 } ∧ Upd F F' w0 (w.setCell ⟨b, 4, none⟩ (.int .i64 ((s.writes + 1 : Nat) : Int))) ∧
   w.cell? ⟨b, 4, none⟩ = some (.int .i64 (s.writes : Int)) ∧ w.frozen? ⟨b, 4, none⟩ = false := by
 obtain ⟨v, w1, r1, g1, l1, ho2, g2⟩ := hf; have hbm := h.neM; have hmL := h.low m h.ownM; have hbL := h.low b h.ownB
 have e1 : ∀ k, F k → (L i).ownBlock ≠ some k → w1.heap[k]? = w0.heap[k]? := fun k hk hne => g1.block k (h.low k hk) (fun e => hne e.symm)
 have e2 : ∀ k, F k → (L i).ownBlock ≠ some k → k ≠ m → w.heap[k]? = w0.heap[k]? := fun k hk hne hm => (g2.block k (Nat.lt_of_lt_of_le (h.low k hk) g1.size) (fun e => hm (by cases e; rfl))).trans (e1 k hk hne)
 have hbi : (L i).ownBlock ≠ some b := fun e => (row_ne (h.rows i) e h.blk ho).1 rfl
 have hmi : (L i).ownBlock ≠ some m := fun e => (row_ne (h.rows i) e h.blk ho).2 rfl
 have hblk : Blk w b TD #[lv, .map (some m), .int .i64 s.fuse, .bool s.dead, .int .i64 (s.writes : Int)] := h.blk.stays (e2 b h.ownB hbi hbm)
 have hvm : ∀ g, v.ownBlock = some g → g ≠ m ∧ g ≠ b := fun g hg => by
  have hb1 : Blk w1 b TD #[lv, .map (some m), .int .i64 s.fuse, .bool s.dead, .int .i64 (s.writes : Int)] := h.blk.stays (e1 b h.ownB hbi); have := row_ne r1 hg hb1 (ownsMap_stays ho (e1 m h.ownM hmi)); exact ⟨this.2, this.1⟩
 have hrow : Row w v (s.t i ++ [x]) := r1.stays fun g hg => g2.block g (r1.lt g hg) (fun e => (hvm g hg).1 (by cases e; rfl))
 have hsz : w0.heap.size ≤ w.heap.size := Nat.le_trans g1.size g2.size
 have hset : ∀ k, k ≠ b → (w.setCell ⟨b, 4, none⟩ (.int .i64 ((s.writes + 1 : Nat) : Int))).heap[k]? = w.heap[k]? := fun k hk => Below.heap_setCell w _ _ k hk
 have hss : (w.setCell ⟨b, 4, none⟩ (.int .i64 ((s.writes + 1 : Nat) : Int))).heap.size = w.heap.size := by simp [World.setCell]
 have hlvne : ∀ g, lv.ownBlock = some g → (L i).ownBlock ≠ some g := fun g hg e => h.apart0 i g e hg
 have hlvb : ∀ g, lv.ownBlock = some g → g ≠ b ∧ g ≠ m := fun g hg => row_ne h.ls hg h.blk ho
 have hnew : ∀ g, v.ownBlock = some g → ¬ (∃ j, j ≠ i ∧ (L j).ownBlock = some g) ∧ lv.ownBlock ≠ some g := fun g hg => by
  rcases l1 with e | ⟨g', e, hge⟩
  ·
   rw [hg] at e
   exact ⟨fun ⟨j, hj, e2⟩ => hj (h.apart j i g e2 e.symm), fun e2 => h.apart0 i g e.symm e2⟩
  ·
   rw [hg] at e
   cases e
   refine ⟨fun ⟨j, hj, e2⟩ => ?_, fun e2 => ?_⟩
   · have := (h.rows j).lt _ e2; omega
   · have := h.ls.lt _ e2; omega
 refine ⟨fun k => F k ∨ v.ownBlock = some k, fun j => if j = i then v else L j, ⟨?_, ?_, ?_, ?_, ?_, ?_, ?_, .inl h.ownB, .inl h.ownM, fun g hg => .inl (h.ownL g hg), ?_, ?_⟩, ?_, ?_, ?_⟩
 ·
  refine ⟨h.ok.pos, h.ok.most, fun j hj => ?_, fun j => ?_, h.ok.lo, h.ok.hi⟩
  ·
   show (if j = i then _ else _) = _
   rw [if_neg (by have : s.ls.length ≤ j := hj; omega)]; exact h.ok.out j hj
  ·
   show (if j = i then _ else _ : List Sec).length ≤ s.writes + 1
   have := h.ok.less j; have := h.ok.less i
   split
   · simp; omega
   · omega
 ·
  have := hblk.set 4 (.int .i64 ((s.writes + 1 : Nat) : Int))
  simpa using this
 · exact h.ls.stays fun g hg => (hset g (hlvb g hg).1).trans (e2 g (h.ownL g hg) (hlvne g hg) (hlvb g hg).2)
 ·
  refine ⟨D.put (key i) (.held v), n + 1, ownsMap_stays ho2 (hset m (fun e => hbm e.symm)), by show n + 1 ≤ 65536 + (s.writes + 1); omega, fun j hj => ?_, fun j hj => ?_, fun k hk => ?_⟩
  ·
   by_cases hji : j = i
   ·
    subst hji
    show _ = DataW.held (if j = j then v else L j)
    rw [if_pos rfl]; exact atKey_put_same ho.isMap (key_lit j) _ _
   ·
    show _ = DataW.held (if j = i then v else L j)
    rw [if_neg hji, atKey_put_other (fun e => hji (key_inj e))]; exact hat j hj
  ·
   by_cases hji : j = i
   ·
    subst hji; refine ⟨fun _ => ?_, fun _ => has_put_same ho.isMap (key_lit j) _⟩
    simp
   ·
    rw [has_put_other (fun e => hji (key_inj e))]
    simp only [if_neg hji]
    exact hhas j hj
  ·
   by_cases hki : k = key i
   · exact ⟨i, hi, hki⟩
   ·
    rw [has_put_other hki] at hk
    exact hkeys k hk
 ·
  intro j
  by_cases hji : j = i
  ·
   subst hji
   simp only [if_pos]
   exact hrow.stays fun g hg => hset g (hvm g hg).2
  ·
   simp only [if_neg hji]
   refine (h.rows j).stays fun g hg => ?_
   have := row_ne (h.rows j) hg h.blk ho; exact (hset g this.1).trans (e2 g (h.ownR j g hg) (fun e => hji (h.apart j i g hg e)) this.2)
 ·
  intro j k g hj hk
  by_cases hji : j = i <;> by_cases hki : k = i
  · rw [hji, hki]
  ·
   simp only [if_pos hji, if_neg hki] at hj hk
   exact absurd ⟨k, hki, hk⟩ (hnew g hj).1
  ·
   simp only [if_neg hji, if_pos hki] at hj hk
   exact absurd ⟨j, hji, hj⟩ (hnew g hk).1
  ·
   simp only [if_neg hji, if_neg hki] at hj hk
   exact h.apart j k g hj hk
 ·
  intro j g hj
  by_cases hji : j = i
  ·
   simp only [if_pos hji] at hj
   exact (hnew g hj).2
  ·
   simp only [if_neg hji] at hj
   exact h.apart0 j g hj
 ·
  intro j g hj
  by_cases hji : j = i
  ·
   simp only [if_pos hji] at hj
   exact .inr hj
  ·
   simp only [if_neg hji] at hj
   exact .inl (h.ownR j g hj)
 ·
  rintro k (hk | hk)
  · rw [hss]; exact Nat.lt_of_lt_of_le (h.low k hk) hsz
  · rw [hss]; exact hrow.lt k hk
 ·
  refine ⟨g2.os.trans g1.os, g2.tape.trans g1.tape, g2.output.trans g1.output, by rw [hss]; exact hsz, fun k hk hF => ?_, fun k hk => ?_⟩
  ·
   have hkb : k ≠ b := fun e => hF (by rw [e]; exact h.ownB)
   have hkm : k ≠ m := fun e => hF (by rw [e]; exact h.ownM)
   have hki : (L i).ownBlock ≠ some k := fun e => hF (h.ownR i k e)
   exact (hset k hkb).trans ((g2.block k (Nat.lt_of_lt_of_le hk g1.size) (fun e => hkm (by cases e; rfl))).trans (g1.block k hk (fun e => hki e.symm)))
  ·
   rcases hk with hk | hk
   · exact .inl hk
   ·
    rcases l1 with e | ⟨g', e, hge⟩
    · exact .inl (h.ownR i k (e ▸ hk))
    · rw [hk] at e; cases e; exact .inr hge
 · exact hblk.cell 4
 · exact hblk.frozen 4
def Chg (F : Nat → Prop) (p : Value) (s : St) (v : Value) (w : World) (e : Ending) (w' : World) : Prop := ∃ F', e = .returned v ∧ Dk w' F' p s ∧ Upd F F' w w'
def Mw (w wx : World) (F : Nat → Prop) (b : Nat) (lv : Value) (m : Nat) (L : Nat → Value) (s : St) (x : Sec) : Prop :=
 DkAt wx F b lv m L { s with fuse := if 0 < s.fuse then s.fuse - 1 else s.fuse } ∧ Blk wx w.heap.size TS (sec x) ∧ Upd F F w wx ∧ w.heap.size < wx.heap.size
def ChgM (F : Nat → Prop) (b : Nat) (lv : Value) (m : Nat) (s : St) (v : Value) (w : World) (e : Ending) (w' : World) : Prop := ∃ F' L', e = .returned v ∧ DkAt w' F' b lv m L' s ∧ Upd F F' w w'
set_option maxRecDepth 100000 in
set_option maxHeartbeats 4000000 in
theorem Write_yesM {F : Nat → Prop} {b : Nat} {lv : Value} {m : Nat} {L : Nat → Value} {s : St} (w : World) (h : DkAt w F b lv m L s) (i : Nat) (hi : i < s.ls.length) (x : Sec) (hr : ¬ s.refuses) (hw : s.writes ≤ 1000000000) : Calls Tryz.prog 13 #[.pointer (some ⟨b, 0, none⟩), .int .i64 (i : Int), .agg (sec x)] w fun e w' => ChgM F b lv m (s.wrote i x) (.int .i64 0) w e w' := by
 have hz : s.fuse ≠ 0 := fun e => hr (.inl e)
 have hd : s.dead = false := by
  cases hq : s.dead with
  | false => rfl
  | true => exact absurd (.inr hq) hr
 have hg : Gr w (w.alloc (.cells (sec x) TS)) := (Gr.refl w).alloc (Nat.le_refl _) _; have h' := h.gr hg; have ha := asked_any _ h' (i : Int)
 have he : askE s.ls.length (i : Int) = 0 := by unfold askE; rw [if_neg (by omega)]
 rw [he] at ha
 have HA := Lib.hid ha; obtain ⟨h0, h1, h2, h3, h4⟩ := h'.cells; have hf := h'.blk.frozen 2
 rw [hd] at h3
 have hz2 : (s.fuse == 0) = false := by simpa using hz
 have hlo := h.ok.lo; have hhi := h.ok.hi; have HX0 := Lib.hid (Blk.new w TS (sec x)); have HLow : Hid (¬ F w.heap.size) := Lib.hid (fun e => by have := h.low _ e; omega); have HU0 := Lib.hid (Upd.of_gr (F := F) hg); have HD : Hid (DkAt (w.alloc (.cells (sec x) TS)) F b lv m L s) := Lib.hid h'; have HWr : Hid (s.writes ≤ 1000000000) := Lib.hid hw; have HIl : Hid (i < s.ls.length) := Lib.hid hi; have HB := Lib.hid (h'.blk.set 2 (.int .i64 (s.fuse - 1)))
 have HD2 : Hid (0 < s.fuse → DkAt ((w.alloc (.cells (sec x) TS)).setCell ⟨b, 2, none⟩ (.int .i64 (s.fuse - 1))) F b lv m L { s with fuse := s.fuse - 1 }) := Lib.hid fun hp =>
  h'.block (s' := { s with fuse := s.fuse - 1 }) ⟨h.ok.pos, h.ok.most, h.ok.out, h.ok.less, by show -9223372036854775808 ≤ s.fuse - 1; omega, by show s.fuse - 1 ≤ 9223372036854775807; omega⟩ rfl rfl (Nat.le_refl _) (by simpa using HB.out) (fun k _ hk => Below.heap_setCell _ _ _ k hk) (by simp [World.setCell])
 have HU2 := Lib.hid (Upd.trans (Upd.of_gr (F := F) hg) (upd_cell (w := w.alloc (.cells (sec x) TS)) (i := 2) h.ownB (.int .i64 (s.fuse - 1))))
 have hnb : w.heap.size ≠ b := fun e => HLow.out (by rw [e]; exact h.ownB)
 have HX2 : Hid (Blk ((w.alloc (.cells (sec x) TS)).setCell ⟨b, 2, none⟩ (.int .i64 (s.fuse - 1))) w.heap.size TS (sec x)) := Lib.hid (HX0.out.far (by simpa using hnb) _); have HBx : Hid (w.heap.size < (w.alloc (.cells (sec x) TS)).heap.size) := Lib.hid (by simp); clear h h' ha he hi hr h0 h1 h4 hd hw HB hz hg hnb
 go_enter Tryz.func13, Tryz.ntmps13
 go_wp2_with fail; refine HA.out.mono ?_; rintro e w1 ⟨rfl, rfl⟩
 go_upto_if 30 with fail
 go_cut [31] (fun s31 wx => Mw w wx F b lv m L s x)
 case first =>
  by_cases hp : 0 < s.fuse
  ·
   go_wp2
   go_meet
   exact ⟨by rw [if_pos hp]; exact HD2.out hp, HX2.out, HU2.out, by simp [World.setCell]⟩
  ·
   go_wp2
   go_meet
   exact ⟨by rw [if_neg (by omega)]; exact HD.out, HX0.out, HU0.out, HBx.out⟩
 case rest =>
  obtain ⟨w0, hw0⟩ : ∃ w0, w0 = w := ⟨_, rfl⟩; subst hw0; clear HA HX0 HU0 HD HU2 HX2 HBx HD2 h2 h3 hf hz2 hlo hhi; obtain ⟨hd, hx, hu, hlt⟩ := hcut; obtain ⟨f', hff⟩ : ∃ f', f' = (if 0 < s.fuse then s.fuse - 1 else s.fuse) := ⟨_, rfl⟩
  have hfin : s.wrote i x = { ls := s.ls, t := (fun j => if j = i then s.t i ++ [x] else s.t j), fuse := f', dead := s.dead, writes := s.writes + 1 } := by unfold St.wrote; rw [hff]
  have HFin := Lib.hid hfin
  rw [← hff] at hd
  clear hfin hff; have HDk := Lib.hid hd; have HU := Lib.hid hu; obtain ⟨D, n, ho, hn, hat, hhas, hkeys⟩ := hd.map; have HMap := Lib.hid (And.intro ho (And.intro hn (And.intro hat (And.intro hhas hkeys)))); obtain ⟨u, hu1⟩ : ∃ u, u = L i := ⟨_, rfl⟩; obtain ⟨ss, hss⟩ : ∃ ss, ss = s.t i := ⟨_, rfl⟩
  have hrow : Row wc u ss := by rw [hu1, hss]; exact hd.rows i
  have hub : ∀ g, u.ownBlock = some g → g ≠ b ∧ g ≠ m := fun g hg => row_ne hrow hg hd.blk ho
  have hux : u.ownBlock ≠ some w0.heap.size := fun e => HLow.out (hd.ownR i _ (by rw [← hu1]; exact e))
  have hmlt := hd.low m hd.ownM; have hblt := hd.low b hd.ownB; have hmost := hd.ok.most; have hless := hd.ok.less i
  have HC : Hid (∀ W, wc.grownBy W u.ownBlock → W.cell? ⟨b, 1, none⟩ = some (.map (some m))) := Lib.hid fun W h => (World.cell?_of_block (h.block b hblt fun e => (hub b e.symm).1 rfl)).trans (hd.blk.cell 1)
  have HO : Hid (∀ W, wc.grownBy W u.ownBlock → W.ownsMap Tryz.prog TI eltR m n D) := Lib.hid fun W h => ownsMap_stays ho (h.block m hmlt fun e => (hub m e.symm).2 rfl)
  have HK : Hid (∀ W, wc.grownBy W u.ownBlock → (Instr.lookup TM (.map (some m)) (.int .i64 (i : Int)) false).run Tryz.prog W = .ok u W) := Lib.hid fun W h => by
   rw [hu1]; exact Loose.look (q := 65536 + s.writes) (t := s.t) ⟨D, n, HO.out W h, hn, hat, hhas, hkeys⟩ i HIl.out hmost
  have HR : Hid (∀ W, Gr wc W → Row W u ss) := Lib.hid fun W h => hrow.gr h
  have HX : Hid (∀ W, wc.grownBy W u.ownBlock → W.rangeAt w0.heap.size 0 x.cells) := Lib.hid fun W h => (hx.stays (h.block _ hlt fun e => hux e.symm)).one
  have HL : Hid (ss.length + 1 ≤ 500000000000) := Lib.hid (by rw [hss]; have := HWr.out; show _ ≤ _; have h2 : (s.t i).length ≤ s.writes := hless; omega); have HI : Hid (i < 65536) := Lib.hid (by have := HIl.out; have h2 : s.ls.length ≤ 65536 := hmost; omega); have HN : Hid (n < maxLen) := Lib.hid (by have := HWr.out; have h2 : n ≤ 65536 + s.writes := hn; unfold maxLen; omega); have HUss := Lib.hid (And.intro hu1 hss); have hwr : s.writes ≤ 1000000000 := HWr.out; clear hd hx hu hlt ho hn hat hhas hkeys hrow hub hux hmlt hblt hmost hless hu1 hss; go_wp2_with fail; refine Flow.regionZ 14 13 (by kernel_rfl) [] 16 (Sw wc b m i w0.heap.size x u ss) (fun W => wc.grownBy W u.ownBlock) (Fw wc m i x u ss n D) (Gr wc) (Gw u) (by kernel_rfl) (by kernel_rfl) (by kernel_rfl) ?mono ⟨rfl, rfl, rfl, Nat.le_refl _, fun _ _ _ => rfl⟩ ⟨rfl, rfl, rfl, Nat.le_refl _, fun _ _ => rfl⟩ ?steps ?fin
  case mono =>
   intro i d v w w' hb hs hg
   by_cases h13 : i = 13
   · subst h13; exact Sw.any d (Flow.bears2_only [38, 39, 40, 41, 42] (by kernel_rfl) hb) v w w' hs
   ·
    by_cases h14 : i = 14
    ·
     subst h14; have := Flow.bears2_only [] (by kernel_rfl) hb
     cases this
    ·
     have e1 : (i == 13) = false := by simpa using h13
     have e2 : (i == 14) = false := by simpa using h14
     unfold Gw at hg
     rw [e1, e2] at hg
     exact Sw.kept d v w w' hs hg
  case fin =>
   intro a W hfr hfin hsl
   clear hsl; have e := Flow.frame hfr [38, 39, 40, 41, 42, 43, 44, 45, 46, 47, 48, 49, 50, 51] (List.range 59) (by kernel_rfl) (by kernel_rfl)
   simp [List.range, List.range.loop] at e
   rw [e]; clear e hfr; have hdk := HDk.out; obtain ⟨h1, h2, h3, h4, h5⟩ := HMap.out
   rw [HUss.out.1, HUss.out.2] at hfin
   obtain ⟨F', L', hD, hUp, hc4, hf4⟩ := hdk.wrote i HIl.out x h1 h2 h3 h4 h5 hfin; have HD := Lib.hid hD; have HUp := Lib.hid hUp
   simp only at hc4
   clear HMap HUss HDk HC HO HK HR HX HL HI HN hfin hdk h1 h2 h3 h4 h5 hD hUp
   rename_i K hK
   refine hK _ _ ?_
   have hw9 : (s.writes : Int) ≤ 1000000000 := by omega
   go_wp2
   go_ret
   exact ⟨F', L', rfl, by rw [HFin.out]; exact HD.out, HU.out.trans HUp.out⟩
  case steps =>
   refine .cons (fun a W hfr hinv hear hdep K hK => ?_) ?_
   · have t0 := tAt (.pointer (some ⟨b, 0, none⟩)) (hfr.at 0 (by kernel_rfl)); refine fW0 rfl ?_; clear hfr hdep hear; go_simp; exact hK _ _ (show Gr W W from Gr.refl W) hinv (fun h => h) (dsT rfl)
   refine .cons (fun a W hfr hinv hear hdep K hK => ?_) ?_
   · have t38 := tAt (.pointer (some ⟨b, 0, none⟩)) (hdep 38 (by kernel_rfl)); refine fW0 rfl ?_; clear hfr hdep hear; go_simp; exact hK _ _ (show Gr W W from Gr.refl W) hinv (fun h => h) (dsT rfl)
   refine .cons (fun a W hfr hinv hear hdep K hK => ?_) ?_
   · have t39 := tAt (.pointer (some ⟨b, 0, none⟩)) (hdep 39 (by kernel_rfl)); refine fW0 rfl ?_; clear hfr hdep hear; go_simp; exact hK _ _ (show Gr W W from Gr.refl W) hinv (fun h => h) (dsT rfl)
   refine .cons (fun a W hfr hinv hear hdep K hK => ?_) ?_
   · have t40 := tAt (.pointer (some ⟨b, 1, none⟩)) (hdep 40 (by kernel_rfl)); have hc := HC.out W hinv; refine fW0 rfl ?_; clear hfr hdep hear; go_simp; exact hK _ _ (show Gr W W from Gr.refl W) hinv (fun h => h) (dsT rfl)
   refine .cons (fun a W hfr hinv hear hdep K hK => ?_) ?_
   · have t1 := tAt (.int .i64 (i : Int)) (hfr.at 1 (by kernel_rfl)); refine fW0 rfl ?_; clear hfr hdep hear; go_simp; exact hK _ _ (show Gr W W from Gr.refl W) hinv (fun h => h) (dsT rfl)
   refine .cons (fun a W hfr hinv hear hdep K hK => ?_) ?_
   · have t0 := tAt (.pointer (some ⟨b, 0, none⟩)) (hfr.at 0 (by kernel_rfl)); refine fW0 rfl ?_; clear hfr hdep hear; go_simp; exact hK _ _ (show Gr W W from Gr.refl W) hinv (fun h => h) (dsT rfl)
   refine .cons (fun a W hfr hinv hear hdep K hK => ?_) ?_
   · have t43 := tAt (.pointer (some ⟨b, 0, none⟩)) (hdep 43 (by kernel_rfl)); refine fW0 rfl ?_; clear hfr hdep hear; go_simp; exact hK _ _ (show Gr W W from Gr.refl W) hinv (fun h => h) (dsT rfl)
   refine .cons (fun a W hfr hinv hear hdep K hK => ?_) ?_
   · have t44 := tAt (.pointer (some ⟨b, 0, none⟩)) (hdep 44 (by kernel_rfl)); refine fW0 rfl ?_; clear hfr hdep hear; go_simp; exact hK _ _ (show Gr W W from Gr.refl W) hinv (fun h => h) (dsT rfl)
   refine .cons (fun a W hfr hinv hear hdep K hK => ?_) ?_
   · have t45 := tAt (.pointer (some ⟨b, 1, none⟩)) (hdep 45 (by kernel_rfl)); have hc := HC.out W hinv; refine fW0 rfl ?_; clear hfr hdep hear; go_simp; exact hK _ _ (show Gr W W from Gr.refl W) hinv (fun h => h) (dsT rfl)
   refine .cons (fun a W hfr hinv hear hdep K hK => ?_) ?_
   · have t1 := tAt (.int .i64 (i : Int)) (hfr.at 1 (by kernel_rfl)); refine fW0 rfl ?_; clear hfr hdep hear; go_simp; exact hK _ _ (show Gr W W from Gr.refl W) hinv (fun h => h) (dsT rfl)
   refine .cons (fun a W hfr hinv hear hdep K hK => ?_) ?_
   · have t46 := tAt (.map (some m)) (hdep 46 (by kernel_rfl)); have t47 := tAt (.int .i64 (i : Int)) (hdep 47 (by kernel_rfl)); refine fW0 rfl ?_; clear hfr hdep; have hk := HK.out W hinv; have hr := HR.out W (Flow.early hear (by kernel_rfl)); clear hear; go_simp; exact hK _ _ (show Gr W W from Gr.refl W) hinv (fun h => h) (fun d hd => by cases hd; exact ⟨rfl, hr⟩)
   refine .cons (fun a W hfr hinv hear hdep K hK => ?_) ?_
   ·
    have s5 : a.tmps.getD 5 undef = .pointer (some ⟨w0.heap.size, 0, none⟩) := hfr.at 5 (by kernel_rfl)
    have t5 := tmpAt s5; refine fW0 rfl ?_; clear hfr hdep; refine wp_load_sec (.tmp 5) rfl (HX.out W hinv) (by simpa [Act.eval] using s5) ?_; exact hK _ _ (show Gr W W from Gr.refl W) hinv (fun h => h) (dsT rfl)
   refine .cons (fun a W hfr hinv hear hdep K hK => ?_) ?_
   · have t49 := tAt (.agg (sec x)) (hdep 49 (by kernel_rfl)); refine fW0 rfl ?_; clear hfr hdep; refine wp_buildSecs 1 #[(0, .tmp 49)] rfl [x] rfl (by omega) (by omega) (by simp [Act.eval, t49, partsOf, partsL, sec]) ?_; exact hK _ _ (show Gr W (W.alloc _) from Gr.new W _) (hinv.trans (World.grownBy_alloc W _ _)) (fun h => Gr.trans h (Gr.new W _)) (fun d hd => by cases hd; exact ⟨_, rfl, Row.lit W [x] 1 rfl (by omega)⟩)
   refine .cons (fun a W hfr hinv hear hdep K hK => ?_) ?_
   ·
    have s48 : ((a.tmps.getD 48 undef) = u ∧ Row W u ss) := hdep 48 (by kernel_rfl); have s50 : (∃ q, (a.tmps.getD 50 undef) = .slice (some ⟨q, 0, none⟩) 1 1 ∧ Row W (.slice (some ⟨q, 0, none⟩) 1 1) [x]) := hdep 50 (by kernel_rfl); refine fW0 rfl ?_; clear hfr hdep; obtain ⟨e48, r48⟩ := s48; obtain ⟨q, e50, r50⟩ := s50; refine app_sec (.tmp 48) (.tmp 50) rfl (by simpa [Act.eval] using e48) r48 (by simpa [Act.eval] using e50) r50 rfl HL.out ?_
    intro v' w' h1 h2 h3
    exact hK _ _ (show W.grownBy w' u.ownBlock from h2) (hinv.trans h2) True.intro (fun d hd => by cases hd; exact ⟨h1, h3.imp id fun h => ⟨_, h, hinv.size⟩⟩)
   refine .cons (fun a W hfr hinv hear hdep K hK => ?_) ?_
   ·
    have s41 : a.tmps.getD 41 undef = .map (some m) := hdep 41 (by kernel_rfl); have t41 := tmpAt s41; have s42 : a.tmps.getD 42 undef = .int .i64 (i : Int) := hdep 42 (by kernel_rfl); have t42 := tmpAt s42; have s51 : (Row W (a.tmps.getD 51 undef) (ss ++ [x]) ∧ ((a.tmps.getD 51 undef).ownBlock = u.ownBlock ∨ ∃ g, (a.tmps.getD 51 undef).ownBlock = some g ∧ wc.heap.size ≤ g)) := hdep 51 (by kernel_rfl); refine fW0 rfl ?_; clear hfr hdep; obtain ⟨r51, l51⟩ := s51; refine upd_loose (.tmp 41) (.tmp 42) (.tmp 51) rfl (by simpa [Act.eval] using s41) i HI.out (by simpa [Act.eval] using s42) _ rfl (HO.out W hinv) HN.out ?_
    intro w' h1 h2
    exact hK _ _ True.intro ⟨_, W, r51, hinv, l51, h1, h2⟩ True.intro (fun d hd => by cases hd)
   exact True.intro
theorem Write_yes {F : Nat → Prop} {p : Value} {s : St} (w : World) (h : Dk w F p s) (i : Nat) (hi : i < s.ls.length) (x : Sec) (hr : ¬ s.refuses) (hw : s.writes ≤ 1000000000) : Calls Tryz.prog 13 #[p, .int .i64 (i : Int), .agg (sec x)] w fun e w' => Chg F p (s.wrote i x) (.int .i64 0) w e w' := by
 obtain ⟨b, lv, m, L, rfl, h⟩ := h; refine (Write_yesM w h i hi x hr hw).mono ?_; rintro e w' ⟨F', L', rfl, hd, hu⟩; exact ⟨F', rfl, ⟨_, _, _, _, rfl, hd⟩, hu⟩
end Go.Proofs.YtlijbgapkmfnaaaGreat
namespace Go.Proofs.YtlijbgapkmfnaaaGreat
open Go.Shelf
def Shl.keysA_ren : Go.Shelf.Ren := ⟨fun | 7 => 82 | 10 => 100 | n => n, fun | 23 => 93 | 26 => 3 | 3 => 44 | 28 => 135 | 0 => 0 | 27 => 134 | 33 => 89 | 4 => 4 | n => n, fun | n => n⟩
theorem Shl.keysA : Go.Proofs.SlLaysZI.n7 Tryz.prog Shl.keysA_ren := {
 mixed := by kernel_rfl
 f7 := ⟨Tryz.f82.name, by decide, Tryz.func82.trans (congrArg some (by kernel_rfl))⟩
 f10 := ⟨Tryz.f100.name, by decide, Tryz.func100.trans (congrArg some (by kernel_rfl))⟩
 t0 := Tryz.underlying0
 a0 := Tryz.isAgg0
 z0 := Tryz.sizeOf0
 v0 := Tryz.zeroValue0
 t4 := Tryz.underlying4
 a4 := Tryz.isAgg4
 z4 := Tryz.sizeOf4
 v4 := Tryz.zeroValue4
 t23 := Tryz.underlying93
 a23 := Tryz.isAgg93
 z23 := Tryz.sizeOf93
 v23 := Tryz.zeroValue93
 t26 := Tryz.underlying3
 a26 := Tryz.isAgg3
 z26 := Tryz.sizeOf3
 v26 := Tryz.zeroValue3
 t27 := Tryz.underlying134
 a27 := Tryz.isAgg134
 z27 := Tryz.sizeOf134
 v27 := Tryz.zeroValue134
 t28 := Tryz.underlying135
 a28 := Tryz.isAgg135
 z28 := Tryz.sizeOf135
 v28 := Tryz.zeroValue135
 t33 := Tryz.underlying89
 a33 := Tryz.isAgg89
 z33 := Tryz.sizeOf89
 v33 := Tryz.zeroValue89 }
def Shl.sortedA_ren : Go.Shelf.Ren := ⟨fun | 6 => 81 | 8 => 98 | 9 => 99 | 11 => 116 | 13 => 118 | 12 => 117 | 23 => 139 | 24 => 140 | 14 => 130 | 15 => 131 | 16 => 132 | 17 => 133 | 18 => 134 | 19 => 135 | 20 => 136 | 21 => 137 | 22 => 138 | 25 => 149 | 26 => 150 | 27 => 151 | 28 => 152 | 29 => 153 | 30 => 154 | 31 => 155 | n => n, fun | 26 => 3 | 28 => 135 | 24 => 34 | 0 => 0 | 3 => 3 | 37 => 112 | 48 => 116 | 50 => 30 | 4 => 4 | 40 => 186 | 39 => 185 | 45 => 191 | 5 => 5 | 9 => 9 | 51 => 198 | 55 => 201 | 57 => 203 | 58 => 204 | 33 => 89 | n => n, fun | n => n⟩
theorem Shl.sortedA : Go.Proofs.SlLaysZI.n6 Tryz.prog Shl.sortedA_ren := {
 mixed := by kernel_rfl
 f6 := ⟨Tryz.f81.name, by decide, Tryz.func81.trans (congrArg some (by kernel_rfl))⟩
 f8 := ⟨Tryz.f98.name, by decide, Tryz.func98.trans (congrArg some (by kernel_rfl))⟩
 f11 := ⟨Tryz.f116.name, by decide, Tryz.func116.trans (congrArg some (by kernel_rfl))⟩
 t0 := Tryz.underlying0
 a0 := Tryz.isAgg0
 z0 := Tryz.sizeOf0
 v0 := Tryz.zeroValue0
 t24 := Tryz.underlying34
 a24 := Tryz.isAgg34
 z24 := Tryz.sizeOf34
 v24 := Tryz.zeroValue34
 t26 := Tryz.underlying3
 a26 := Tryz.isAgg3
 z26 := Tryz.sizeOf3
 v26 := Tryz.zeroValue3
 t28 := Tryz.underlying135
 a28 := Tryz.isAgg135
 z28 := Tryz.sizeOf135
 v28 := Tryz.zeroValue135
 i26 := by kernel_rfl }
def Shl.sortA_ren : Go.Shelf.Ren := ⟨fun | 5 => 99 | 8 => 118 | 7 => 117 | 19 => 139 | 20 => 140 | 10 => 130 | 11 => 131 | 12 => 132 | 13 => 133 | 14 => 134 | 15 => 135 | 16 => 136 | 17 => 137 | 18 => 138 | 30 => 149 | 31 => 150 | 32 => 151 | 33 => 152 | 34 => 153 | 35 => 154 | 40 => 155 | n => n, fun | 23 => 34 | 25 => 3 | 3 => 3 | 32 => 112 | 22 => 34 | 0 => 0 | 44 => 116 | 46 => 30 | 4 => 4 | 36 => 186 | 35 => 185 | 41 => 191 | 5 => 5 | 9 => 9 | 53 => 198 | 57 => 201 | 63 => 203 | 64 => 204 | n => n, fun | n => n⟩
theorem Shl.sortA : Go.Proofs.SlLaysM.n5 Tryz.prog Shl.sortA_ren := {
 mixed := by kernel_rfl
 f5 := ⟨Tryz.f99.name, by decide, Tryz.func99.trans (congrArg some (by kernel_rfl))⟩
 f7 := ⟨Tryz.f117.name, by decide, Tryz.func117.trans (congrArg some (by kernel_rfl))⟩
 f8 := Tryz.func118.trans (congrArg some (by kernel_rfl))
 f10 := ⟨Tryz.f130.name, by decide, Tryz.func130.trans (congrArg some (by kernel_rfl))⟩
 f11 := ⟨Tryz.f131.name, by decide, Tryz.func131.trans (congrArg some (by kernel_rfl))⟩
 f12 := ⟨Tryz.f132.name, by decide, Tryz.func132.trans (congrArg some (by kernel_rfl))⟩
 f13 := ⟨Tryz.f133.name, by decide, Tryz.func133.trans (congrArg some (by kernel_rfl))⟩
 f14 := ⟨Tryz.f134.name, by decide, Tryz.func134.trans (congrArg some (by kernel_rfl))⟩
 f15 := ⟨Tryz.f135.name, by decide, Tryz.func135.trans (congrArg some (by kernel_rfl))⟩
 f16 := ⟨Tryz.f136.name, by decide, Tryz.func136.trans (congrArg some (by kernel_rfl))⟩
 f17 := ⟨Tryz.f137.name, by decide, Tryz.func137.trans (congrArg some (by kernel_rfl))⟩
 f18 := ⟨Tryz.f138.name, by decide, Tryz.func138.trans (congrArg some (by kernel_rfl))⟩
 f19 := Tryz.func139.trans (congrArg some (by kernel_rfl))
 f20 := Tryz.func140.trans (congrArg some (by kernel_rfl))
 f30 := ⟨Tryz.f149.name, by decide, Tryz.func149.trans (congrArg some (by kernel_rfl))⟩
 f31 := Tryz.func150.trans (congrArg some (by kernel_rfl))
 f32 := Tryz.func151.trans (congrArg some (by kernel_rfl))
 f33 := ⟨Tryz.f152.name, by decide, Tryz.func152.trans (congrArg some (by kernel_rfl))⟩
 f34 := ⟨Tryz.f153.name, by decide, Tryz.func153.trans (congrArg some (by kernel_rfl))⟩
 f35 := ⟨Tryz.f154.name, by decide, Tryz.func154.trans (congrArg some (by kernel_rfl))⟩
 f40 := ⟨Tryz.f155.name, by decide, Tryz.func155.trans (congrArg some (by kernel_rfl))⟩
 t0 := Tryz.underlying0
 a0 := Tryz.isAgg0
 z0 := Tryz.sizeOf0
 v0 := Tryz.zeroValue0
 t3 := Tryz.underlying3
 a3 := Tryz.isAgg3
 z3 := Tryz.sizeOf3
 v3 := Tryz.zeroValue3
 t4 := Tryz.underlying4
 a4 := Tryz.isAgg4
 z4 := Tryz.sizeOf4
 v4 := Tryz.zeroValue4
 t5 := Tryz.underlying5
 a5 := Tryz.isAgg5
 z5 := Tryz.sizeOf5
 v5 := Tryz.zeroValue5
 t9 := Tryz.underlying9
 a9 := Tryz.isAgg9
 z9 := Tryz.sizeOf9
 v9 := Tryz.zeroValue9
 t22 := Tryz.underlying34
 a22 := Tryz.isAgg34
 z22 := Tryz.sizeOf34
 v22 := Tryz.zeroValue34
 t23 := Tryz.underlying34
 a23 := Tryz.isAgg34
 z23 := Tryz.sizeOf34
 v23 := Tryz.zeroValue34
 t25 := Tryz.underlying3
 a25 := Tryz.isAgg3
 z25 := Tryz.sizeOf3
 v25 := Tryz.zeroValue3
 t32 := Tryz.underlying112
 a32 := Tryz.isAgg112
 z32 := Tryz.sizeOf112
 v32 := Tryz.zeroValue112
 t35 := Tryz.underlying185
 a35 := Tryz.isAgg185
 z35 := Tryz.sizeOf185
 v35 := Tryz.zeroValue185
 t36 := Tryz.underlying186
 a36 := Tryz.isAgg186
 z36 := Tryz.sizeOf186
 v36 := Tryz.zeroValue186
 t41 := Tryz.underlying191
 a41 := Tryz.isAgg191
 z41 := Tryz.sizeOf191
 v41 := Tryz.zeroValue191
 t44 := Tryz.underlying116
 a44 := Tryz.isAgg116
 z44 := Tryz.sizeOf116
 v44 := Tryz.zeroValue116
 t46 := Tryz.underlying30
 a46 := Tryz.isAgg30
 z46 := Tryz.sizeOf30
 v46 := Tryz.zeroValue30
 t53 := Tryz.underlying198
 a53 := Tryz.isAgg198
 z53 := Tryz.sizeOf198
 v53 := Tryz.zeroValue198
 t57 := Tryz.underlying201
 a57 := Tryz.isAgg201
 z57 := Tryz.sizeOf201
 v57 := Tryz.zeroValue201
 t63 := Tryz.underlying203
 a63 := Tryz.isAgg203
 z63 := Tryz.sizeOf203
 v63 := Tryz.zeroValue203
 t64 := Tryz.underlying204
 a64 := Tryz.isAgg204
 z64 := Tryz.sizeOf204
 v64 := Tryz.zeroValue204 }
end Go.Proofs.YtlijbgapkmfnaaaGreat
namespace Go.Proofs.YtlijbgapkmfnaaaGreat
open Go.RowKit Go.Maps Go.Sort Go.Shelf
def St.loose (s : St) : List Nat := (List.range s.ls.length).filter fun i => !(s.t i).isEmpty
theorem St.mem_loose {s : St} {i : Nat} : i ∈ s.loose ↔ i < s.ls.length ∧ s.t i ≠ [] := by
 unfold St.loose
 rw [List.mem_filter, List.mem_range]
 cases s.t i <;> simp
def Ints (w : World) (base : Nat) (v : Value) (xs : List Nat) : Prop := w.ownsRow base TI 1 v xs.length (xs.map fun (x : Nat) => Value.int .i64 (x : Int))
theorem keys_any (mb : Option Nat) (w : World) : Calls Tryz.prog 82 #[.map mb] w fun e w' => e = .returned (.func (.func 100) #[] #[.pointer (some ⟨w.heap.size, 0, none⟩)]) ∧ w.alloc (.cells #[.map mb] TM) = w' := by
 have h := (callsIn_wide (n := 5)).1 (AnyZI.keys_in Shl.keysA Fence.wide 5 trivial rfl mb w)
 exact Calls.mono (P := Tryz.prog) h fun e w' ⟨h1, h2⟩ => ⟨h1, h2.symm⟩
theorem sortsA (m : Nat) : AnyZI.SortsIn Tryz.prog Shl.sortedA_ren Fence.wide m :=
 ⟨fun blk off cap ss W hH hblk hsz => callsIn_wide.2 (AnyM.slices_Sort_int Shl.sortA blk off cap ss W hH hblk hsz),
  fun p cap W => callsIn_wide.2 (AnyM.slices_Sort_int_none Shl.sortA p cap W)⟩
theorem sorted_nats {xs : List Nat} (hp : xs.Pairwise (· < ·)) {D : DataW Value} {w : World} {b n : Nat} (hown : w.ownsMap Tryz.prog TI eltR b n D) (hm : ∀ x : Nat, x ∈ xs ↔ has D (key x) = true) (hk : ∀ k, has D k = true → ∃ x : Nat, k = key x) {ss : List Int} (hs : ss.Perm (intKeys D)) :
  (ss.mergeSort fun x y => decide (x ≤ y)) = xs.map fun (x : Nat) => (x : Int) := by
 obtain ⟨es, hD, hpw, hlit⟩ := hown.entries (int_keyed Tryz.underlying3); subst hD
 have hk2 : ∀ p ∈ es, ∃ x, p.1 = .int .i64 x := fun p hp => by
  obtain ⟨x, hx⟩ := hk p.1 (by rw [has_eq, List.any_eq_true]; exact ⟨p, hp, WideAt.sameKey_self (hlit p hp)⟩); exact ⟨_, hx⟩
 have hnd : (xs.map fun (x : Nat) => (x : Int)).Nodup := List.pairwise_map.2 (hp.imp fun h e => by omega)
 have hper : (xs.map fun (x : Nat) => (x : Int)).Perm (intKeys (.map es)) := perm_intKeys hpw hk2 hnd fun x => by
  rw [List.mem_map]
  constructor
  · rintro ⟨y, hy, rfl⟩; exact (hm y).1 hy
  ·
   intro h
   obtain ⟨y, hy⟩ := hk _ h
   unfold key at hy
   simp only [Lit.int.injEq, true_and] at hy
   subst hy; exact ⟨y, (hm y).2 h, rfl⟩
 have e1 : (ss.mergeSort fun x y => decide (x ≤ y)) = ((xs.map fun (x : Nat) => (x : Int)).mergeSort fun x y => decide (x ≤ y)) := mergeSort_of_perm_i (hs.trans hper.symm); rw [e1]; refine List.mergeSort_of_pairwise (List.pairwise_map.2 (hp.imp fun h => ?_))
 simp only [decide_eq_true_eq]
 omega
set_option maxHeartbeats 1000000 in
theorem sorted_any (B b nn : Nat) (D : DataW Value) (w : World) (hB : B < w.heap.size) (hm : w.cell? ⟨B, 0, none⟩ = some (.map (some b))) (hown : w.ownsMap Tryz.prog TI eltR b nn D) (hn : nn ≤ 10000000000) :
  Calls Tryz.prog 81 #[.func (.func 100) #[] #[.pointer (some ⟨B, 0, none⟩)]] w fun e w' => ∃ (v : Value) (ss : List Int), e = .returned v ∧ ss.Perm (intKeys D) ∧
   w'.ownsRow w.heap.size TI 1 v ss.length ((ss.mergeSort (fun x y => decide (x ≤ y))).map encZ) ∧ (v = .slice none 0 0 ↔ ss = []) ∧ Below w.heap.size w w' := by
 refine (callsIn_wide (n := 6)).1 ?_; have hsz := hown.size_le
 have hseq : SeqGives Fence.wide 3 Tryz.prog 100 #[.pointer (some ⟨B, 0, none⟩)] encZ (fun ss => ss.Perm (intKeys D)) (Maps.size D) w :=
  AnyZI.keys_gives (ρ := Shl.keysA_ren) { Shl.keysA with } Fence.wide _ trivial rfl (by omega) B b nn D w hB hm hown
 exact AnyZI.sorted_in Shl.sortedA Fence.wide 6 trivial trivial trivial trivial rfl (by omega) (sortsA _) (enters_of Tryz.func99 (by kernel_rfl) rfl) 100 #[.pointer (some ⟨B, 0, none⟩)] trivial (enters_of Tryz.func100 (by kernel_rfl) rfl) _ (Maps.size D) (by unfold maxLen; omega) (by omega) w hseq
def RetLoose (xs : List Nat) (w : World) (e : Ending) (w' : World) : Prop := ∃ v, e = .returned v ∧ Ints w' w.heap.size v xs ∧ Gr w w'
set_option maxRecDepth 100000 in
set_option maxHeartbeats 1000000 in
theorem Loose_any {F : Nat → Prop} {p : Value} {s : St} (w : World) (h : Dk w F p s) (hw : s.writes ≤ 1000000000) : Calls Tryz.prog 63 #[p] w fun e w' => RetLoose s.loose w e w' := by
 obtain ⟨b, lv, m, L, rfl, h⟩ := h; have HM := Lib.hid (missing_no w h); obtain ⟨h0, h1, h2, h3, h4⟩ := h.cells; obtain ⟨D, n, ho, hn, hat, hhas, hkeys⟩ := h.map; have hk : Gr w (w.alloc (.cells #[.map (some m)] TM)) := (Gr.refl w).alloc (Nat.le_refl _) _; have HS := Lib.hid (sorted_any w.heap.size m n D (w.alloc (.cells #[.map (some m)] TM)) (by simp) ((Blk.new w TM #[.map (some m)]).cell 0) (ho.alloc _) (by omega))
 have HO : Hid (∀ ss : List Int, ss.Perm (intKeys D) → (ss.mergeSort fun x y => decide (x ≤ y)) = s.loose.map fun (x : Nat) => (x : Int)) := Lib.hid fun ss hs =>
  sorted_nats (by unfold St.loose; exact List.Pairwise.filter _ List.pairwise_lt_range) ho (fun x => by
   rw [St.mem_loose]
   constructor
   ·
    intro ⟨hx, ht⟩
    exact (hhas x hx).2 ht
   ·
    intro hx
    obtain ⟨i, hi, e⟩ := hkeys _ hx; rw [key_inj e]
    rw [key_inj e] at hx
    exact ⟨hi, (hhas i hi).1 hx⟩) (fun k hk => let ⟨i, _, e⟩ := hkeys k hk; ⟨i, e⟩) hs
 have HG := Lib.hid hk; clear h h0 h2 h3 h4 ho hn hat hhas hkeys hk hw
 go_enter Tryz.func63, Tryz.ntmps63
 go_wp2_with fail; refine HM.out.mono ?_; rintro e w1 ⟨rfl, rfl⟩; go_wp2_with fail; refine (keys_any _ _).mono ?_; rintro e w1 ⟨rfl, rfl⟩; go_wp2_with fail; refine HS.out.mono ?_; rintro e w1 ⟨v, ss, rfl, hss, hrow, _, hb⟩; have HRow := Lib.hid hrow; have HB := Lib.hid (Gr.trans HG.out hb); have HE := Lib.hid (HO.out ss hss); have HLen : Hid (ss.length = s.loose.length) := Lib.hid (by have := congrArg List.length (HO.out ss hss); rw [List.length_mergeSort, List.length_map] at this; exact this); clear hrow hb hss HS HO HG; go_wp2_with fail
 go_ret
 refine ⟨_, rfl, ?_, HB.out⟩; have hr := HRow.out
 rw [HE.out, HLen.out, List.map_map] at hr
 unfold Ints
 obtain ⟨hr1, hr2⟩ := hr; refine ⟨hr1, hr2.imp id ?_⟩; rintro ⟨g, cap, cur, h1, h2, h3⟩; exact ⟨g, cap, cur, h1, by simp at h2; omega, h3⟩
end Go.Proofs.YtlijbgapkmfnaaaGreat
namespace Go.Proofs.YtlijbgapkmfnaaaGreat
open Go.RowKit Go.Maps
theorem app_secL {w : World} {ops : Array Oper} {rest : List Oper} {o : Oper} {a : Act} {Q : Exit → Act → World → Prop} {v : Value} {ss ts : List Sec} (hg : o.guard = none) (s x : Operand) (ho : o.op = .call { callee := .builtin .append, args := #[s, x], argTypes := #[TL, TL] })
  (hs : a.eval s = v) (hr : Row w v ss) {q m c : Nat} (hx : a.eval x = .slice (some ⟨q, 0, none⟩) m c) (hy : Row w (.slice (some ⟨q, 0, none⟩) m c) ts) (hm : m = ts.length) (hl : ss.length + m ≤ 500000000000)
  (h : ∀ v' w', Row w' v' (ss ++ ts) → w.grownBy w' v.ownBlock → (v'.ownBlock = v.ownBlock ∨ v'.ownBlock = some w.heap.size) → wpList Tryz.prog ops Q rest (a.put o.dst v') w') : wpList Tryz.prog ops Q (o :: rest) a w :=
 wpList_plain hg fun _ hK => app_sec s x ho hs hr hx hy hm hl fun v' w' h1 h2 h3 => hK _ _ (h v' w' h1 h2 h3)
def RetRow (ss : List Sec) (w : World) (e : Ending) (w' : World) : Prop := ∃ v, e = .returned v ∧ Row w' v ss ∧ (∀ g, v.ownBlock = some g → w.heap.size ≤ g) ∧ Gr w w'
set_option maxRecDepth 100000 in
set_option maxHeartbeats 1000000 in
theorem Clone_any (w : World) (v : Value) (ss : List Sec) (h : Row w v ss) (hne : ss ≠ []) (hl : ss.length ≤ 400000000000) : Calls Tryz.prog 62 #[v] w fun e w' => RetRow ss w e w' := by
 obtain ⟨g, c, rfl, hg, _⟩ := h.full hne; obtain ⟨n, hn⟩ : ∃ n, n = ss.length := ⟨_, rfl⟩
 rw [← hn] at h
 have hw : Gr w (w.alloc (.cells #[] TS)) := (Gr.refl w).alloc (Nat.le_refl _) _; have HR := Lib.hid (h.gr hw); have HE : Hid (Row (w.alloc (.cells #[] TS)) (.slice (some ⟨w.heap.size, 0, none⟩) 0 0) []) := Lib.hid ⟨rfl, .inr ⟨_, _, _, rfl, Nat.zero_le _, heap_alloc_new w _, Nat.le_refl _, Nat.zero_le _, by simp, by simp; rfl⟩⟩; have HN := Lib.hid hn; have HG := Lib.hid hw; have HL := Lib.hid (show ([] : List Sec).length + n ≤ 500000000000 by rw [hn]; simp; omega)
 have hq := fun w => Lib.run_eql_slice_nil (P := Tryz.prog) w TL TS (some ⟨g, 0, none⟩) n c 0 0 Tryz.underlying44
 rw [← hn]; clear h hne hw hn hl hg
 go_enter Tryz.func62, Tryz.ntmps62
 go_wp2_with (at_builtin; refine app_secL rfl _ _ rfl rfl HE.out rfl HR.out HN.out HL.out ?_)
 intro v' w' h1 h2 h3
 have HRow : Hid (Row w' v' ss) := Lib.hid (by simpa using h1); have HB : Hid (Gr w w') := Lib.hid (HG.out.grown h2 HG.out.size (fun k e => by cases e; exact Nat.le_refl _))
 have HF : Hid (∀ g, v'.ownBlock = some g → w.heap.size ≤ g) := Lib.hid fun g hg => by
  rcases h3 with h3 | h3
  · rw [hg] at h3; simp [Value.ownBlock] at h3; omega
  · rw [hg] at h3; simp at h3; omega
 clear h1 h2 h3 hq
 go_wp2
 go_ret
 exact ⟨_, rfl, HRow.out, HF.out, HB.out⟩
end Go.Proofs.YtlijbgapkmfnaaaGreat
namespace Go.Proofs.YtlijbgapkmfnaaaGreat
open Go.RowKit Go.Maps
/-! ### which is chosen -/
theorem filter_at (p : Nat → Bool) : ∀ (N k i : Nat), ((List.range N).filter p)[k]? = some i → ((List.range i).filter p).length = k ∧ i < N ∧ p i = true
 | 0, k, i, h => by simp at h
 | N + 1, k, i, h => by
  rw [List.range_succ, List.filter_append] at h
  by_cases hk : k < ((List.range N).filter p).length
  ·
   rw [List.getElem?_append_left hk] at h
   obtain ⟨h1, h2, h3⟩ := filter_at p N k i h; exact ⟨h1, by omega, h3⟩
  ·
   rw [List.getElem?_append_right (by omega)] at h
   cases hp : p N with
   | false => simp [hp] at h
   | true =>
    simp only [hp, List.filter_cons, List.filter_nil, if_true] at h
    have hk0 : k - ((List.range N).filter p).length = 0 := by
     cases hq : k - ((List.range N).filter p).length with
     | zero => rfl
     | succ m => rw [hq] at h; simp at h
    rw [hk0] at h
    simp at h
    subst h; exact ⟨by omega, by omega, hp⟩
def St.rank (s : St) (i : Nat) : Nat := ((List.range i).filter fun j => !(s.t j).isEmpty).length
theorem St.loose_at {s : St} {k i : Nat} (h : s.loose[k]? = some i) : s.rank i = k ∧ i < s.ls.length ∧ s.t i ≠ [] := by
 obtain ⟨h1, h2, h3⟩ := filter_at _ _ _ _ h
 exact ⟨h1, h2, by cases ht : s.t i with
  | nil => rw [ht] at h3; cases h3
  | cons x r => simp⟩
def pickAt (picks : List Int) (k : Nat) : Nat := if k < picks.length then (picks.getD k 0 % 18446744073709551616).toNat else 0
theorem pickAt_lt (picks : List Int) (k : Nat) : pickAt picks k < 18446744073709551616 := by
 unfold pickAt
 split <;> omega
def St.chosen (s : St) (picks : List Int) (i : Nat) : Sec := (s.ls.getD i Sec.zero :: s.t i).getD (pickAt picks (s.rank i) % ((s.t i).length + 1)) Sec.zero
def St.crash (s : St) (picks : List Int) : St := fresh ((List.range s.ls.length).map (s.chosen picks))
def St.upto (s : St) (picks : List Int) (k : Nat) : List Sec := (s.loose.take k).foldl (fun l i => l.set i (s.chosen picks i)) s.ls
theorem fold_set (f : Nat → Sec) : ∀ (is : List Nat) (l : List Sec), (is.foldl (fun l i => l.set i (f i)) l).length = l.length ∧ ∀ j, j < l.length → (is.foldl (fun l i => l.set i (f i)) l).getD j Sec.zero = if j ∈ is then f j else l.getD j Sec.zero
 | [], l => ⟨rfl, fun j _ => by simp⟩
 | i :: r, l => by
  obtain ⟨h1, h2⟩ := fold_set f r (l.set i (f i))
  rw [List.length_set] at h1
  refine ⟨h1, fun j hj => ?_⟩; rw [List.foldl_cons, h2 j (by rw [List.length_set]; exact hj)]
  by_cases hr : j ∈ r
  · simp [hr]
  ·
   rw [if_neg hr]
   by_cases hji : j = i
   ·
    subst hji
    simp [List.getD, hj]
   · simp [hji, hr, List.getD, List.getElem?_set, Ne.symm hji]
theorem St.upto_len (s : St) (picks : List Int) (k : Nat) : (s.upto picks k).length = s.ls.length := (fold_set _ _ _).1
theorem St.upto_succ {s : St} {picks : List Int} {k i : Nat} (h : s.loose[k]? = some i) : s.upto picks (k + 1) = (s.upto picks k).set i (s.chosen picks i) := by
 unfold St.upto
 obtain ⟨hk, e⟩ := List.getElem?_eq_some_iff.1 h; rw [List.take_succ_eq_append_getElem hk, List.foldl_append, e]
 rfl
theorem chosen_none {s : St} {picks : List Int} {i : Nat} (h : s.t i = []) : s.chosen picks i = s.ls.getD i Sec.zero := by
 unfold St.chosen
 rw [h]
 simp [Nat.mod_one]
theorem St.upto_all (s : St) (picks : List Int) : s.upto picks s.loose.length = (List.range s.ls.length).map (s.chosen picks) := by
 apply List.ext_getElem?
 intro j
 by_cases hj : j < s.ls.length
 ·
  have h1 : j < (s.upto picks s.loose.length).length := by rw [s.upto_len]; exact hj
  have h2 := (fold_set (s.chosen picks) (s.loose.take s.loose.length) s.ls).2 j hj
  rw [List.take_length] at h2
  have h3 : (s.upto picks s.loose.length).getD j Sec.zero = s.chosen picks j := by
   unfold St.upto
   rw [List.take_length, h2]
   split
   · rfl
   ·
    rename_i hn
    have : s.t j = [] := by
     cases ht : s.t j with
     | nil => rfl
     | cons x r => exact absurd (St.mem_loose.2 ⟨hj, by rw [ht]; simp⟩) hn
    rw [chosen_none this]
  rw [List.getElem?_eq_getElem h1]
  simp only [List.getD, List.getElem?_eq_getElem h1, Option.getD_some] at h3
  rw [h3]
  simp [hj]
 · rw [List.getElem?_eq_none (by rw [s.upto_len]; omega), List.getElem?_eq_none (by simp; omega)]
theorem St.upto_same {s : St} {picks : List Int} {k i : Nat} (h : s.loose[k]? = some i) (hq : pickAt picks k % ((s.t i).length + 1) = 0) : s.upto picks (k + 1) = s.upto picks k := by
 obtain ⟨h1, h2, h3⟩ := St.loose_at h
 have hc : s.chosen picks i = s.ls.getD i Sec.zero := by unfold St.chosen; rw [h1, hq]; rfl
 rw [St.upto_succ h, hc]
 apply List.ext_getElem?
 intro j
 rw [List.getElem?_set]
 split
 ·
  rename_i e
  subst e; have hlen := s.upto_len picks k; have hg := (fold_set (s.chosen picks) (s.loose.take k) s.ls).2 i h2
  have hnot : i ∉ s.loose.take k := fun hm => by
   obtain ⟨k', hk', e'⟩ := List.mem_iff_getElem.1 hm
   have hk2 : k' < k := by rw [List.length_take] at hk'; omega
   rw [List.getElem_take] at e'
   have := (St.loose_at (List.getElem?_eq_some_iff.2 ⟨by rw [List.length_take] at hk'; omega, e'⟩)).1
   omega
  rw [if_neg hnot] at hg
  have hi' : i < (s.upto picks k).length := by rw [hlen]; exact h2
  rw [if_pos hi']
  show _ = (s.upto picks k)[i]?
  rw [List.getElem?_eq_getElem hi']; have : (s.upto picks k).getD i Sec.zero = s.ls.getD i Sec.zero := hg
  simp only [List.getD, List.getElem?_eq_getElem hi', Option.getD_some] at this
  rw [this]
  rfl
 · rfl
theorem St.chosen_some {s : St} {picks : List Int} {k i q : Nat} (h : s.loose[k]? = some i) (hq : pickAt picks k % ((s.t i).length + 1) = q + 1) (hl : q < (s.t i).length) : (s.t i)[q] = s.chosen picks i := by
 obtain ⟨h1, h2, h3⟩ := St.loose_at h
 unfold St.chosen
 rw [h1, hq]
 simp [List.getD, hl]
/-! ### slices of numbers -/
structure Nums (w : World) (p : Option Addr) (n c : Nat) (zs : List Int) : Prop where
 len : zs.length = n
 most : n ≤ 9223372036854775807
 lies : 0 < n → ∃ b o, p = some ⟨b, o, none⟩ ∧ ∀ i, i < n → w.cell? ⟨b, o + i, none⟩ = some (.int .i64 (zs.getD i 0))
 ok : ∀ z ∈ zs, -9223372036854775808 ≤ z ∧ z ≤ 9223372036854775807
theorem Nums.gr {w w' : World} {p : Option Addr} {n c : Nat} {zs : List Int} (h : Nums w p n c zs) (g : Gr w w') : Nums w' p n c zs :=
 ⟨h.len, h.most, fun hn => by
  obtain ⟨b, o, e, hc⟩ := h.lies hn
  exact ⟨b, o, e, fun i hi => by rw [g.cell (World.block_lt_of_cell? w _ (hc i hi))]; exact hc i hi⟩, h.ok⟩
theorem Nums.nil (w : World) : Nums w none 0 0 [] := ⟨rfl, by omega, fun h => absurd h (Nat.lt_irrefl 0), fun _ h => by cases h⟩
theorem Ints.nums {w : World} {base : Nat} {v : Value} {xs : List Nat} (h : Ints w base v xs) (hs : ∀ x ∈ xs, x < 65536) : ∃ p c, v = .slice p xs.length c ∧ (∀ g, v.ownBlock = some g → base ≤ g ∧ g < w.heap.size) ∧ Nums w p xs.length c (xs.map fun (x : Nat) => (x : Int)) := by
 have hlt := World.ownsRow.lt h
 rcases h.2 with ⟨rfl, h0⟩ | ⟨g, cap, cur, rfl, hb, hg, hn, hm, hsz, ht⟩
 · have : xs = [] := List.eq_nil_of_length_eq_zero h0; subst this; exact ⟨none, 0, rfl, (fun g hg => by cases hg), Nums.nil w⟩
 ·
  refine ⟨_, cap, rfl, hlt, by simp, by unfold maxLen at hm; omega, fun _ => ⟨g, 0, rfl, fun i hi => ?_⟩, fun z hz => ?_⟩
  ·
   rw [Nat.zero_add, cell_of_row w g i cur TI (0, 0) hg]
   have h2 : cur.toList[i]? = (xs.map fun (x : Nat) => Value.int .i64 (x : Int))[i]? := by
    rw [← ht, List.getElem?_take, if_pos (by omega)]
   rw [← Array.getElem?_toList, h2]
   simp [List.getD, hi]
  ·
   obtain ⟨x, hx, rfl⟩ := List.mem_map.1 hz; have := hs x hx
   omega
end Go.Proofs.YtlijbgapkmfnaaaGreat
namespace Go.Proofs.YtlijbgapkmfnaaaGreat
open Go.RowKit Go.Maps
theorem St.loose_small {s : St} (h : s.Ok) : ∀ x ∈ s.loose, x < 65536 := fun x hx => by
 have := (St.mem_loose.1 hx).1; have := h.most
 omega
theorem St.loose_len (s : St) : s.loose.length ≤ s.ls.length := by
 unfold St.loose
 have := List.length_filter_le (fun i => !(s.t i).isEmpty) (List.range s.ls.length)
 rwa [List.length_range] at this
theorem Nums.stays {w w' : World} {p : Option Addr} {n c : Nat} {zs : List Int} (h : Nums w p n c zs) (g : ∀ a, p = some a → 0 < n → w'.heap[a.block]? = w.heap[a.block]?) : Nums w' p n c zs :=
 ⟨h.len, h.most, fun hn => by
  obtain ⟨b, o, e, hc⟩ := h.lies hn
  exact ⟨b, o, e, fun i hi => (World.cell?_of_block (a := ⟨b, o + i, none⟩) (show w'.heap[b]? = w.heap[b]? from g _ e hn)).trans (hc i hi)⟩, h.ok⟩
theorem Nums.lt {w : World} {p : Option Addr} {n c : Nat} {zs : List Int} (h : Nums w p n c zs) {a : Addr} (e : p = some a) (hn : 0 < n) : a.block < w.heap.size := by
 obtain ⟨b, o, e2, hc⟩ := h.lies hn
 rw [e] at e2
 cases e2
 exact World.block_lt_of_cell? w _ (hc 0 hn)
theorem wpList_store_at {ops : Array Oper} {rest : List Oper} {op : Oper} {a : Act} {w : World} {Q : Exit → Act → World → Prop} (hgd : op.guard = none) (x y : Operand) (ho : op.op = .store TS x y)
  {b o : Nat} {s : Sec} (ht : w.there b o 256) (hx : a.eval x = .pointer (some ⟨b, o, none⟩)) (hy : a.eval y = .agg (sec s))
  (h : wpList Tryz.prog ops Q rest (a.put op.dst undef) (w.setCells b o s.cells)) : wpList Tryz.prog ops Q (op :: rest) a w :=
 wpList_store_mid hgd TS x y ho b o (sec s) hx hy (by rw [sec_size]; exact ht) (by rw [sec_size]; exact size_sec) (sec_one s) h
theorem u64_wrap_nat (z : Int) : IntKind.u64.wrap z = ((z % 18446744073709551616).toNat : Int) := by
 rw [IntKind.wrap_u64]
 omega
theorem grown_setCells (w : World) (g o : Nat) (vs : List Value) : w.grownBy (w.setCells g o vs) (some g) := by
 obtain ⟨h1, h2, h3, h4⟩ := setCells_os g vs o w; exact ⟨h1, h2, h3, by rw [h4]; exact Nat.le_refl _, fun k _ hk => heap_setCells_other g vs o w k (fun e => hk (by rw [e]))⟩
set_option maxRecDepth 100000 in
set_option maxHeartbeats 4000000 in
theorem Crash_any {F : Nat → Prop} {p : Value} {s : St} (w : World) (h : Dk w F p s) (hw : s.writes ≤ 1000000000) (q : Option Addr) (n c : Nat) (zs : List Int) (hz : Nums w q n c zs) : Calls Tryz.prog 25 #[p, .slice q n c] w fun e w' => NewDk w w' e (s.crash zs) := by
 obtain ⟨b, lv, m, L, rfl, h⟩ := h; have HM := Lib.hid (missing_no w h); have HD := Lib.hid h; obtain ⟨h0, h1, h2, h3, h4⟩ := h.cells
 have hne : s.ls ≠ [] := fun e => by have := h.ok.pos; rw [e] at this; simp at this
 have HC := Lib.hid (Clone_any w lv s.ls h.ls hne (by have := h.ok.most; omega)); have HZ := Lib.hid hz; have HW := Lib.hid (show s.writes ≤ 1000000000 from hw); have hn63 := hz.most; have HLow : Hid (∀ k, F k → k < w.heap.size) := Lib.hid h.low; clear h h1 h2 h3 h4 hne hz hw
 go_enter Tryz.func25, Tryz.ntmps25
 go_wp2_with fail; refine HM.out.mono ?_; rintro e w1 ⟨rfl, rfl⟩; go_wp2_with fail; refine HC.out.mono ?_; rintro e w1 ⟨v, rfl, hr, hf, hg⟩; have HD1 := Lib.hid (HD.out.gr hg); have HR := Lib.hid hr; have HF := Lib.hid hf; have HG := Lib.hid hg; clear hr hf hg h0 HC; go_wp2_with fail; refine (Loose_any w1 ⟨_, _, _, _, rfl, HD1.out⟩ HW.out).mono ?_; rintro e w2 ⟨lo, rfl, hi, hg⟩; obtain ⟨p2, c2, rfl, hfar, hnums⟩ := Ints.nums hi (St.loose_small HD1.out.ok); have HD2 := Lib.hid (HD1.out.gr hg); have HR2 := Lib.hid (HR.out.gr hg); have HG2 := Lib.hid (Gr.trans HG.out hg); have HI := Lib.hid hnums; have HZ2 := Lib.hid ((HZ.out.gr HG.out).gr hg); obtain ⟨K, hK⟩ : ∃ K, K = s.loose.length := ⟨_, rfl⟩
 have hKs : K ≤ 65536 := by rw [hK]; have := s.loose_len; have := HD1.out.ok.most; omega
 rw [← hK] at HI
 have HK := Lib.hid hK; obtain ⟨gv, cv, hv, hgv, _⟩ := HR.out.full (fun e => by have := HD1.out.ok.pos; rw [e] at this; simp at this); have hgb : w.heap.size ≤ gv := HF.out gv (by rw [hv]; rfl)
 have HFar : Hid (∀ a, p2 = some a → a.block ≠ gv) := Lib.hid fun a ha e => by
  subst ha; have := (hfar a.block rfl).1; have := HR.out.lt gv (by rw [hv]; rfl)
  omega
 have HQ : Hid (∀ a, q = some a → 0 < n → a.block ≠ gv) := Lib.hid fun a ha hn e => by
  have := HZ.out.lt ha hn
  omega
 have hgl : gv < w2.heap.size := by have := hg.size; omega
 rw [← hK]; obtain ⟨N, hN⟩ : ∃ N, N = s.ls.length := ⟨_, rfl⟩
 rw [← hN] at hv
 have HN := Lib.hid hN; subst hv; clear hi hfar hnums hg hK hN HD1 HR HG HZ HD HM hgv HF; go_wp2_with fail
 go_loopw [21] (fun i wr => ∃ k : Nat, k ≤ K ∧ i = .int .i64 k ∧ Hid (Row wr (.slice (some ⟨gv, 0, none⟩) N cv) (s.upto zs k)) ∧ Hid (w2.grownBy wr (some gv))) (fun i _ => K - (intOf i).toNat)
 case atStart => exact ⟨0, Nat.zero_le _, rfl, HR2.out, World.grownBy.refl _ _⟩
 case round =>
  obtain ⟨k, hk, rfl, hrow, hgr⟩ := hrel
  by_cases hlt : k < K
  ·
   have hDr := HD2.out.stays (fun j hj => hgr.out.block j (HD2.out.low j hj) (fun e => by cases e; have := HLow.out gv hj; omega)) hgr.out.size; obtain ⟨b2, o2, rfl, hc2⟩ := (HI.out.stays (w' := wr) (fun a ha hn => hgr.out.block _ (HI.out.lt ha hn) (fun e => HFar.out a ha (by cases e; rfl)))).lies (by omega)
   have hkk : k < s.loose.length := by rw [← HK.out]; exact hlt
   obtain ⟨i, hi⟩ : ∃ i, s.loose[k]? = some i := ⟨_, List.getElem?_eq_getElem hkk⟩; have hci := hc2 k hlt
   have ei : (s.loose.map fun (x : Nat) => (x : Int)).getD k 0 = (i : Int) := by simp [List.getD, hi]
   rw [ei] at hci
   obtain ⟨hrank, hiN, hti⟩ := St.loose_at hi
   have hi6 : i < 65536 := by have := hDr.ok.most; omega
   have hlk := hDr.map.look i hiN hDr.ok.most; obtain ⟨gi, ci, eL, _⟩ := (hDr.rows i).full hti; have hri := hDr.rows i; obtain ⟨M, hM⟩ : ∃ M, M = (s.t i).length := ⟨_, rfl⟩
   have hM2 : M ≤ 1000000000 := by have := hDr.ok.less i; have := HW.out; omega
   rw [eL, ← hM] at hri hlk
   obtain ⟨_, hb1, _⟩ := hDr.cells; have HRi := Lib.hid hri; have HII := Lib.hid hi; clear hi; have HMM := Lib.hid hM; have HRow := hrow; have HGr := hgr; clear hDr hc2 ei hrank hti eL hri hM hrow hgr hkk; have HLk := Lib.hid hlk; have HB1 := Lib.hid hb1; have HI6 := Lib.hid hi6; obtain ⟨P, hP⟩ : ∃ P, P = pickAt zs k := ⟨_, rfl⟩; have HP := Lib.hid hP
   have hPlt : (P : Int) < 18446744073709551616 := by have := pickAt_lt zs k; omega
   have HPlt := Lib.hid hPlt; clear hlk hb1 hPlt
   go_upto_if 29 with fail
   go_cut [8] (fun s8 wc => s8 = .int .u64 (P : Int) ∧ wr = wc)
   case first =>
    by_cases hp : k < n
    ·
     obtain ⟨b3, o3, rfl, hc3⟩ := (HZ2.out.stays (w' := wr) (fun a ha hn => HGr.out.block _ (HZ2.out.lt ha hn) (fun e => HQ.out a ha hn (by cases e; rfl)))).lies (by omega); have hcz := hc3 k hp; have hlz := HZ2.out.len
     have HV : Hid (IntKind.u64.wrap (zs[k]?.getD 0) = (P : Int)) := Lib.hid (by
      rw [hP, u64_wrap_nat]
      unfold pickAt
      rw [if_pos (by omega)]
      rfl)
     clear hc3 hP hlz; have hv := HV.out; clear HV; rw [show decide (k < n) = true from decide_eq_true hp]
     go_wp2
     go_meet
     exact ⟨rfl, rfl⟩
    ·
     have hP0 : P = 0 := by
      rw [hP]
      unfold pickAt
      rw [if_neg (by have := HZ2.out.len; omega)]
     have HP0 := Lib.hid hP0; clear hP hP0; rw [show decide (k < n) = false from decide_eq_false hp]; clear hp
     go_wp2
     go_meet
     exact ⟨by rw [HP0.out]; rfl, rfl⟩
   case rest =>
    obtain ⟨rfl, rfl⟩ := hcut; have hlk := HLk.out; have hb1 := HB1.out; have hPlt := HPlt.out; obtain ⟨Q, hQ⟩ : ∃ Q, P % (M + 1) = Q := ⟨_, rfl⟩
    have hQi : (P : Int) % ((M : Int) + 1) = (Q : Int) := by rw [← hQ]; rfl
    have hQM : Q < M + 1 := by rw [← hQ]; exact Nat.mod_lt _ (by omega)
    have HQm := Lib.hid hQ; clear hP hQ HLk HB1
    cases Q with
    | zero =>
     have HU : Hid (s.upto zs (k + 1) = s.upto zs k) := Lib.hid (St.upto_same HII.out (by rw [← HP.out, ← HMM.out]; exact HQm.out)); have hQ0 : (P : Int) % ((M : Int) + 1) = 0 := hQi; clear hQi hQM
     go_wp2
     go_roundw
     case rel => exact ⟨k + 1, by omega, by go_num, by rw [HU.out]; exact HRow, HGr⟩
     case measure => simp [intOf]; omega
    | succ r =>
     have hrM : r < (s.t i).length := by rw [← HMM.out]; omega
     have HL := Lib.hid (HRi.out.lies r hrM); have HE : Hid ((s.t i)[r] = s.chosen zs i) := Lib.hid (St.chosen_some HII.out (by rw [← HP.out, ← HMM.out]; exact HQm.out) hrM)
     rw [HE.out] at HL
     have hiL : i < (s.upto zs k).length := by rw [s.upto_len]; exact hiN
     have HT := Lib.hid (HRow.out.there i hiL); have HU : Hid (s.upto zs (k + 1) = (s.upto zs k).set i (s.chosen zs i)) := Lib.hid (St.upto_succ HII.out); have HNew := Lib.hid (HRow.out.put i hiL (s.chosen zs i)); have HGr2 : Hid (w2.grownBy (wr.setCells gv (i * 256) (s.chosen zs i).cells) (some gv)) := Lib.hid (HGr.out.trans (grown_setCells _ _ _ _))
     have hiN2 : i < N := by rw [HN.out]; exact hiN
     have hrM2 : r < M := by omega
     clear hiN hiL hrM HE
     go_wp2_with (first | (refine wpList_load_sec rfl _ rfl HL.out rfl ?_) | (refine wpList_store_at rfl _ _ rfl HT.out rfl rfl ?_))
     go_roundw
     case rel => exact ⟨k + 1, by omega, by go_num, by rw [HU.out]; exact HNew.out, HGr2.out⟩
     case measure => simp [intOf]; omega
  ·
   obtain rfl : k = K := by omega
   rw [HK.out, s.upto_all] at hrow
   have hlen : ((List.range s.ls.length).map (s.chosen zs)).length = s.ls.length := by simp
   have HC := Lib.hid (lasting_any wr _ _ hrow.out (by rw [hlen]; exact HD2.out.ok.pos) (by rw [hlen]; exact HD2.out.ok.most)); have HB : Hid (Gr w wr) := Lib.hid (HG2.out.grown hgr.out HG2.out.size (fun j e => by cases e; exact hgb)); clear hrow hlen hgr; go_wp2_with fail; refine HC.out.mono ?_; rintro e w3 ⟨p, rfl, hd, hg⟩; have HD3 := Lib.hid hd; have HG3 := Lib.hid (Gr.trans HB.out hg); have hsz := HB.out.size; clear hd hg; go_wp2_with fail
   go_ret
   refine ⟨_, _, rfl, HD3.out, HG3.out, ?_⟩; rintro j (hj | ⟨hj, _⟩)
   · cases hj; exact hgb
   · omega
end Go.Proofs.YtlijbgapkmfnaaaGreat
namespace Go.Proofs.YtlijbgapkmfnaaaGreat
open Go.RowKit Go.Maps
def St.part (s : St) (k : Nat) : List Sec := (s.loose.take k).foldl (fun l i => l.set i (s.nw i)) s.ls
def St.barrier (s : St) : St := { s with ls := (List.range s.ls.length).map s.nw, t := fun _ => [] }
theorem St.part_len (s : St) (k : Nat) : (s.part k).length = s.ls.length := (fold_set _ _ _).1
theorem St.part_succ {s : St} {k i : Nat} (h : s.loose[k]? = some i) : s.part (k + 1) = (s.part k).set i (s.nw i) := by
 unfold St.part
 obtain ⟨hk, e⟩ := List.getElem?_eq_some_iff.1 h; rw [List.take_succ_eq_append_getElem hk, List.foldl_append, e]
 rfl
theorem St.part_all (s : St) : s.part s.loose.length = (List.range s.ls.length).map s.nw := by
 apply List.ext_getElem?
 intro j
 by_cases hj : j < s.ls.length
 ·
  have h1 : j < (s.part s.loose.length).length := by rw [s.part_len]; exact hj
  have h2 := (fold_set s.nw (s.loose.take s.loose.length) s.ls).2 j hj
  rw [List.take_length] at h2
  have h3 : (s.part s.loose.length).getD j Sec.zero = s.nw j := by
   unfold St.part
   rw [List.take_length, h2]
   split
   · rfl
   ·
    rename_i hn
    have : s.t j = [] := by
     cases ht : s.t j with
     | nil => rfl
     | cons x r => exact absurd (St.mem_loose.2 ⟨hj, by rw [ht]; simp⟩) hn
    rw [nw_none this]
  rw [List.getElem?_eq_getElem h1]
  simp only [List.getD, List.getElem?_eq_getElem h1, Option.getD_some] at h3
  rw [h3]
  simp [hj]
 · rw [List.getElem?_eq_none (by rw [s.part_len]; omega), List.getElem?_eq_none (by simp; omega)]
theorem nw_other {s : St} {i : Nat} (h : s.t i ≠ []) (l : List Sec) : ({ s with ls := l } : St).nw i = s.nw i := by
 unfold St.nw
 cases ht : s.t i with
 | nil => exact absurd ht h
 | cons x r => rw [List.getLastD_cons, List.getLastD_cons]
theorem DkAt.putL {w : World} {F : Nat → Prop} {b gl c : Nat} {m : Nat} {L : Nat → Value} {s : St} {n : Nat} (h : DkAt w F b (.slice (some ⟨gl, 0, none⟩) n c) m L s) (i : Nat) (hi : i < s.ls.length) (x : Sec) :
  DkAt (w.setCells gl (i * 256) x.cells) F b (.slice (some ⟨gl, 0, none⟩) n c) m L { s with ls := s.ls.set i x } ∧ Upd F F w (w.setCells gl (i * 256) x.cells) := by
 obtain ⟨D, k, ho, r⟩ := h.map; have hFl : F gl := h.ownL gl rfl; have hg := grown_setCells w gl (i * 256) x.cells; have hne := row_ne h.ls (g := gl) rfl h.blk ho
 have e : ∀ j, F j → j ≠ gl → (w.setCells gl (i * 256) x.cells).heap[j]? = w.heap[j]? := fun j hj hn => hg.block j (h.low j hj) (fun e => hn (by cases e; rfl))
 have hl : (s.ls.set i x).length = s.ls.length := List.length_set; refine ⟨⟨⟨by show 0 < (s.ls.set i x).length; rw [hl]; exact h.ok.pos, by show (s.ls.set i x).length ≤ _; rw [hl]; exact h.ok.most, fun j hj => h.ok.out j (by have : (s.ls.set i x).length ≤ j := hj; omega), h.ok.less, h.ok.lo, h.ok.hi⟩, h.blk.stays (e b h.ownB (fun e => hne.1 e.symm)), h.ls.put i hi x, ?_, fun j => (h.rows j).stays fun g hg => e g (h.ownR j g hg) (fun e => h.apart0 j g hg (by rw [e]; rfl)), h.apart, h.apart0, h.ownB, h.ownM, h.ownL, h.ownR, fun j hj => Nat.lt_of_lt_of_le (h.low j hj) hg.size⟩, ?_⟩
 ·
  show Loose _ m _ (s.ls.set i x).length L s.t
  rw [hl]; exact h.map.stays (e m h.ownM (fun e => hne.2 e.symm))
 · exact ⟨hg.os, hg.tape, hg.output, hg.size, fun j hj hF => hg.block j hj (fun e => hF (by cases e; exact hFl)), fun j hj => .inl hj⟩
def Sb (b gl i : Nat) (lv : Value) (x : Sec) (d : Nat) (v : Value) (_ : World) : Prop :=
 match d with
 | 18 | 19 | 23 => v = .pointer (some ⟨b, 0, none⟩)
 | 20 => v = .pointer (some ⟨b, 0, none⟩)
 | 21 => v = lv
 | 22 | 24 => v = .int .i64 (i : Int)
 | 25 => v = .agg (sec x)
 | 26 => v = .pointer (some ⟨gl, i * 256, none⟩)
 | _ => True
def Fb (W0 : World) (gl i : Nat) (x : Sec) (w : World) : Prop := ∃ w1, Gr W0 w1 ∧ w = w1.setCells gl (i * 256) x.cells
theorem wp_store_at {op : Oper} {a : Act} {w : World} {K : Act → World → Prop} {Q : Exit → Act → World → Prop} (x y : Operand) (ho : op.op = .store TS x y) {b o : Nat} {s : Sec} (ht : w.there b o 256) (hx : a.eval x = .pointer (some ⟨b, o, none⟩)) (hy : a.eval y = .agg (sec s))
  (h : K (a.put op.dst undef) (w.setCells b o s.cells)) : op.wp Tryz.prog a w K Q :=
 wp_store_mid TS x y ho b o (sec s) hx hy (by rw [sec_size]; exact ht) (by rw [sec_size]; exact size_sec) (sec_one s) h
set_option maxRecDepth 100000 in
theorem Barrier_dead {F : Nat → Prop} {p : Value} {s : St} (w : World) (h : Dk w F p s) (hd : s.dead = true) : Calls Tryz.prog 79 #[p] w fun e w' => e = .returned (.int .i64 8) ∧ w = w' := by
 obtain ⟨b, lv, m, L, rfl, h⟩ := h; have HM := Lib.hid (missing_no w h); obtain ⟨h0, h1, h2, h3, h4⟩ := h.cells
 rw [hd] at h3
 clear h h0 h1 h2 h4 hd
 go_enter Tryz.func79, Tryz.ntmps79
 go_wp2_with fail; refine HM.out.mono ?_; rintro e w1 ⟨rfl, rfl⟩
 go_wp2
 go_ret
 exact ⟨rfl, rfl⟩
set_option maxRecDepth 100000 in
set_option maxHeartbeats 4000000 in
theorem Barrier_yes {F : Nat → Prop} {p : Value} {s : St} (w : World) (h : Dk w F p s) (hw : s.writes ≤ 1000000000) (hd : s.dead = false) : Calls Tryz.prog 79 #[p] w fun e w' => Chg F p s.barrier (.int .i64 0) w e w' := by
 obtain ⟨b, lv, m, L, rfl, h⟩ := h; have HM := Lib.hid (missing_no w h); have HD := Lib.hid h; have HLo := Lib.hid (Loose_any w ⟨_, _, _, _, rfl, h⟩ hw); obtain ⟨h0, h1, h2, h3, h4⟩ := h.cells
 rw [hd] at h3
 have HDd := Lib.hid hd; clear h h0 h1 h2 h4 hd
 go_enter Tryz.func79, Tryz.ntmps79
 go_wp2_with fail; refine HM.out.mono ?_; rintro e w1 ⟨rfl, rfl⟩; go_wp2_with fail; refine HLo.out.mono ?_; rintro e w2 ⟨lo, rfl, hi, hg⟩; obtain ⟨p2, c2, rfl, hfar, hnums⟩ := Ints.nums hi (St.loose_small HD.out.ok); have HD2 := Lib.hid (HD.out.gr hg); have HU2 := Lib.hid (Upd.of_gr (F := F) hg); have HI := Lib.hid hnums
 have HFar : Hid (∀ a, p2 = some a → ¬ F a.block) := Lib.hid fun a ha hF => by
  subst ha; have := (hfar a.block rfl).1; have := HD.out.low _ hF
  omega
 obtain ⟨K, hK⟩ : ∃ K, K = s.loose.length := ⟨_, rfl⟩
 have hKs : K ≤ 65536 := by rw [hK]; have := s.loose_len; have := HD2.out.ok.most; omega
 rw [← hK] at HI
 have HK := Lib.hid hK; obtain ⟨gl, cl, hv⟩ := HD2.out.lv; rw [← hK]; obtain ⟨N, hN⟩ : ∃ N, N = s.ls.length := ⟨_, rfl⟩
 rw [← hN] at hv
 have HN := Lib.hid hN; subst hv; clear hi hfar hnums hg hK hN HM h3 HLo; go_wp2_with fail
 go_loopw [14] (fun i wr => ∃ k : Nat, k ≤ K ∧ i = .int .i64 k ∧ Hid (DkAt wr F b (.slice (some ⟨gl, 0, none⟩) N cl) m L { s with ls := s.part k }) ∧ Hid (Upd F F w2 wr)) (fun i _ => K - (intOf i).toNat)
 case atStart => exact ⟨0, Nat.zero_le _, rfl, HD2.out, Upd.of_gr (Gr.refl _)⟩
 case round =>
  obtain ⟨k, hk, rfl, hd, hu⟩ := hrel
  by_cases hlt : k < K
  ·
   obtain ⟨b2, o2, rfl, hc2⟩ := (HI.out.stays (w' := wr) (fun a ha hn => hu.out.block _ (HI.out.lt ha hn) (fun e => HFar.out a ha e))).lies (by omega)
   have hkk : k < s.loose.length := by rw [← HK.out]; exact hlt
   obtain ⟨i, hi⟩ : ∃ i, s.loose[k]? = some i := ⟨_, List.getElem?_eq_getElem hkk⟩; have hci := hc2 k hlt
   have ei : (s.loose.map fun (x : Nat) => (x : Int)).getD k 0 = (i : Int) := by simp [List.getD, hi]
   rw [ei] at hci
   obtain ⟨hrank, hiN, hti⟩ := St.loose_at hi
   have hiP : i < (s.part k).length := by rw [s.part_len]; exact hiN
   have HX : Hid (({ s with ls := s.part k } : St).nw i = s.nw i) := Lib.hid (nw_other hti _); have HS := Lib.hid (St.part_succ hi); have HIP : Hid (i < (s.part k).length) := Lib.hid hiP
   have hiN2 : i < N := by rw [HN.out]; exact hiN
   have HDr := hd; have HUr := hu; clear hc2 ei hrank hti hkk hi hiN hiP hd hu; go_wp2_with fail
   have HCell : Hid (∀ W, Gr wr W → W.cell? ⟨b, 0, none⟩ = some (.slice (some ⟨gl, 0, none⟩) N cl)) := Lib.hid fun W h => (HDr.out.gr h).cells.1
   have HNw : Hid (∀ W, Gr wr W → Calls Tryz.prog 64 #[.pointer (some ⟨b, 0, none⟩), .int .i64 (i : Int)] W fun e w' => e = .returned (.agg (sec (s.nw i))) ∧ Gr W w') := Lib.hid fun W h => by
    have := newest_any W (HDr.out.gr h) i HIP.out
    rw [HX.out] at this
    exact this
   have HTh : Hid (∀ W, Gr wr W → W.there gl (i * 256) 256) := Lib.hid fun W h => (HDr.out.gr h).ls.there i HIP.out
   refine Flow.regionZ 9 9 (by kernel_rfl) [] 12 (Sb b gl i (.slice (some ⟨gl, 0, none⟩) N cl) (s.nw i)) (Gr wr) (Fb wr gl i (s.nw i)) (fun _ => True) (fun _ _ _ => True) (by kernel_rfl) (by kernel_rfl) (by kernel_rfl) (fun _ _ _ _ _ _ h _ => h) ⟨rfl, rfl, rfl, Nat.le_refl _, fun _ _ => rfl⟩ True.intro ?steps ?fin
   case fin =>
    intro a W hfr hfin hsl
    clear hsl; have e := Flow.frame hfr [18, 19, 20, 21, 22, 23, 24, 25, 26] (List.range 32) (by kernel_rfl) (by kernel_rfl)
    simp [List.range, List.range.loop] at e
    rw [e]; clear e hfr; obtain ⟨w1, hg1, rfl⟩ := hfin; obtain ⟨hd1, hu1⟩ := (HDr.out.gr hg1).putL i HIP.out (s.nw i); have HD3 := Lib.hid hd1; have HU3 := Lib.hid (HUr.out.trans ((Upd.of_gr hg1).trans hu1)); clear hg1 hd1 hu1 HCell HNw HTh
    rename_i K2 hK2
    refine hK2 _ _ ?_
    go_wp2
    go_roundw
    case rel => exact ⟨k + 1, by omega, by go_num, by rw [HS.out]; exact HD3.out, HU3.out⟩
    case measure => simp [intOf]; omega
   case steps =>
    refine .cons (fun a W hfr hinv hear hdep K hK => ?_) ?_
    · have t0 := tAt (.pointer (some ⟨b, 0, none⟩)) (hfr.at 0 (by kernel_rfl)); refine fW0 rfl ?_; clear hfr hdep hear; go_simp; exact hK _ _ True.intro hinv (fun _ => True.intro) (dsT rfl)
    refine .cons (fun a W hfr hinv hear hdep K hK => ?_) ?_
    · have t18 := tAt (.pointer (some ⟨b, 0, none⟩)) (hdep 18 (by kernel_rfl)); refine fW0 rfl ?_; clear hfr hdep hear; go_simp; exact hK _ _ True.intro hinv (fun _ => True.intro) (dsT rfl)
    refine .cons (fun a W hfr hinv hear hdep K hK => ?_) ?_
    · have t19 := tAt (.pointer (some ⟨b, 0, none⟩)) (hdep 19 (by kernel_rfl)); refine fW0 rfl ?_; clear hfr hdep hear; go_simp; exact hK _ _ True.intro hinv (fun _ => True.intro) (dsT rfl)
    refine .cons (fun a W hfr hinv hear hdep K hK => ?_) ?_
    · have t20 := tAt (.pointer (some ⟨b, 0, none⟩)) (hdep 20 (by kernel_rfl)); have hc := HCell.out W hinv; refine fW0 rfl ?_; clear hfr hdep hear; go_simp; exact hK _ _ True.intro hinv (fun _ => True.intro) (dsT rfl)
    refine .cons (fun a W hfr hinv hear hdep K hK => ?_) ?_
    · have t4 := tAt (.int .i64 (i : Int)) (hfr.at 4 (by kernel_rfl)); refine fW0 rfl ?_; clear hfr hdep hear; go_simp; exact hK _ _ True.intro hinv (fun _ => True.intro) (dsT rfl)
    refine .cons (fun a W hfr hinv hear hdep K hK => ?_) ?_
    · have t0 := tAt (.pointer (some ⟨b, 0, none⟩)) (hfr.at 0 (by kernel_rfl)); refine fW0 rfl ?_; clear hfr hdep hear; go_simp; exact hK _ _ True.intro hinv (fun _ => True.intro) (dsT rfl)
    refine .cons (fun a W hfr hinv hear hdep K hK => ?_) ?_
    · have t4 := tAt (.int .i64 (i : Int)) (hfr.at 4 (by kernel_rfl)); refine fW0 rfl ?_; clear hfr hdep hear; go_simp; exact hK _ _ True.intro hinv (fun _ => True.intro) (dsT rfl)
    refine .cons (fun a W hfr hinv hear hdep K hK => ?_) ?_
    · have t23 := tAt (.pointer (some ⟨b, 0, none⟩)) (hdep 23 (by kernel_rfl)); have t24 := tAt (.int .i64 (i : Int)) (hdep 24 (by kernel_rfl)); refine fW0 rfl ?_; clear hfr hdep; go_simp; refine (HNw.out W hinv).mono ?_; rintro e W' ⟨rfl, g1⟩; exact hK _ _ True.intro (Gr.trans hinv g1) (fun _ => True.intro) (dsT rfl)
    refine .cons (fun a W hfr hinv hear hdep K hK => ?_) ?_
    · have t21 := tAt (.slice (some ⟨gl, 0, none⟩) N cl) (hdep 21 (by kernel_rfl)); have t22 := tAt (.int .i64 (i : Int)) (hdep 22 (by kernel_rfl)); refine fW0 rfl ?_; clear hfr hdep hear; go_simp; exact hK _ _ True.intro hinv (fun _ => True.intro) (dsT rfl)
    refine .cons (fun a W hfr hinv hear hdep K hK => ?_) ?_
    · have s26 : a.tmps.getD 26 undef = .pointer (some ⟨gl, i * 256, none⟩) := hdep 26 (by kernel_rfl); have t26 := tmpAt s26; have s25 : a.tmps.getD 25 undef = .agg (sec (s.nw i)) := hdep 25 (by kernel_rfl); have t25 := tmpAt s25; refine fW0 rfl ?_; clear hfr hdep; refine wp_store_at (.tmp 26) (.tmp 25) rfl (HTh.out W hinv) (by simpa [Act.eval] using s26) (by simpa [Act.eval] using s25) ?_; exact hK _ _ True.intro ⟨W, hinv, rfl⟩ True.intro (fun d hd => by cases hd)
    exact True.intro
  ·
   obtain rfl : k = K := by omega
   rw [HK.out, s.part_all] at hd
   have hmm := @run_makeMap Tryz.prog; have ha : Gr wr (wr.alloc (.map #[] 0)) := (Gr.refl wr).alloc (Nat.le_refl _) _; have hdA := hd.out.gr ha; have hc1 := hdA.blk.cell 1; have hf1 := hdA.blk.frozen 1
   simp at hc1
   have hne := hd.out.neM; have HB := Lib.hid (hdA.blk.set 1 (.map (some wr.heap.size))); have hblt := hd.out.low b hd.out.ownB
   have hsz : ((wr.alloc (.map #[] 0)).setCell ⟨b, 1, none⟩ (.map (some wr.heap.size))).heap.size = wr.heap.size + 1 := by simp [World.setCell]
   have hst : ∀ j, j ≠ b → ((wr.alloc (.map #[] 0)).setCell ⟨b, 1, none⟩ (.map (some wr.heap.size))).heap[j]? = (wr.alloc (.map #[] 0)).heap[j]? := fun j hj => Below.heap_setCell _ _ _ j hj
   have HF : Hid (DkAt ((wr.alloc (.map #[] 0)).setCell ⟨b, 1, none⟩ (.map (some wr.heap.size))) (fun j => F j ∨ j = wr.heap.size) b (.slice (some ⟨gl, 0, none⟩) N cl) wr.heap.size (fun _ => nilS) s.barrier) := Lib.hid (by
    have hl : s.barrier.ls.length = s.ls.length := by simp [St.barrier]
    obtain ⟨D, n, ho, _⟩ := hdA.map; refine ⟨⟨by rw [hl]; exact HD2.out.ok.pos, by rw [hl]; exact HD2.out.ok.most, fun _ _ => rfl, fun _ => Nat.zero_le _, HD2.out.ok.lo, HD2.out.ok.hi⟩, ?_, hdA.ls.stays fun g hg => hst g (row_ne hdA.ls hg hdA.blk ho).1, ?_, fun _ => Row.empty _, (fun i j g h => by cases h), (fun i g h => by cases h), .inl hd.out.ownB, .inr rfl, fun g hg => .inl (hd.out.ownL g hg), (fun i g h => by cases h), ?_⟩
    ·
     have := HB.out
     simpa [St.barrier] using this
    · exact Loose.made.stays (hst _ (by omega))
    ·
     rintro j (hj | rfl)
     · rw [hsz]; have := hd.out.low j hj; omega
     · rw [hsz]; omega)
   have HUf : Hid (Upd F (fun j => F j ∨ j = wr.heap.size) w2 ((wr.alloc (.map #[] 0)).setCell ⟨b, 1, none⟩ (.map (some wr.heap.size)))) := Lib.hid (by
    have h1 := (hu.out.trans (Upd.of_gr ha)).trans (upd_cell (i := 1) hd.out.ownB (.map (some wr.heap.size))); refine ⟨h1.os, h1.tape, h1.output, h1.size, h1.block, fun j hj => ?_⟩
    rcases hj with hj | rfl
    · exact .inl hj
    · exact .inr hu.out.size)
   have HU := Lib.hid (HU2.out.trans HUf.out); clear hd ha hdA hne HB hblt hsz hst hu HUf
   go_wp2
   go_ret
   exact ⟨_, rfl, ⟨_, _, _, _, rfl, HF.out⟩, HU.out⟩
end Go.Proofs.YtlijbgapkmfnaaaGreat
namespace Go.Proofs.YtlijbgapkmfnaaaGreat
open Go.ChangeShapes Go.WideShapes Go.ChangeAt Go.RowKit Go.Maps
abbrev TRaw : TypeId := 49
structure RawA where
 k : Int
 ep : Nat
 q : Option Addr
 m : Nat
 c : Nat
 xs : List Int
 rp : Option Addr
 rn : Nat
 rc : Nat
 any : Bool
def RawA.cells (a : RawA) : List Value := [.int .i64 a.k, .int .u64 a.ep, .slice a.q a.m a.c, .slice a.rp a.rn a.rc, .bool a.any]
structure RawA.In (w : World) (a : RawA) : Prop where
 byt : Byt w a.q a.m a.c a.xs
 recs : Recs w a.rp a.rn a.rc
 e1 : a.ep ≤ 18446744073709551615
 k0 : -9223372036854775808 ≤ a.k
 k1 : a.k ≤ 9223372036854775807
 bm : a.m ≤ 1048576
 rm : a.rn ≤ 1048576
theorem Recs.up {w V : World} {p : Option Addr} {n c : Nat} (h : Recs w p n c) (g : Gr w V) : Recs V p n c := by
 refine ⟨h.cap, h.most, fun hn => ?_⟩; obtain ⟨b, o, e, hc⟩ := h.lies hn; refine ⟨b, o, e, fun i hi => ?_⟩; obtain ⟨z, hz, hb, ha, hzi⟩ := hc i hi
 have cz : ∀ j v, w.cell? ⟨b, j, none⟩ = some v → V.cell? ⟨b, j, none⟩ = some v := fun j v h => (Below.cell g (p := ⟨b, j, none⟩) (blk_lt h)).trans h
 obtain ⟨z0, z1, z2, z3, z4, z5, z6, z7⟩ := hz; exact ⟨z, ⟨cz _ _ z0, cz _ _ z1, cz _ _ z2, cz _ _ z3, cz _ _ z4, cz _ _ z5, cz _ _ z6, cz _ _ z7⟩, hb.kept g, ha.kept g, hzi⟩
theorem RawA.In.gr {w w' : World} {a : RawA} (h : a.In w) (g : Gr w w') : a.In w' := ⟨h.byt.kept g, h.recs.up g, h.e1, h.k0, h.k1, h.bm, h.rm⟩
structure WRaws (w : World) (p : Option Addr) (n c : Nat) : Prop where
 cap : n ≤ c
 most : c ≤ maxLen
 lies : 0 < n → ∃ b o, p = some ⟨b, o, none⟩ ∧ ∀ i, i < n → ∃ a : RawA, (∀ j v, a.cells[j]? = some v → w.cell? ⟨b, o + i * 5 + j, none⟩ = some v) ∧ a.In w
def RawRow (V : World) (b A : Nat) (a : RawA) : Prop :=
 V.cell? ⟨b, A, none⟩ = some (.int .i64 a.k) ∧ V.cell? ⟨b, A + 1, none⟩ = some (.int .u64 a.ep) ∧ V.cell? ⟨b, A + 2, none⟩ = some (.slice a.q a.m a.c) ∧ V.cell? ⟨b, A + 3, none⟩ = some (.slice a.rp a.rn a.rc) ∧ V.cell? ⟨b, A + 4, none⟩ = some (.bool a.any)
theorem WRaws.row {w : World} {p : Option Addr} {n c : Nat} (h : WRaws w p n c) (k : Nat) (hk : k < n) : ∃ b o a, p = some ⟨b, o, none⟩ ∧ ∀ V, Gr w V → RawRow V b (o + k * 5) a ∧ a.In V := by
 obtain ⟨b, o, rfl, hc⟩ := h.lies (by omega); obtain ⟨a, h1, h2⟩ := hc k hk; refine ⟨b, o, a, rfl, fun V g => ?_⟩
 have hv : ∀ j v, (RawA.cells a)[j]? = some v → V.cell? ⟨b, o + k * 5 + j, none⟩ = some v := fun j v hv => by rw [g.cell (World.block_lt_of_cell? w _ (h1 j v hv))]; exact h1 j v hv
 exact ⟨⟨hv 0 _ rfl, hv 1 _ rfl, hv 2 _ rfl, hv 3 _ rfl, hv 4 _ rfl⟩, h2.gr g⟩
end Go.Proofs.YtlijbgapkmfnaaaGreat
namespace Go.Proofs.YtlijbgapkmfnaaaGreat
open Go.RowKit
theorem asking_mk (n l g : Int) (F d : Nat) (w : World) :
  Calls Tryz.prog 128 #[.agg #[.int .i64 n, .int .i64 l, .int .i64 g], .func (.func F) #[] #[.pointer (some ⟨d, 0, none⟩)]] w fun e w' => e = .returned (.func (.func 148) #[] #[.pointer (some ⟨w.heap.size, 0, none⟩), .pointer (some ⟨w.heap.size + 1, 0, none⟩)]) ∧ Blk w' w.heap.size TY #[.int .i64 n, .int .i64 l, .int .i64 g] ∧ Blk w' (w.heap.size + 1) TF #[.func (.func F) #[] #[.pointer (some ⟨d, 0, none⟩)]] ∧ Gr w w' := by
 have HG := Lib.hid (((Gr.refl w).alloc (Nat.le_refl _) (.cells #[.int .i64 n, .int .i64 l, .int .i64 g] TY)).alloc (by simp) (.cells #[.func (.func F) #[] #[.pointer (some ⟨d, 0, none⟩)]] TF)); have HB := Lib.hid ((Blk.new w TY #[.int .i64 n, .int .i64 l, .int .i64 g]).alloc (.cells #[.func (.func F) #[] #[.pointer (some ⟨d, 0, none⟩)]] TF)); have HC := Lib.hid (Blk.new (w.alloc (.cells #[.int .i64 n, .int .i64 l, .int .i64 g] TY)) TF #[.func (.func F) #[] #[.pointer (some ⟨d, 0, none⟩)]])
 go_enter Tryz.func128, Tryz.ntmps128
 go_wp2_with fail
 go_ret
 exact ⟨rfl, HB.out, by simpa using HC.out, HG.out⟩
end Go.Proofs.YtlijbgapkmfnaaaGreat
namespace Go.Proofs.YtlijbgapkmfnaaaGreat
open Go.RowKit
set_option maxRecDepth 100000 in
theorem logAt_any (n l g i : Int) (w : World) : Calls Tryz.prog 113 #[.agg #[.int .i64 n, .int .i64 l, .int .i64 g], .int .i64 i] w (Ret2 (only (mayL n l g && (decide (0 ≤ i) && decide (i < l))) (3 + i)) (err (mayL n l g && (decide (0 ≤ i) && decide (i < l)))) w) := by
 have B0 := Lib.hid (Blk.new w TY #[.int .i64 n, .int .i64 l, .int .i64 g])
 go_enter Tryz.func113, Tryz.ntmps113
 go_wp2_with fail; refine (asking_mk _ _ _ _ _ _).mono ?_; rintro e w1 ⟨rfl, hb, hc, g1⟩
 simp only [World.size_alloc] at hb hc
 have B1 := Lib.hid (B0.out.below g1 B0.out.lt); have HA := Lib.hid (asking_log n l g i _ _ _ _ _ _ w1 hb hc fun hm W gW => log1_any n l g i w.heap.size W (B1.out.below gW B1.out.lt) hm); have G1 := Lib.hid (grow1 g1); clear hb hc g1; go_wp2_with fail; refine HA.out.mono ?_; rintro e w2 ⟨rfl, g2⟩; have G2 := Lib.hid (Gr.trans G1.out g2); clear g2; go_wp2_with fail
 go_returns
 exact ⟨rfl, G2.out⟩
end Go.Proofs.YtlijbgapkmfnaaaGreat
namespace Go.Proofs.YtlijbgapkmfnaaaGreat
open Go.RowKit Go.Maps
abbrev TRf : TypeId := 85
def nrm (z : Int) : Int := if z < 0 then -1 else z
def St.at (s : St) (i : Nat) : List Sec := s.ls.getD i Sec.zero :: s.t i
def Outer (w : World) (gs cs N : Nat) (V : Nat → Value) : Prop := w.ownsRow 0 TL 1 (.slice (some ⟨gs, 0, none⟩) N cs) N ((List.range N).map V)
theorem Outer.stays {w w' : World} {gs cs N : Nat} {V : Nat → Value} (h : Outer w gs cs N V) (e : w'.heap[gs]? = w.heap[gs]?) : Outer w' gs cs N V := by
 refine ⟨h.1, ?_⟩
 rcases h.2 with ⟨h2, _⟩ | ⟨g, cap, cur, h0, h1, hg, r⟩
 · cases h2
 ·
  cases h0
  exact .inr ⟨gs, cs, cur, rfl, h1, e.trans hg, r⟩
theorem Outer.cell {w : World} {gs cs N : Nat} {V : Nat → Value} (h : Outer w gs cs N V) (i : Nat) (hi : i < N) : w.cell? ⟨gs, i, none⟩ = some (V i) := by
 rw [World.ownsRow.cellAt h i (by omega)]
 simp [hi]
theorem Outer.frozen {w : World} {gs cs N : Nat} {V : Nat → Value} (h : Outer w gs cs N V) (i : Nat) : w.frozen? ⟨gs, i, none⟩ = false := World.ownsRow.frozenAt h i
theorem Outer.block {w : World} {gs cs N : Nat} {V : Nat → Value} (h : Outer w gs cs N V) : ∃ cur, w.heap[gs]? = some (.cells cur TL (0, 0)) := by
 rcases h.2 with ⟨h2, _⟩ | ⟨g, cap, cur, h0, h1, hg, r⟩
 · cases h2
 · cases h0; exact ⟨cur, hg⟩
theorem Outer.set {w : World} {gs cs N : Nat} {V : Nat → Value} (h : Outer w gs cs N V) (i : Nat) (hi : i < N) (u : Value) : Outer (w.setCell ⟨gs, i, none⟩ u) gs cs N (fun j => if j = i then u else V j) := by
 have h2 := World.ownsRow.stored h i u
 unfold Outer
 have e : ((List.range N).map V).set i u = (List.range N).map (fun j => if j = i then u else V j) := by
  apply List.ext_getElem?
  intro j
  rw [List.getElem?_set]
  by_cases hj : j < N
  ·
   by_cases hji : i = j
   · subst hji; simp [hj]
   · simp [hj, hji, Ne.symm hji]
  ·
   have : ¬ i = j := by omega
   simp [hj, this]
 rw [← e]; exact h2.1
structure RfAt (w : World) (G : Nat → Prop) (b gs cs : Nat) (V : Nat → Value) (s : St) : Prop where
 pos : 0 < s.ls.length
 most : s.ls.length ≤ 65536
 lo : -9223372036854775808 ≤ s.fuse
 hi : s.fuse ≤ 9223372036854775807
 blk : Blk w b TRf #[.slice (some ⟨gs, 0, none⟩) s.ls.length cs, .int .i64 (nrm s.fuse), .bool s.dead, .int .i64 (s.writes : Int)]
 outer : Outer w gs cs s.ls.length V
 rows : ∀ i, i < s.ls.length → Row w (V i) (s.at i)
 ownB : G b
 ownS : G gs
 ownR : ∀ i g, i < s.ls.length → (V i).ownBlock = some g → G g
 low : ∀ k, G k → k < w.heap.size
def Rf (w : World) (G : Nat → Prop) (r : Value) (s : St) : Prop := ∃ b gs cs V, r = .pointer (some ⟨b, 0, none⟩) ∧ RfAt w G b gs cs V s
theorem RfAt.stays {w w' : World} {G : Nat → Prop} {b gs cs : Nat} {V : Nat → Value} {s : St} (h : RfAt w G b gs cs V s) (e : ∀ k, G k → w'.heap[k]? = w.heap[k]?) (hs : w.heap.size ≤ w'.heap.size) : RfAt w' G b gs cs V s :=
 ⟨h.pos, h.most, h.lo, h.hi, h.blk.stays (e b h.ownB), h.outer.stays (e gs h.ownS), fun i hi => (h.rows i hi).stays fun g hg => e g (h.ownR i g hi hg), h.ownB, h.ownS, h.ownR, fun k hk => Nat.lt_of_lt_of_le (h.low k hk) hs⟩
theorem RfAt.gr {w w' : World} {G : Nat → Prop} {b gs cs : Nat} {V : Nat → Value} {s : St} (h : RfAt w G b gs cs V s) (e : Gr w w') : RfAt w' G b gs cs V s := h.stays (fun k hk => e.block k (h.low k hk)) e.size
theorem Rf.stays {w w' : World} {G : Nat → Prop} {r : Value} {s : St} (h : Rf w G r s) (e : ∀ k, G k → w'.heap[k]? = w.heap[k]?) (hs : w.heap.size ≤ w'.heap.size) : Rf w' G r s := by
 obtain ⟨b, gs, cs, V, hp, h⟩ := h; exact ⟨b, gs, cs, V, hp, h.stays e hs⟩
theorem Rf.gr {w w' : World} {G : Nat → Prop} {r : Value} {s : St} (h : Rf w G r s) (e : Gr w w') : Rf w' G r s := by
 obtain ⟨b, gs, cs, V, hp, h⟩ := h; exact ⟨b, gs, cs, V, hp, h.gr e⟩
theorem Rf.low {w : World} {G : Nat → Prop} {r : Value} {s : St} (h : Rf w G r s) : ∀ k, G k → k < w.heap.size := by
 obtain ⟨b, gs, cs, V, hp, h⟩ := h; exact h.low
theorem RfAt.cells {w : World} {G : Nat → Prop} {b gs cs : Nat} {V : Nat → Value} {s : St} (h : RfAt w G b gs cs V s) :
  w.cell? ⟨b, 0, none⟩ = some (.slice (some ⟨gs, 0, none⟩) s.ls.length cs) ∧ w.cell? ⟨b, 1, none⟩ = some (.int .i64 (nrm s.fuse)) ∧ w.cell? ⟨b, 2, none⟩ = some (.bool s.dead) ∧ w.cell? ⟨b, 3, none⟩ = some (.int .i64 (s.writes : Int)) :=
 ⟨h.blk.cell 0, h.blk.cell 1, h.blk.cell 2, h.blk.cell 3⟩
theorem RfAt.apart {w : World} {G : Nat → Prop} {b gs cs : Nat} {V : Nat → Value} {s : St} (h : RfAt w G b gs cs V s) : b ≠ gs ∧ (∀ i g, i < s.ls.length → (V i).ownBlock = some g → g ≠ b ∧ g ≠ gs) := by
 obtain ⟨cur, hg⟩ := h.outer.block; have hb := h.blk
 unfold Blk at hb
 refine ⟨fun e => ?_, fun i g hi hv => ⟨fun e => ?_, fun e => ?_⟩⟩
 ·
  subst e
  rw [hg] at hb
  simp only [Option.some.injEq, Obj.cells.injEq] at hb
  exact absurd hb.2.1 (by decide)
 ·
  subst e; obtain ⟨cs2, hk⟩ := (h.rows i hi).kind hv
  rw [hk] at hb
  simp only [Option.some.injEq, Obj.cells.injEq] at hb
  exact absurd hb.2.1 (by decide)
 ·
  subst e; obtain ⟨cs2, hk⟩ := (h.rows i hi).kind hv
  rw [hk] at hg
  simp only [Option.some.injEq, Obj.cells.injEq] at hg
  exact absurd hg.2.1 (by decide)
theorem at_ne (s : St) (i : Nat) : s.at i ≠ [] := by unfold St.at; simp
theorem at_len (s : St) (i : Nat) : (s.at i).length = (s.t i).length + 1 := rfl
theorem at_last (s : St) (i : Nat) (h : (s.t i).length < (s.at i).length) : (s.at i)[(s.t i).length] = s.nw i := by
 have h1 : (s.at i).length - 1 < (s.at i).length := by omega
 have := last_at Sec.zero (s.at i) h1; have e : (s.at i).length - 1 = (s.t i).length := rfl; rw [show (s.at i)[(s.t i).length] = (s.at i)[(s.at i).length - 1] from rfl, this]
 unfold St.at St.nw
 rw [List.getLastD_cons]
theorem RfAt.block {w w' : World} {G : Nat → Prop} {b gs cs : Nat} {V : Nat → Value} {s s' : St} (h : RfAt w G b gs cs V s) (hls : s'.ls = s.ls) (ht : s'.t = s.t) (lo : -9223372036854775808 ≤ s'.fuse) (hi : s'.fuse ≤ 9223372036854775807)
  (hb : Blk w' b TRf #[.slice (some ⟨gs, 0, none⟩) s.ls.length cs, .int .i64 (nrm s'.fuse), .bool s'.dead, .int .i64 (s'.writes : Int)]) (e : ∀ k, G k → k ≠ b → w'.heap[k]? = w.heap[k]?) (hs : w.heap.size ≤ w'.heap.size) : RfAt w' G b gs cs V s' := by
 obtain ⟨a1, a2⟩ := h.apart; refine ⟨by rw [hls]; exact h.pos, by rw [hls]; exact h.most, lo, hi, by rw [hls]; exact hb, by rw [hls]; exact h.outer.stays (e gs h.ownS (fun e => a1 e.symm)), fun i hl => ?_, h.ownB, h.ownS, fun i g hl hg => h.ownR i g (by rw [hls] at hl; exact hl) hg, fun k hk => Nat.lt_of_lt_of_le (h.low k hk) hs⟩
 rw [hls] at hl
 have := (h.rows i hl).stays (w' := w') fun g hg => e g (h.ownR i g hl hg) (a2 i g hl hg).1
 unfold St.at at this ⊢
 rw [hls, ht]; exact this
theorem RfAt.ext {w : World} {G : Nat → Prop} {b gs cs : Nat} {V : Nat → Value} {s s' : St} (h : RfAt w G b gs cs V s) (hlen : s'.ls.length = s.ls.length) (hat : ∀ j, j < s.ls.length → s'.at j = s.at j) (hf : s'.fuse = s.fuse) (hd : s'.dead = s.dead) (hw : s'.writes = s.writes) : RfAt w G b gs cs V s' := by
 refine ⟨by rw [hlen]; exact h.pos, by rw [hlen]; exact h.most, by rw [hf]; exact h.lo, by rw [hf]; exact h.hi, by rw [hlen, hf, hd, hw]; exact h.blk, by rw [hlen]; exact h.outer, fun i hi => ?_, h.ownB, h.ownS, fun i g hi hg => h.ownR i g (by rw [hlen] at hi; exact hi) hg, h.low⟩
 rw [hlen] at hi
 rw [hat i hi]; exact h.rows i hi
theorem RfAt.put {w : World} {G : Nat → Prop} {b gs cs : Nat} {V : Nat → Value} {s s' : St} (h : RfAt w G b gs cs V s) (i : Nat) (hi : i < s.ls.length) {v : Value} (hr : Row w v (s'.at i)) (hlen : s'.ls.length = s.ls.length) (hat : ∀ j, j < s.ls.length → j ≠ i → s'.at j = s.at j) (hf : s'.fuse = s.fuse) (hd : s'.dead = s.dead) (hw : s'.writes = s.writes) :
  RfAt (w.setCell ⟨gs, i, none⟩ v) (fun k => G k ∨ v.ownBlock = some k) b gs cs (fun j => if j = i then v else V j) s' := by
 obtain ⟨a1, a2⟩ := h.apart
 have hset : ∀ k, k ≠ gs → (w.setCell ⟨gs, i, none⟩ v).heap[k]? = w.heap[k]? := fun k hk => Below.heap_setCell w _ v k hk
 have hsz : (w.setCell ⟨gs, i, none⟩ v).heap.size = w.heap.size := by simp [World.setCell]
 have hvk : ∀ g, v.ownBlock = some g → g ≠ gs := fun g hg e => by
  subst e; obtain ⟨cur, hk⟩ := h.outer.block; obtain ⟨cs2, hk2⟩ := hr.kind hg
  rw [hk2] at hk
  simp only [Option.some.injEq, Obj.cells.injEq] at hk
  exact absurd hk.2.1 (by decide)
 refine ⟨by rw [hlen]; exact h.pos, by rw [hlen]; exact h.most, by rw [hf]; exact h.lo, by rw [hf]; exact h.hi, by rw [hlen, hf, hd, hw]; exact h.blk.stays (hset b a1), by rw [hlen]; exact h.outer.set i hi v, fun j hj => ?_, .inl h.ownB, .inl h.ownS, fun j g hj hg => ?_, ?_⟩
 ·
  rw [hlen] at hj
  by_cases hji : j = i
  ·
   subst hji
   simp only [if_pos]
   exact hr.stays fun g hg => hset g (hvk g hg)
  ·
   simp only [if_neg hji]
   rw [hat j hj hji]
   exact (h.rows j hj).stays fun g hg => hset g (a2 j g hj hg).2
 ·
  rw [hlen] at hj
  by_cases hji : j = i
  ·
   simp only [if_pos hji] at hg
   exact .inr hg
  ·
   simp only [if_neg hji] at hg
   exact .inl (h.ownR j g hj hg)
 ·
  rintro k (hk | hk)
  · rw [hsz]; exact h.low k hk
  · rw [hsz]; exact hr.lt k hk
theorem upd_put {w0 w : World} {G : Nat → Prop} (hg : Gr w0 w) {gs i : Nat} (hG : G gs) {v : Value} (hv : ∀ g, v.ownBlock = some g → w0.heap.size ≤ g) : Upd G (fun k => G k ∨ v.ownBlock = some k) w0 (w.setCell ⟨gs, i, none⟩ v) :=
 ⟨hg.os, hg.tape, hg.output, by simpa [World.setCell] using hg.size, fun k hk hG2 => (Below.heap_setCell w _ v k (fun e => hG2 (by rw [e]; exact hG))).trans (hg.block k hk), fun k hk => hk.imp id fun h => hv k h⟩
def ChgR (G : Nat → Prop) (r : Value) (s : St) (v : Value) (w : World) (e : Ending) (w' : World) : Prop := ∃ G', e = .returned v ∧ Rf w' G' r s ∧ Upd G G' w w'
end Go.Proofs.YtlijbgapkmfnaaaGreat
