/-
  Texts, put together: Pool1 Disk1 Disk2 Disk3.
-/
import Derived.Test.YtaemmknijmhnoaaGreatK2
set_option linter.unusedVariables false
set_option linter.unusedSimpArgs false
/-
  The code's pool in memory: a frame's block, a map of frames.
-/
namespace Go.Proofs.YtaemmknijmhnoaaGreat
open Go.RowKit Go.Maps

abbrev TPl : TypeId := 80
abbrev TFr : TypeId := 91
abbrev TPm : TypeId := 78
/-- A page in memory. -/
structure PFr where
  pay : List Int
  lsn : Nat
  first : Nat
  dirty : Bool
  used : Bool
structure PFr.In (f : PFr) : Prop where
  pay : PIsSec f.pay
  l : f.lsn ≤ 18446744073709551615
  f : f.first ≤ 18446744073709551615
def PFr.rest (f : PFr) : List Value := [.int .u64 (f.lsn : Int), .int .u64 (f.first : Int), .bool f.dirty, .bool f.used]
def PFr.cells (f : PFr) : Array Value := ((PSx f.pay).cells ++ f.rest).toArray
theorem PFr.size (f : PFr) : f.cells.size = 252 := by simp [PFr.cells, PFr.rest, PSec.cells_len]
theorem PFr.at (f : PFr) (i : Nat) : f.cells[248 + i]? = f.rest[i]? := by
  unfold PFr.cells
  rw [List.getElem?_toArray, List.getElem?_append_right (by rw [PSec.cells_len]; omega), PSec.cells_len, Nat.add_sub_cancel_left]
theorem PFr.c4 {w : World} {b : Nat} {f : PFr} (h : Blk w b TFr f.cells) : w.cell? ⟨b, 248, none⟩ = some (.int .u64 (f.lsn : Int)) ∧ w.cell? ⟨b, 249, none⟩ = some (.int .u64 (f.first : Int)) ∧ w.cell? ⟨b, 250, none⟩ = some (.bool f.dirty) ∧ w.cell? ⟨b, 251, none⟩ = some (.bool f.used) :=
  ⟨(h.cell 248).trans (f.at 0), (h.cell 249).trans (f.at 1), (h.cell 250).trans (f.at 2), (h.cell 251).trans (f.at 3)⟩
theorem PFr.range {w : World} {b : Nat} {f : PFr} (h : Blk w b TFr f.cells) : w.rangeAt b 0 (PSx f.pay).cells := fun j v hv => by
  rw [Nat.zero_add, h.cell j]
  unfold PFr.cells
  rw [List.getElem?_toArray, List.getElem?_append_left (List.getElem?_eq_some_iff.1 hv).1]
  exact hv
theorem PFr.put (f : PFr) (i : Nat) (hi : i < 4) (v : Value) : f.cells.setIfInBounds (248 + i) v = ((PSx f.pay).cells ++ f.rest.set i v).toArray := by
  unfold PFr.cells
  rw [List.setIfInBounds_toArray, List.set_append_right _ _ (by rw [PSec.cells_len]; omega), PSec.cells_len, Nat.add_sub_cancel_left]
theorem PFr.setLsn (f : PFr) (n : Nat) : f.cells.setIfInBounds 248 (.int .u64 (n : Int)) = ({ f with lsn := n } : PFr).cells := f.put 0 (by decide) _
theorem PFr.setFirst (f : PFr) (n : Nat) : f.cells.setIfInBounds 249 (.int .u64 (n : Int)) = ({ f with first := n } : PFr).cells := f.put 1 (by decide) _
theorem PFr.setDirty (f : PFr) (x : Bool) : f.cells.setIfInBounds 250 (.bool x) = ({ f with dirty := x } : PFr).cells := f.put 2 (by decide) _
theorem PFr.setUsed (f : PFr) (x : Bool) : f.cells.setIfInBounds 251 (.bool x) = ({ f with used := x } : PFr).cells := f.put 3 (by decide) _
/-- Bytes are laid into its page. -/
theorem PFr.laid (f : PFr) (hf : PIsSec f.pay) (F : Nat) (ys : List Int) (k : Wd.Small ys) (h : F + ys.length ≤ 248) :
    (f.cells.toList.take F ++ ys.map (Value.int .u8) ++ f.cells.toList.drop (F + (ys.map (Value.int .u8)).length)).toArray = ({ f with pay := Play f.pay F ys } : PFr).cells := by
  have hl := Play_cells hf k h
  have e : f.cells.toList = (PSx f.pay).cells ++ f.rest := rfl
  have hc : ((PSx f.pay).cells.take F ++ (ys.map (Value.int .u8) ++ (PSx f.pay).cells.drop (F + (ys.map (Value.int .u8)).length))) = (PSx (Play f.pay F ys)).cells := by
    have := congrArg Array.toList hl
    simpa [Psec] using this
  rw [e, List.take_append_of_le_length (by rw [PSec.cells_len]; omega), List.drop_append_of_le_length (by rw [PSec.cells_len, List.length_map]; omega)]
  show (_ : List Value).toArray = ((PSx (Play f.pay F ys)).cells ++ f.rest).toArray
  rw [← hc]
  simp [List.append_assoc]
/-- The map of frames: block m; B says in which block a page's frame lies. -/
def ptrB (o : Option Nat) : Value := .pointer (o.map fun b => ⟨b, 0, none⟩)
def Fm (w : World) (m n : Nat) (B : Nat → Option Nat) : Prop :=
  ∃ D : DataW Value, w.ownsMap Tryz.prog TI eltR m n D ∧ (∀ i, i < 65536 → D.atKey (key i) (.held (.pointer none)) = .held (ptrB (B i))) ∧ (∀ i, i < 65536 → (has D (key i) = true ↔ B i ≠ none)) ∧ (∀ k, has D k = true → ∃ i, i < 65536 ∧ k = key i)
theorem Fm.stays {w w' : World} {m n : Nat} {B : Nat → Option Nat} (h : Fm w m n B) (e : w'.heap[m]? = w.heap[m]?) : Fm w' m n B := by
  obtain ⟨D, h1, h2⟩ := h
  exact ⟨D, ownsMap_stays h1 e, h2⟩
theorem Fm.lt {w : World} {m n : Nat} {B : Nat → Option Nat} (h : Fm w m n B) : m < w.heap.size := by
  obtain ⟨D, h1, _⟩ := h
  exact h1.lt
/-- The look-up of a page. -/
theorem Fm.look {w : World} {m n : Nat} {B : Nat → Option Nat} (h : Fm w m n B) (i : Nat) (hi : i < 65536) :
    (Instr.lookup TPm (.map (some m)) (.int .i64 (i : Int)) false).run Tryz.prog w = .ok (ptrB (B i)) w := by
  obtain ⟨D, ho, ha, _, _⟩ := h
  obtain ⟨v, ps, hr, hv⟩ := ho.lookup (t := TPm) (e := 87) (int_keyed Tryz.underlying3) Tryz.underlying78 (z := .pointer none) (show (zeroValue 87).run Tryz.prog w = .ok (.pointer none) w from Tryz.zeroValue87 w) (zd := .held (.pointer none)) (zp := []) rfl (key := .int .i64 (i : Int)) (kl := key i)
    (keyOf_int_mk Tryz.underlying3 (WalkArith.wf_i64 (by omega)))
  rw [ha i hi] at hv
  simp only [eltR, Option.some.injEq, Prod.mk.injEq, DataW.held.injEq] at hv
  rw [hr, hv.1]
end Go.Proofs.YtaemmknijmhnoaaGreat

namespace Go.Proofs.YtaemmknijmhnoaaGreat
open Go.RowKit Go.Maps

theorem DkAt.cells {w : World} {F : Nat → Prop} {b : Nat} {lv : Value} {m : Nat} {L : Nat → Value} {s : St} (h : DkAt w F b lv m L s) :
    w.cell? ⟨b, 0, none⟩ = some lv ∧ w.cell? ⟨b, 1, none⟩ = some (.map (some m)) ∧ w.cell? ⟨b, 2, none⟩ = some (.int .i64 s.fuse) ∧ w.cell? ⟨b, 3, none⟩ = some (.bool s.dead) ∧ w.cell? ⟨b, 4, none⟩ = some (.int .i64 (s.writes : Int)) :=
  ⟨h.blk.cell 0, h.blk.cell 1, h.blk.cell 2, h.blk.cell 3, h.blk.cell 4⟩
theorem DkAt.lv {w : World} {F : Nat → Prop} {b : Nat} {lv : Value} {m : Nat} {L : Nat → Value} {s : St} (h : DkAt w F b lv m L s) : ∃ g c, lv = .slice (some ⟨g, 0, none⟩) s.ls.length c :=
  let ⟨g, c, e, _⟩ := h.ls.full (fun e => by have := h.ok.pos; rw [e] at this; simp at this)
  ⟨g, c, e⟩

set_option maxRecDepth 100000 in
theorem missing_no {F : Nat → Prop} {b : Nat} {lv : Value} {m : Nat} {L : Nat → Value} {s : St} (w : World) (h : DkAt w F b lv m L s) : Calls Tryz.prog 56 #[.pointer (some ⟨b, 0, none⟩)] w fun e w' => e = .returned (.bool false) ∧ w = w' := by
  obtain ⟨h0, h1, h2, h3, h4⟩ := h.cells
  obtain ⟨g, c, rfl⟩ := h.lv
  obtain ⟨N, hN⟩ : ∃ N, N = s.ls.length := ⟨_, rfl⟩
  have hp := h.ok.pos
  rw [← hN] at h0 hp
  have hz : ((N : Int) == 0) = false := by simp; omega
  clear h hN h1 h2 h3 h4
  go_enter Tryz.func56, Tryz.ntmps56
  go_wp2
  go_ret
  exact ⟨rfl, rfl⟩

def askE (n : Nat) (i : Int) : Int := if i < 0 ∨ (n : Int) ≤ i then 2 else 0

set_option maxRecDepth 100000 in
theorem asked_any {F : Nat → Prop} {b : Nat} {lv : Value} {m : Nat} {L : Nat → Value} {s : St} (w : World) (h : DkAt w F b lv m L s) (i : Int) : Calls Tryz.prog 54 #[.pointer (some ⟨b, 0, none⟩), .int .i64 i] w fun e w' => e = .returned (.int .i64 (askE s.ls.length i)) ∧ w = w' := by
  have HM := Lib.hid (missing_no w h)
  obtain ⟨h0, h1, h2, h3, h4⟩ := h.cells
  obtain ⟨g, c, rfl⟩ := h.lv
  obtain ⟨N, hN⟩ : ∃ N, N = s.ls.length := ⟨_, rfl⟩
  rw [← hN] at h0 ⊢
  clear h hN h1 h2 h3 h4
  by_cases hi : i < 0
  · have HE : Hid (askE N i = 2) := Lib.hid (by unfold askE; rw [if_pos (.inl hi)])
    go_enter Tryz.func54, Tryz.ntmps54
    go_wp2_with fail
    refine HM.out.mono ?_
    rintro e w' ⟨rfl, rfl⟩
    go_wp2
    go_ret
    exact ⟨ret_i HE.out.symm, rfl⟩
  · by_cases hj : (N : Int) ≤ i
    · have HE : Hid (askE N i = 2) := Lib.hid (by unfold askE; rw [if_pos (.inr hj)])
      go_enter Tryz.func54, Tryz.ntmps54
      go_wp2_with fail
      refine HM.out.mono ?_
      rintro e w' ⟨rfl, rfl⟩
      go_wp2
      go_ret
      exact ⟨ret_i HE.out.symm, rfl⟩
    · have HE : Hid (askE N i = 0) := Lib.hid (by unfold askE; rw [if_neg (by omega)])
      go_enter Tryz.func54, Tryz.ntmps54
      go_wp2_with fail
      refine HM.out.mono ?_
      rintro e w' ⟨rfl, rfl⟩
      go_wp2
      go_ret
      exact ⟨ret_i HE.out.symm, rfl⟩

theorem nw_none {s : St} {i : Nat} (h : s.t i = []) : s.nw i = s.ls.getD i Sec.zero := by unfold St.nw; rw [h]; rfl
theorem last_at {α : Type} (d : α) : ∀ (l : List α) (h : l.length - 1 < l.length), l[l.length - 1] = l.getLastD d
  | [], h => by simp at h
  | x :: r, h => by rw [← List.getLast_eq_getElem (by simp), List.getLast_eq_getLastD, List.getLastD_cons]
theorem nw_some {s : St} {i : Nat} (h : (s.t i).length - 1 < (s.t i).length) : (s.t i)[(s.t i).length - 1] = s.nw i := last_at _ _ h

set_option maxRecDepth 100000 in
set_option maxHeartbeats 1000000 in
theorem newest_any {F : Nat → Prop} {b : Nat} {lv : Value} {m : Nat} {L : Nat → Value} {s : St} (w : World) (h : DkAt w F b lv m L s) (i : Nat) (hi : i < s.ls.length) : Calls Tryz.prog 55 #[.pointer (some ⟨b, 0, none⟩), .int .i64 (i : Int)] w fun e w' => e = .returned (.agg (sec (s.nw i))) ∧ Gr w w' := by
  have hi2 : (i : Int) < 65536 := by have := h.ok.most; omega
  have hg : Gr w (w.alloc (.cells (sec Sec.zero) TS)) := (Gr.refl w).alloc (Nat.le_refl _) _
  have h' := h.gr hg
  obtain ⟨h0, h1, h2, h3, h4⟩ := h'.cells
  obtain ⟨g, c, rfl⟩ := h.lv
  have HK := Lib.hid (h'.map.look i hi h.ok.most)
  have HZ := Lib.hid zero_sec
  have HN := Lib.hid (Blk.new w TS (sec Sec.zero))
  have hN : (i : Int) < (s.ls.length : Int) := by omega
  clear h2 h3 h4
  by_cases ht : s.t i = []
  · have HW := Lib.hid (nw_none ht)
    have hL : L i = nilS := by
      obtain ⟨D, n, ho, hn, ha, hh, _⟩ := h'.map
      have : has D (key i) = false := by
        cases hc : has D (key i) with
        | false => rfl
        | true => exact absurd ht ((hh i hi).1 hc)
      have e := ha i hi
      rw [atKey_of_not_has this] at e
      simpa using e.symm
    have hk := HK.out
    rw [hL] at hk
    have HL := Lib.hid (h'.ls.lies i hi)
    have HS : Hid (s.ls[i] = s.nw i) := Lib.hid (by rw [HW.out]; simp [List.getD, hi])
    obtain ⟨N, hN⟩ : ∃ N, N = s.ls.length := ⟨_, rfl⟩
    obtain ⟨x, hx⟩ : ∃ x, x = s.ls[i] := ⟨_, rfl⟩
    rw [← hx] at HL HS
    rw [← hN] at h0 hi
    clear h h' HK ht hL HW hN hx
    go_enter Tryz.func55, Tryz.ntmps55
    have hz := HZ.out
    clear HZ
    go_wp2_with (first | (refine wpList_load_sec rfl _ rfl HL.out rfl ?_) | (refine wpList_store_sec rfl _ _ rfl HN.out rfl rfl ?_))
    exact bodyPost_ret (results_sec rfl _ _ _ _ rfl (HN.out.row _)) rfl ⟨by rw [HS.out], below_setRow hg (Nat.le_refl _) _⟩
  · have hl : (s.t i).length - 1 < (s.t i).length := by have := List.length_pos_iff.2 ht; omega
    have hlen : (s.t i).length ≤ 9223372036854775807 := by
      obtain ⟨g', c', _, _, h5, h6⟩ := (h.rows i).full ht
      unfold maxLen at h6; omega
    have hr := h'.rows i
    obtain ⟨g', c', e, _⟩ := hr.full ht
    have hk := HK.out
    rw [e] at hk hr
    have HL := Lib.hid (hr.lies _ hl)
    have HS := Lib.hid (nw_some hl)
    rw [HS.out] at HL
    obtain ⟨k, hM⟩ : ∃ k, (s.t i).length = k + 1 := ⟨(s.t i).length - 1, by omega⟩
    have hk1 : (s.t i).length - 1 = k := by omega
    rw [hk1] at HL
    rw [hM] at hk hlen
    have hpos : (0 : Int) < ((k + 1 : Nat) : Int) := by omega
    clear h h' HK hr e hM h0 ht HS hi hi2 hN hl hk1
    go_enter Tryz.func55, Tryz.ntmps55
    have hz := HZ.out
    clear HZ
    go_wp2_with (first | (refine wpList_load_sec rfl _ rfl HL.out rfl ?_) | (refine wpList_store_sec rfl _ _ rfl HN.out rfl rfl ?_))
    exact bodyPost_ret (results_sec rfl _ _ _ _ rfl (HN.out.row _)) rfl ⟨rfl, below_setRow hg (Nat.le_refl _) _⟩

end Go.Proofs.YtaemmknijmhnoaaGreat

namespace Go.Proofs.YtaemmknijmhnoaaGreat
open Go.RowKit Go.Maps

/-! ### sectors that are noughts -/
theorem zero_cells : Sec.zero.cells = List.replicate 256 (.int .u8 0) := by
  unfold Sec.cells Sec.zero
  rw [List.map_replicate]
  rfl
theorem cellsOf_zero (n : Nat) : cellsOf (List.replicate n Sec.zero) = List.replicate (n * 256) (.int .u8 0) := by
  induction n with
  | zero => rfl
  | succ n ih =>
    rw [List.replicate_succ, ← List.singleton_append, cellsOf_app, cellsOf_one, ih, zero_cells, List.replicate_append_replicate]
    congr 1; omega
theorem made_const (c : Value) (K m : Nat) (h : 0 < K) : (madeCells (List.replicate K c).toArray m).toList = List.replicate m c := by
  apply List.ext_getElem?
  intro j
  by_cases hj : j < m
  · simp [madeCells, hj, List.getElem?_replicate, Nat.mod_lt _ h]
  · simp [madeCells, hj, List.getElem?_replicate]
theorem made_zero (n : Nat) : (madeCells (Value.agg (sec Sec.zero)).cells (n * 256)).toList = cellsOf (List.replicate n Sec.zero) := by
  have h : (Value.agg (sec Sec.zero)).cells = (List.replicate 256 (Value.int .u8 0)).toArray := by
    show (sec Sec.zero) = _
    unfold sec
    rw [zero_cells]
  rw [cellsOf_zero, h, made_const _ _ _ (by omega)]

def Small (n : Int) : Prop := 1 ≤ n ∧ n ≤ 65536

set_option maxRecDepth 100000 in
theorem may_yes (n : Int) (w : World) (h : Small n) : Calls Tryz.prog 68 #[.int .i64 n] w fun e w' => e = .returned (.bool true) ∧ w = w' := by
  obtain ⟨h1, h2⟩ := h
  go_enter Tryz.func68, Tryz.ntmps68
  go_wp2
  go_ret
  exact ⟨rfl, rfl⟩
/-- A disk on which these last. -/
def fresh (l : List Sec) : St := ⟨l, fun _ => [], -1, false, 0⟩
theorem fresh_ok {l : List Sec} (h1 : 0 < l.length) (h2 : l.length ≤ 65536) : (fresh l).Ok := ⟨h1, h2, fun _ _ => rfl, fun _ => Nat.zero_le _, by show (-9223372036854775808 : Int) ≤ -1; omega, by show (-1 : Int) ≤ 9223372036854775807; omega⟩

theorem Loose.made {w : World} {most N : Nat} : Loose (w.alloc (.map #[] 0)) w.heap.size most N (fun _ => nilS) (fun _ => []) :=
  ⟨.map [], 0, World.ownsMap_made _ _ _ _, Nat.zero_le _, fun i _ => rfl, fun i _ => ⟨(fun h => by cases h), fun h => absurd rfl h⟩, fun k h => by cases h⟩

theorem lasting_at (w : World) (v : Value) (l : List Sec) (h : Row w v l) (h1 : 0 < l.length) (h2 : l.length ≤ 65536) :
    DkAt ((w.alloc (.map #[] 0)).alloc (.cells #[v, .map (some w.heap.size), .int .i64 (-1), .bool false, .int .i64 0] TD)) (fun k => v.ownBlock = some k ∨ w.heap.size ≤ k ∧ k < w.heap.size + 2) (w.heap.size + 1) v w.heap.size (fun _ => nilS) (fresh l) := by
  have e1 : (w.alloc (.map #[] 0)).heap.size = w.heap.size + 1 := by simp
  have hg : Gr w ((w.alloc (.map #[] 0)).alloc (.cells #[v, .map (some w.heap.size), .int .i64 (-1), .bool false, .int .i64 0] TD)) := ((Gr.refl w).alloc (Nat.le_refl _) _).alloc (by simp) _
  refine ⟨fresh_ok h1 h2, ?_, h.gr hg, ?_, fun i => Row.empty _, (fun i j g h => by cases h), (fun i g h => by cases h), .inr ⟨by omega, by omega⟩, .inr ⟨by omega, by omega⟩, fun g hg => .inl hg, (fun i g h => by cases h), ?_⟩
  · have := Blk.new (w.alloc (.map #[] 0)) TD #[v, .map (some w.heap.size), .int .i64 (-1), .bool false, .int .i64 0]
    rwa [e1] at this
  · exact Loose.made.stays (Below.heap_alloc (w.alloc (.map #[] 0)) _ w.heap.size (by rw [e1]; omega))
  · rintro k (hk | ⟨_, hk⟩)
    · have := h.lt k hk
      have := hg.size
      simp; omega
    · simp; omega

set_option maxRecDepth 100000 in
theorem lasting_any (w : World) (v : Value) (l : List Sec) (h : Row w v l) (h1 : 0 < l.length) (h2 : l.length ≤ 65536) : Calls Tryz.prog 60 #[v] w fun e w' => ∃ p, e = .returned p ∧ Dk w' (fun k => v.ownBlock = some k ∨ w.heap.size ≤ k ∧ k < w.heap.size + 2) p (fresh l) ∧ Gr w w' := by
  have hg : Gr w ((w.alloc (.map #[] 0)).alloc (.cells #[v, .map (some w.heap.size), .int .i64 (-1), .bool false, .int .i64 0] TD)) := ((Gr.refl w).alloc (Nat.le_refl _) _).alloc (by simp) _
  have HA := Lib.hid (lasting_at w v l h h1 h2)
  obtain ⟨g, c, rfl, _⟩ := h.full (fun e => by rw [e] at h1; simp at h1)
  obtain ⟨n, hn⟩ : ∃ n, n = l.length := ⟨_, rfl⟩
  rw [← hn] at HA hg ⊢
  have hmm := @run_makeMap Tryz.prog
  clear h h1 h2 hn
  go_enter Tryz.func60, Tryz.ntmps60
  go_wp2
  go_ret
  exact ⟨_, rfl, ⟨_, _, _, _, rfl, HA.out⟩, hg⟩

/-- Answers of New, Of. -/
def RetNew (w w' : World) (e : Ending) (s : St) : Prop := ∃ p F, e = .returned (.tuple #[p, .int .i64 0]) ∧ Dk w' F p s ∧ Gr w w' ∧ ∀ k, F k → w.heap.size ≤ k

set_option maxRecDepth 100000 in
theorem New_yes (n : Nat) (w : World) (h : Small n) : Calls Tryz.prog 39 #[.int .i64 (n : Int)] w fun e w' => RetNew w w' e (fresh (List.replicate n Sec.zero)) := by
  have HM := Lib.hid (may_yes n w h)
  obtain ⟨h1, h2⟩ := h
  obtain ⟨i0, hi, hz0, hz1, hz2⟩ := info_parts info_sec
  have HI := Lib.hid hi
  have HZ0 := Lib.hid hz0
  have HZ1 := Lib.hid hz1
  have HZ2 := Lib.hid hz2
  clear hi hz0 hz1 hz2
  go_enter Tryz.func39, Tryz.ntmps39
  go_wp2_with fail
  refine HM.out.mono ?_
  rintro e w' ⟨rfl, rfl⟩
  go_wp2_with (at_make; refine wpList_make_full _ rfl _ _ TL rfl 0 TS i0 (.agg (sec Sec.zero)) 256 Tryz.underlying50 HI.out HZ0.out HZ1.out _ _ _ _ n rfl rfl rfl rfl ?b1 ?b2 (Nat.zero_le _) ?_)
  case b1 => rw [HZ2.out]; omega
  case b2 => unfold maxLen; omega
  intro w1 hown hgrow
  have hz := made_zero n
  simp only [Value.cells] at hz
  rw [hz] at hown
  clear hz
  have hr : Row w1 (.slice (some ⟨w.heap.size, 0, none⟩) n n) (List.replicate n Sec.zero) := by
    unfold Row
    rw [List.length_replicate]
    exact hown
  have HG : Hid (Gr w w1) := Lib.hid (Below.grown (Gr.refl w) hgrow (Nat.le_refl _) (fun k e => by cases e))
  have HC := Lib.hid (lasting_any w1 _ _ hr (by rw [List.length_replicate]; omega) (by rw [List.length_replicate]; omega))
  clear hown hgrow hr
  go_wp2_with fail
  refine HC.out.mono ?_
  rintro e w2 ⟨p, rfl, hd, hg⟩
  have HD := Lib.hid hd
  have HG2 := Lib.hid (Gr.trans HG.out hg)
  have hs := HG.out.size
  clear hd hg
  go_wp2_with fail
  go_ret2
  refine ⟨_, _, rfl, HD.out, HG2.out, ?_⟩
  rintro k (hk | ⟨hk, _⟩)
  · cases hk; exact Nat.le_refl _
  · omega

end Go.Proofs.YtaemmknijmhnoaaGreat

namespace Go.Proofs.YtaemmknijmhnoaaGreat
open Go.RowKit Go.Maps

theorem results_sec2 {fn : Func} {p q : Tmp} (h : fn.results = #[.cell p TS, .tmp q]) (tmps : Array Value) (w : World) (g : Nat) (s : Sec)
    (hp : tmps.getD p undef = .pointer (some ⟨g, 0, none⟩)) (hb : Blk w g TS (sec s)) : (results fn tmps).run Tryz.prog w = .ok (.tuple #[.agg (sec s), tmps.getD q undef]) w := by
  have hp' : tmps[p]?.getD undef = .pointer (some ⟨g, 0, none⟩) := by simpa using hp
  have hl := run_loadVar_row (P := Tryz.prog) w g TS TS (sec s) (0, 0) _ hb under_sec rfl (by rw [sec_size]; exact size_sec)
  simp [results, h, hp', asAddr, hl]

/-- Answers of Read. -/
def RetRead (w w' : World) (e : Ending) (s : Sec) (x : Int) : Prop := e = .returned (.tuple #[.agg (sec s), .int .i64 x]) ∧ Gr w w'

set_option maxRecDepth 100000 in
set_option maxHeartbeats 1000000 in
theorem Read_yes {F : Nat → Prop} {p : Value} {s : St} (w : World) (h : Dk w F p s) (i : Nat) (hi : i < s.ls.length) : Calls Tryz.prog 28 #[p, .int .i64 (i : Int)] w fun e w' => RetRead w w' e (s.nw i) 0 := by
  obtain ⟨b, lv, m, L, rfl, h⟩ := h
  have hg : Gr w (w.alloc (.cells (sec Sec.zero) TS)) := (Gr.refl w).alloc (Nat.le_refl _) _
  have h' := h.gr hg
  have ha := asked_any _ h' (i : Int)
  have he : askE s.ls.length (i : Int) = 0 := by unfold askE; rw [if_neg (by omega)]
  rw [he] at ha
  have HA := Lib.hid ha
  have HB := Lib.hid (newest_any _ h' i hi)
  have HG := Lib.hid hg
  have HN := Lib.hid (Blk.new w TS (sec Sec.zero))
  have hz := zero_sec
  clear he ha h h' hi hg
  go_enter Tryz.func28, Tryz.ntmps28
  go_wp2_with fail
  refine HA.out.mono ?_
  rintro e w1 ⟨rfl, rfl⟩
  clear hz
  go_wp2_with fail
  refine HB.out.mono ?_
  rintro e w1 ⟨rfl, g1⟩
  have HN1 := Lib.hid (HN.out.gr g1)
  have HG1 := Lib.hid (Gr.trans HG.out g1)
  have HS : Hid (w.heap.size ≤ w1.heap.size) := Lib.hid HG1.out.size
  clear g1 HG HN
  go_wp2_with (refine wpList_store_sec rfl _ _ rfl HN1.out rfl rfl ?_)
  exact bodyPost_ret (results_sec2 rfl _ _ _ _ rfl (HN1.out.row _)) rfl ⟨rfl, below_setRow HG1.out (Nat.le_refl _) _⟩

set_option maxRecDepth 100000 in
theorem Sectors_any {F : Nat → Prop} {p : Value} {s : St} (w : World) (h : Dk w F p s) : Calls Tryz.prog 64 #[p] w fun e w' => e = .returned (.int .i64 (s.ls.length : Int)) ∧ w = w' := by
  obtain ⟨b, lv, m, L, rfl, h⟩ := h
  have HM := Lib.hid (missing_no w h)
  obtain ⟨h0, h1, h2, h3, h4⟩ := h.cells
  obtain ⟨g, c, rfl⟩ := h.lv
  obtain ⟨N, hN⟩ : ∃ N, N = s.ls.length := ⟨_, rfl⟩
  rw [← hN] at h0 ⊢
  clear h hN h1 h2 h3 h4
  go_enter Tryz.func64, Tryz.ntmps64
  go_wp2_with fail
  refine HM.out.mono ?_
  rintro e w' ⟨rfl, rfl⟩
  go_wp2
  go_ret
  exact ⟨rfl, rfl⟩
set_option maxRecDepth 100000 in
theorem Writes_any {F : Nat → Prop} {p : Value} {s : St} (w : World) (h : Dk w F p s) : Calls Tryz.prog 30 #[p] w fun e w' => e = .returned (.int .i64 (s.writes : Int)) ∧ w = w' := by
  obtain ⟨b, lv, m, L, rfl, h⟩ := h
  have HM := Lib.hid (missing_no w h)
  obtain ⟨h0, h1, h2, h3, h4⟩ := h.cells
  clear h h1 h2 h0 h3
  go_enter Tryz.func30, Tryz.ntmps30
  go_wp2_with fail
  refine HM.out.mono ?_
  rintro e w' ⟨rfl, rfl⟩
  go_wp2
  go_ret
  exact ⟨rfl, rfl⟩

/-- One cell of the disk's own block is set. -/
theorem upd_cell {F : Nat → Prop} {w : World} {b i : Nat} (hb : F b) (v : Value) : Upd F F w (w.setCell ⟨b, i, none⟩ v) :=
  ⟨rfl, rfl, rfl, by simp [World.setCell], fun k _ hk => Below.heap_setCell w _ v k (fun e => hk (by rw [e]; exact hb)), fun k hk => .inl hk⟩
theorem Upd.trans {F F1 F2 : Nat → Prop} {w w1 w2 : World} (h : Upd F F1 w w1) (k : Upd F1 F2 w1 w2) : Upd F F2 w w2 :=
  ⟨k.os.trans h.os, k.tape.trans h.tape, k.output.trans h.output, Nat.le_trans h.size k.size, fun j hj hf => by
    rw [k.block j (by have := h.size; omega) (fun h1 => by
      rcases h.fresh j h1 with h2 | h2
      · exact hf h2
      · omega), h.block j hj hf], fun j hj => by
    rcases k.fresh j hj with h1 | h1
    · exact h.fresh j h1
    · exact .inr (by have := h.size; omega)⟩
/-- The disk's own block is set anew; the rest is as it was. -/
theorem DkAt.block {w w' : World} {F : Nat → Prop} {b : Nat} {lv : Value} {m : Nat} {L : Nat → Value} {s s' : St} (h : DkAt w F b lv m L s) (ok : s'.Ok) (hls : s'.ls = s.ls) (ht : s'.t = s.t) (hw : s.writes ≤ s'.writes)
    (hb : Blk w' b TD #[lv, .map (some m), .int .i64 s'.fuse, .bool s'.dead, .int .i64 (s'.writes : Int)]) (e : ∀ k, F k → k ≠ b → w'.heap[k]? = w.heap[k]?) (hs : w.heap.size ≤ w'.heap.size) : DkAt w' F b lv m L s' := by
  have hkind : ∀ {g : Nat} {cs : Array Value}, w.heap[g]? = some (.cells cs TS (0, 0)) → g ≠ b := fun {g cs} hg e => by
    subst e
    have h1 := h.blk
    unfold Blk at h1
    rw [hg] at h1
    simp only [Option.some.injEq, Obj.cells.injEq] at h1
    exact absurd h1.2.1 (by decide)
  have hm : m ≠ b := fun e => by
    subst e
    obtain ⟨D, n, ⟨es, c, h1, _⟩, _⟩ := h.map
    have h2 := h.blk
    unfold Blk at h2
    rw [h1] at h2
    cases h2
  have e1 : Row w' lv s.ls := h.ls.stays fun g hg => by
    obtain ⟨cs, hk⟩ := h.ls.kind hg
    exact e g (h.ownL g hg) (hkind hk)
  have e2 : ∀ i, Row w' (L i) (s.t i) := fun i => (h.rows i).stays fun g hg => by
    obtain ⟨cs, hk⟩ := (h.rows i).kind hg
    exact e g (h.ownR i g hg) (hkind hk)
  refine ⟨ok, hb, by rw [hls]; exact e1, ?_, fun i => by rw [ht]; exact e2 i, h.apart, h.apart0, h.ownB, h.ownM, h.ownL, h.ownR, fun k hk => Nat.lt_of_lt_of_le (h.low k hk) hs⟩
  rw [hls, ht]
  obtain ⟨D, n, ho, hn, r⟩ := h.map.stays (e m h.ownM hm)
  exact ⟨D, n, ho, by omega, r⟩

end Go.Proofs.YtaemmknijmhnoaaGreat

