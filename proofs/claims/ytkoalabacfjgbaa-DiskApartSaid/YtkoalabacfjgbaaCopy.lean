
/-
  A disk's copy.
-/
import Derived.Test.YtkoalabacfjgbaaCrashWalk
import Derived.Test.YtkoalabacfjgbaaDisk5
import Derived.Test.YtkoalabacfjgbaaFlowZ
namespace Go.Proofs.Ytkoalabacfjgbaa
open Go.RowKit Go.Maps

/-- A disk of which so many loose sectors are copied. -/
def St.cpart (s : St) (k : Nat) : St := { s with t := fun i => if i ∈ s.loose.take k then s.t i else [] }
theorem St.cpart_zero (s : St) : s.cpart 0 = { s with t := fun _ => [] } := by simp [St.cpart]
theorem St.cpart_all {s : St} (h : s.Ok) : s.cpart s.loose.length = s := by
  unfold St.cpart
  rw [List.take_length]
  have e : (fun i => if i ∈ s.loose then s.t i else []) = s.t := by
    funext i
    by_cases hi : i ∈ s.loose
    · rw [if_pos hi]
    · rw [if_neg hi]
      by_cases hN : i < s.ls.length
      · by_cases ht : s.t i = []
        · exact ht.symm
        · exact absurd (St.mem_loose.2 ⟨hN, ht⟩) hi
      · exact (h.out i (by omega)).symm
  rw [e]
theorem St.cpart_succ {s : St} {k i : Nat} (h : s.loose[k]? = some i) : s.cpart (k + 1) = { s.cpart k with t := fun j => if j = i then s.t i else (s.cpart k).t j } := by
  unfold St.cpart
  simp only
  congr 1
  funext j
  have hk : k < s.loose.length := (List.getElem?_eq_some_iff.1 h).1
  have he : s.loose[k] = i := (List.getElem?_eq_some_iff.1 h).2
  rw [List.take_succ_eq_append_getElem hk, he]
  by_cases hj : j = i
  · subst hj; simp
  · simp only [List.mem_append, List.mem_singleton, hj, or_false, if_false]
theorem St.cpart_ok {s : St} (h : s.Ok) (k : Nat) : (s.cpart k).Ok := ⟨h.pos, h.most, fun i hi => by
  show (if _ then _ else _) = _
  split
  · exact h.out i hi
  · rfl, fun i => by
  show (if _ then _ else _ : List Sec).length ≤ s.writes
  split
  · exact h.less i
  · exact Nat.zero_le _, h.lo, h.hi⟩
theorem Loose.mono {w : World} {m q r N : Nat} {L : Nat → Value} {t : Nat → List Sec} (h : Loose w m q N L t) (hq : q ≤ r) : Loose w m r N L t := by
  obtain ⟨D, n, ho, hn, rest⟩ := h
  exact ⟨D, n, ho, Nat.le_trans hn hq, rest⟩

set_option maxHeartbeats 1000000 in
/-- A disk of which one more sector has been laid loose, whole. -/
theorem DkAt.laid {w0 w1 w : World} {F : Nat → Prop} {b : Nat} {lv : Value} {m : Nat} {L : Nat → Value} {s : St} (h : DkAt w0 F b lv m L s) (i : Nat) (hi : i < s.ls.length) (ss : List Sec) (hne : ss ≠ []) (hls : ss.length ≤ s.writes) {n q : Nat} {D : DataW Value} (ho : w0.ownsMap Try.prog TI eltR m n D) (hn : n ≤ q) (hq : q + 1 ≤ 65536 + s.writes)
    (hat : ∀ i, i < s.ls.length → D.atKey (key i) (.held nilS) = .held (L i)) (hhas : ∀ i, i < s.ls.length → (has D (key i) = true ↔ s.t i ≠ [])) (hkeys : ∀ k, has D k = true → ∃ i, i < s.ls.length ∧ k = key i)
    (v : Value) (r1 : Row w1 v ss) (hfr : ∀ g, v.ownBlock = some g → w0.heap.size ≤ g) (g1 : Gr w0 w1) (ho2 : w.ownsMap Try.prog TI eltR m (n + 1) (D.put (key i) (.held v))) (g2 : w1.grownBy w (some m)) :
    ∃ F' L', DkAt w F' b lv m L' { s with t := fun j => if j = i then ss else s.t j } ∧ Loose w m (q + 1) s.ls.length L' (fun j => if j = i then ss else s.t j) ∧ ∀ k, F' k → F k ∨ w0.heap.size ≤ k := by
  have hbm := h.neM
  have hsz : w0.heap.size ≤ w.heap.size := Nat.le_trans g1.size g2.size
  have e2 : ∀ k, F k → k ≠ m → w.heap[k]? = w0.heap[k]? := fun k hk hm => (g2.block k (Nat.lt_of_lt_of_le (h.low k hk) g1.size) (fun e => hm (by cases e; rfl))).trans (g1.block k (h.low k hk))
  have hblk : Blk w b TD #[lv, .map (some m), .int .i64 s.fuse, .bool s.dead, .int .i64 (s.writes : Int)] := h.blk.stays (e2 b h.ownB hbm)
  have hvm : ∀ g, v.ownBlock = some g → g ≠ m := fun g hg e => by
    have h1 := hfr g hg
    have h2 := h.low m h.ownM
    omega
  have hrow : Row w v ss := r1.stays fun g hg => g2.block g (r1.lt g hg) (fun e => hvm g hg (by cases e; rfl))
  have hlvb : ∀ g, lv.ownBlock = some g → g ≠ b ∧ g ≠ m := fun g hg => row_ne h.ls hg h.blk ho
  have hnew : ∀ g, v.ownBlock = some g → ¬ (∃ j, (L j).ownBlock = some g) ∧ lv.ownBlock ≠ some g := fun g hg => by
    have h1 := hfr g hg
    refine ⟨fun ⟨j, e2⟩ => ?_, fun e2 => ?_⟩
    · have := (h.rows j).lt _ e2; omega
    · have := h.ls.lt _ e2; omega
  have hmap : Loose w m (q + 1) s.ls.length (fun j => if j = i then v else L j) (fun j => if j = i then ss else s.t j) := by
    refine ⟨D.put (key i) (.held v), n + 1, ho2, by omega, fun j hj => ?_, fun j hj => ?_, fun k hk => ?_⟩
    · by_cases hji : j = i
      · subst hji
        show _ = DataW.held (if j = j then v else L j)
        rw [if_pos rfl]
        exact atKey_put_same ho.isMap (key_lit j) _ _
      · show _ = DataW.held (if j = i then v else L j)
        rw [if_neg hji, atKey_put_other (fun e => hji (key_inj e))]
        exact hat j hj
    · by_cases hji : j = i
      · subst hji
        refine ⟨fun _ => ?_, fun _ => has_put_same ho.isMap (key_lit j) _⟩
        show (if j = j then ss else s.t j) ≠ []
        rw [if_pos rfl]
        exact hne
      · rw [has_put_other (fun e => hji (key_inj e))]
        show _ ↔ (if j = i then ss else s.t j) ≠ []
        rw [if_neg hji]
        exact hhas j hj
    · by_cases hki : k = key i
      · exact ⟨i, hi, hki⟩
      · rw [has_put_other hki] at hk
        exact hkeys k hk
  refine ⟨fun k => F k ∨ v.ownBlock = some k, fun j => if j = i then v else L j, ⟨?_, hblk, ?_, hmap.mono hq, ?_, ?_, ?_, .inl h.ownB, .inl h.ownM, fun g hg => .inl (h.ownL g hg), ?_, ?_⟩, hmap, fun k hk => ?_⟩
  · refine ⟨h.ok.pos, h.ok.most, fun j hj => ?_, fun j => ?_, h.ok.lo, h.ok.hi⟩
    · show (if j = i then _ else _) = _
      rw [if_neg (by have : s.ls.length ≤ j := hj; omega)]
      exact h.ok.out j hj
    · show (if j = i then _ else _ : List Sec).length ≤ s.writes
      split
      · exact hls
      · exact h.ok.less j
  · exact h.ls.stays fun g hg => e2 g (h.ownL g hg) (hlvb g hg).2
  · intro j
    by_cases hji : j = i
    · subst hji
      simp only [if_pos]
      exact hrow
    · simp only [if_neg hji]
      exact (h.rows j).stays fun g hg => e2 g (h.ownR j g hg) (row_ne (h.rows j) hg h.blk ho).2
  · intro j k g hj hk
    by_cases hji : j = i <;> by_cases hki : k = i
    · rw [hji, hki]
    · simp only [if_pos hji, if_neg hki] at hj hk
      exact absurd ⟨k, hk⟩ (hnew g hj).1
    · simp only [if_neg hji, if_pos hki] at hj hk
      exact absurd ⟨j, hj⟩ (hnew g hk).1
    · simp only [if_neg hji, if_neg hki] at hj hk
      exact h.apart j k g hj hk
  · intro j g hj
    by_cases hji : j = i
    · simp only [if_pos hji] at hj
      exact (hnew g hj).2
    · simp only [if_neg hji] at hj
      exact h.apart0 j g hj
  · intro j g hj
    by_cases hji : j = i
    · simp only [if_pos hji] at hj
      exact .inr hj
    · simp only [if_neg hji] at hj
      exact .inl (h.ownR j g hj)
  · rintro k (hk | hk)
    · exact Nat.lt_of_lt_of_le (h.low k hk) hsz
    · exact hrow.lt k hk
  · rcases hk with hk | hk
    · exact .inl hk
    · exact .inr (hfr k hk)

/-- The copy, ahead of what lies loose. -/
theorem copy_start {w w2 : World} {s : St} (hok : s.Ok) {lv lv' : Value} {m : Nat} (hG : Gr w w2) (hB : Blk w2 w.heap.size TD #[lv, .map (some m), .int .i64 s.fuse, .bool s.dead, .int .i64 (s.writes : Int)]) (hr : Row w2 lv' s.ls) (hf : ∀ g, lv'.ownBlock = some g → w.heap.size + 1 ≤ g) :
    Gr w (((w2.setCell ⟨w.heap.size, 0, none⟩ lv').alloc (.map #[] 0)).setCell ⟨w.heap.size, 1, none⟩ (.map (some w2.heap.size))) ∧ (((w2.setCell ⟨w.heap.size, 0, none⟩ lv').alloc (.map #[] 0)).setCell ⟨w.heap.size, 1, none⟩ (.map (some w2.heap.size))).heap.size = w2.heap.size + 1 ∧
    ∃ F' L', DkAt (((w2.setCell ⟨w.heap.size, 0, none⟩ lv').alloc (.map #[] 0)).setCell ⟨w.heap.size, 1, none⟩ (.map (some w2.heap.size))) F' w.heap.size lv' w2.heap.size L' (s.cpart 0) ∧ Loose (((w2.setCell ⟨w.heap.size, 0, none⟩ lv').alloc (.map #[] 0)).setCell ⟨w.heap.size, 1, none⟩ (.map (some w2.heap.size))) w2.heap.size 0 s.ls.length L' (s.cpart 0).t ∧ ∀ k, F' k → w.heap.size ≤ k := by
  have hs1 : (w2.setCell ⟨w.heap.size, 0, none⟩ lv').heap.size = w2.heap.size := by simp [World.setCell]
  have hlt : w.heap.size < w2.heap.size := hB.lt
  have hM0 : Loose ((w2.setCell ⟨w.heap.size, 0, none⟩ lv').alloc (.map #[] 0)) w2.heap.size 0 s.ls.length (fun _ => nilS) (fun _ => []) := by
    have h := Loose.made (w := w2.setCell ⟨w.heap.size, 0, none⟩ lv') (most := 0) (N := s.ls.length)
    rwa [hs1] at h
  have hB1 := ((hB.set 0 lv').gr (Gr.new _ (.map #[] 0))).set 1 (.map (some w2.heap.size))
  generalize hV : (((w2.setCell ⟨w.heap.size, 0, none⟩ lv').alloc (.map #[] 0)).setCell ⟨w.heap.size, 1, none⟩ (.map (some w2.heap.size))) = V at hB1 ⊢
  have hsz : V.heap.size = w2.heap.size + 1 := by rw [← hV]; simp [World.setCell]
  have hother : ∀ k, k < w2.heap.size → k ≠ w.heap.size → V.heap[k]? = w2.heap[k]? := fun k hk hne => by
    rw [← hV]
    exact (Below.heap_setCell _ ⟨w.heap.size, 1, none⟩ _ k hne).trans ((Below.heap_alloc _ _ k (by rw [hs1]; exact hk)).trans (Below.heap_setCell _ ⟨w.heap.size, 0, none⟩ _ k hne))
  have hM : ∀ q, Loose V w2.heap.size q s.ls.length (fun _ => nilS) (fun _ => []) := fun q => by
    have h := hM0.stays (w' := V) (by rw [← hV]; exact Below.heap_setCell _ ⟨w.heap.size, 1, none⟩ _ _ (by show w2.heap.size ≠ w.heap.size; omega))
    exact h.mono (Nat.zero_le _)
  refine ⟨?_, hsz, fun k => k = w.heap.size ∨ k = w2.heap.size ∨ lv'.ownBlock = some k, fun _ => nilS, ?_, ?_, ?_⟩
  · have g1 := hG.setCell (p := ⟨w.heap.size, 0, none⟩) (Nat.le_refl _) lv'
    have g2 := g1.alloc g1.size (.map #[] 0)
    rw [← hV]
    exact g2.setCell (p := ⟨w.heap.size, 1, none⟩) (Nat.le_refl _) _
  · rw [St.cpart_zero]
    refine ⟨⟨hok.pos, hok.most, fun _ _ => rfl, fun _ => Nat.zero_le _, hok.lo, hok.hi⟩, ?_, hr.stays fun g hg => hother g (hr.lt g hg) (fun e => by have := hf g hg; omega), hM _, fun _ => Row.empty _, (fun _ _ _ h => by cases h), (fun _ _ h => by cases h), .inl rfl, .inr (.inl rfl), fun g hg => .inr (.inr hg), (fun _ _ h => by cases h), ?_⟩
    · simpa using hB1
    · rintro k (rfl | rfl | hk)
      · omega
      · omega
      · have := hr.lt k hk; omega
  · rw [St.cpart_zero]
    exact hM 0
  · rintro k (rfl | rfl | hk)
    · exact Nat.le_refl _
    · omega
    · have := hf k hk; omega

/-- An answer: a disk of its own. -/
def RetDk (s : St) (w : World) (e : Ending) (w' : World) : Prop := ∃ p F, e = .returned p ∧ Dk w' F p s ∧ Gr w w' ∧ ∀ k, F k → w.heap.size ≤ k

def SlC9 (d mc b m i : Nat) (u : Value) (ss : List Sec) (wc : World) (slot : Nat) (v : Value) (w : World) : Prop :=
  match slot with
  | 31 => v = .pointer (some ⟨d, 1, none⟩)
  | 32 => v = .map (some mc)
  | 33 => v = .int .i64 (i : Int)
  | 34 => v = .pointer (some ⟨b, 0, none⟩)
  | 35 => v = .pointer (some ⟨b, 0, none⟩)
  | 36 => v = .pointer (some ⟨b, 1, none⟩)
  | 37 => v = .map (some m)
  | 38 => v = .int .i64 (i : Int)
  | 39 => (v = u ∧ Row w u ss)
  | 40 => (Row w v ss ∧ ∀ g, v.ownBlock = some g → wc.heap.size ≤ g)
  | _ => True
theorem slC9_kept {d mc b m i : Nat} {u : Value} {ss : List Sec} {wc : World} (sl : Nat) (v : Value) (w w' : World) (h : SlC9 d mc b m i u ss wc sl v w) (g : Gr w w') : SlC9 d mc b m i u ss wc sl v w' := by
  unfold SlC9 at h ⊢
  split <;> simp only at h
  all_goals first
    | exact h
    | exact ⟨h.1, Row.gr h.2 g⟩
    | exact ⟨Row.gr h.1 g, h.2⟩
/-- Behind the store. -/
def FinC (wc : World) (mc n i : Nat) (D : DataW Value) (ss : List Sec) (w : World) : Prop :=
  ∃ v w1, Row w1 v ss ∧ (∀ g, v.ownBlock = some g → wc.heap.size ≤ g) ∧ Gr wc w1 ∧ w.ownsMap Try.prog TI eltR mc (n + 1) (D.put (key i) (.held v)) ∧ w1.grownBy w (some mc)
def Gc (i : Nat) (w w' : World) : Prop := cond (i == 10) True (Gr w w')

set_option maxRecDepth 100000 in
set_option maxHeartbeats 4000000 in
theorem Copy_any {F : Nat → Prop} {p : Value} {s : St} (w : World) (h : Dk w F p s) (hw : s.writes ≤ 1000000000) : Calls Try.prog 10 #[p] w fun e w' => RetDk s w e w' := by
  obtain ⟨b, lv, m, L, rfl, h⟩ := h
  obtain ⟨gl, cl, hlv⟩ := h.lv
  obtain ⟨N, hN⟩ : ∃ N, N = s.ls.length := ⟨_, rfl⟩
  rw [← hN] at hlv
  subst hlv
  have HN := Lib.hid hN
  have hN2 : N ≤ 65536 := by have := h.ok.most; omega
  clear hN
  have HM := Lib.hid (missing_no w h)
  have HD := Lib.hid h
  obtain ⟨h0, h1, h2, h3, h4⟩ := h.cells
  have hne : s.ls ≠ [] := fun e => by have := h.ok.pos; rw [e] at this; simp at this
  have HC := Lib.hid (fun W (d : DkAt W F b (.slice (some ⟨gl, 0, none⟩) N cl) m L s) => Clone_any W (.slice (some ⟨gl, 0, none⟩) N cl) s.ls d.ls hne (by have := d.ok.most; omega))
  have HW := Lib.hid (show s.writes ≤ 1000000000 from hw)
  have HLow : Hid (∀ k, F k → k < w.heap.size) := Lib.hid h.low
  clear h hne hw
  go_enter Try.func10, Try.ntmps10
  go_wp2_with fail
  refine HM.out.mono ?_
  rintro e w1 ⟨rfl, rfl⟩
  have gn := (Gr.refl w).alloc (Nat.le_refl _) (.cells #[.slice (some ⟨gl, 0, none⟩) N cl, .map (some m), .int .i64 s.fuse, .bool s.dead, .int .i64 (s.writes : Int)] TD)
  have HB := Lib.hid (Blk.new w TD #[.slice (some ⟨gl, 0, none⟩) N cl, .map (some m), .int .i64 s.fuse, .bool s.dead, .int .i64 (s.writes : Int)])
  have HD1 := Lib.hid (HD.out.gr gn)
  have HG1 := Lib.hid gn
  obtain ⟨k0, k1, k2, k3, k4⟩ := HD1.out.cells
  have hb0 := HB.out.frozen 0
  have HCC := Lib.hid (HC.out _ HD1.out)
  clear gn
  go_wp2_with fail
  refine HCC.out.mono ?_
  rintro e w2 ⟨lv2, rfl, hr, hf, hg⟩
  have HB2 := Lib.hid (HB.out.gr hg)
  have HD2 := Lib.hid (HD1.out.gr hg)
  have HG2 := Lib.hid (Gr.trans HG1.out hg)
  have HR2 := Lib.hid hr
  have HF2 : Hid (∀ g, lv2.ownBlock = some g → w.heap.size + 1 ≤ g) := Lib.hid fun g h => by have := hf g h; simp at this; exact this
  obtain ⟨g2, c2, hv2, _⟩ := hr.full (fun e => by have := HD.out.ok.pos; rw [e] at this; simp at this)
  rw [← HN.out] at hv2
  subst hv2
  clear hr hf hg h0 h1 h2 h3 h4 k0 k1 k2 k3 k4 HB HD1 HG1 HCC hb0
  obtain ⟨k0, k1, k2, k3, k4⟩ := HD2.out.cells
  have hb0 := HB2.out.frozen 0
  have hb1 := HB2.out.frozen 1
  have c0 := HB2.out.cell 0
  have c1 := HB2.out.cell 1
  simp at c0 c1
  have HLE : Hid (∃ Z : Nat, ∀ W, W.heap[m]? = w2.heap[m]? → (Builtin.len_ #[TM] TI #[.map (some m)]).run Try.prog W = .ok (.int .i64 Z) W) := Lib.hid (by
    obtain ⟨D, n, ho, _⟩ := HD2.out.map
    exact ⟨Go.Maps.size D, fun W hW => (ownsMap_stays ho hW).len Try.underlying65 TI⟩)
  obtain ⟨Z, hZ⟩ := HLE.out
  have hlen := hZ (w2.setCell ⟨w.heap.size, 0, none⟩ (.slice (some ⟨g2, 0, none⟩) N c2)) (Below.heap_setCell w2 ⟨w.heap.size, 0, none⟩ _ m (by show m ≠ w.heap.size; have := HLow.out m HD2.out.ownM; omega))
  have hmm : ∀ (z : Nat) (W : World), (Instr.makeMap TM (some (.int .i64 (z : Int)))).run Try.prog W = .ok (.map (some W.heap.size)) (W.alloc (.map #[] 0)) := fun z W => by
    simp [Instr.makeMap, run_underlying Try.underlying65, asInt, asIntOf, Result.andThen]
  have hsz : (w2.setCell ⟨w.heap.size, 0, none⟩ (.slice (some ⟨g2, 0, none⟩) N c2)).heap.size = w2.heap.size := by simp [World.setCell]
  have hbw : b ≠ w.heap.size := fun e => by have := HLow.out b HD2.out.ownB; omega
  have HB3 := Lib.hid ((HB2.out.set 0 (.slice (some ⟨g2, 0, none⟩) N c2)).gr (Gr.new _ (.map #[] 0)))
  have hb31 := HB3.out.frozen 1
  have hc31 := HB3.out.cell 1
  simp only [List.setIfInBounds_toArray, List.set_cons_zero, List.getElem?_toArray, List.getElem?_cons_succ, List.getElem?_cons_zero] at hc31
  clear HLE hZ
  go_wp2_with fail
  obtain ⟨W4, hW4⟩ : ∃ W4, W4 = (((w2.setCell ⟨w.heap.size, 0, none⟩ (.slice (some ⟨g2, 0, none⟩) N c2)).alloc (.map #[] 0)).setCell ⟨w.heap.size, 1, none⟩ (.map (some w2.heap.size))) := ⟨_, rfl⟩
  rw [← hW4]
  have HC4 : Hid (Gr w W4 ∧ W4.heap.size = w2.heap.size + 1 ∧ ∃ F' L', DkAt W4 F' w.heap.size (.slice (some ⟨g2, 0, none⟩) N c2) w2.heap.size L' (s.cpart 0) ∧ Loose W4 w2.heap.size 0 s.ls.length L' (s.cpart 0).t ∧ ∀ k, F' k → w.heap.size ≤ k) := Lib.hid (by
    rw [hW4]
    exact copy_start HD.out.ok HG2.out HB2.out HR2.out HF2.out)
  clear hW4 HB3 hb31 hc31 hlen hmm hsz k0 k1 k2 k3 k4 hb0 hb1 c0 c1 HB2
  have HD4 := Lib.hid (HD.out.gr HC4.out.1)
  refine (Loose_any W4 ⟨_, _, _, _, rfl, HD4.out⟩ HW.out).mono ?_
  rintro e w5 ⟨lo, rfl, hi, hg⟩
  obtain ⟨p2, cc2, rfl, hfar, hnums⟩ := Ints.nums hi (St.loose_small HD4.out.ok)
  obtain ⟨K, hK⟩ : ∃ K, K = s.loose.length := ⟨_, rfl⟩
  have hKs : K ≤ 65536 := by rw [hK]; have := s.loose_len; have := HD4.out.ok.most; omega
  rw [← hK] at hnums ⊢
  have HK := Lib.hid hK
  have HI := Lib.hid hnums
  have HG5 := Lib.hid (Gr.trans HC4.out.1 hg)
  have HFar : Hid (∀ a, p2 = some a → a.block ≠ w2.heap.size) := Lib.hid fun a ha e => by
    subst ha
    have h1 := (hfar a.block rfl).1
    have h2 := HC4.out.2.1
    omega
  have HC5 : Hid (∃ F' L', DkAt w5 F' w.heap.size (.slice (some ⟨g2, 0, none⟩) N c2) w2.heap.size L' (s.cpart 0) ∧ Loose w5 w2.heap.size 0 s.ls.length L' (s.cpart 0).t ∧ ∀ k, F' k → w.heap.size ≤ k) := Lib.hid (by
    obtain ⟨_, _, F', L', h1, h2, h3⟩ := HC4.out
    exact ⟨F', L', h1.gr hg, h2.stays (hg.block _ h2.lt), h3⟩)
  clear hi hfar hnums hg hK HC4 HD4 HM HC
  go_wp2_with fail
  go_loopw [27] (fun i wr => ∃ k : Nat, k ≤ K ∧ i = .int .i64 k ∧ Hid (∃ F' L', DkAt wr F' w.heap.size (.slice (some ⟨g2, 0, none⟩) N c2) w2.heap.size L' (s.cpart k) ∧ Loose wr w2.heap.size k s.ls.length L' (s.cpart k).t ∧ ∀ k, F' k → w.heap.size ≤ k) ∧ Hid (w5.grownBy wr (some w2.heap.size))) (fun i _ => K - (intOf i).toNat)
  case atStart => exact ⟨0, Nat.zero_le _, rfl, HC5, Lib.hid (World.grownBy.refl _ _)⟩
  case round =>
    obtain ⟨k, hk, rfl, hcp, hgr⟩ := hrel
    by_cases hlt : k < K
    · obtain ⟨b3, o3, rfl, hc3⟩ := (HI.out.stays (w' := wr) (fun a ha hn => hgr.out.block _ (HI.out.lt ha hn) (fun e => HFar.out a ha (Option.some.inj e)))).lies (by omega)
      have hkk : k < s.loose.length := by rw [← HK.out]; exact hlt
      obtain ⟨i, hi⟩ : ∃ i, s.loose[k]? = some i := ⟨_, List.getElem?_eq_getElem hkk⟩
      have hci := hc3 k hlt
      have ei : (s.loose.map fun (x : Nat) => (x : Int)).getD k 0 = (i : Int) := by simp [List.getD, hi]
      rw [ei] at hci
      obtain ⟨hrank, hiN, hti⟩ := St.loose_at hi
      have HII := Lib.hid hi
      have HT := Lib.hid hti
      clear hi ei hrank hc3
      have HGR : Hid (Gr w wr) := Lib.hid (Below.grown HG5.out hgr.out HG5.out.size (fun j e => by cases e; exact HG2.out.size))
      have hDr := HD.out.gr HGR.out
      obtain ⟨F', L', hcd, hcl, hcf⟩ := hcp.out
      obtain ⟨D, n, ho, hn, hat, hhas, hkeys⟩ := hcl
      have HCD := Lib.hid hcd
      have HMap : Hid (wr.ownsMap Try.prog TI eltR w2.heap.size n D ∧ n ≤ k ∧ (∀ i, i < s.ls.length → D.atKey (key i) (.held nilS) = .held (L' i)) ∧ (∀ i, i < s.ls.length → (has D (key i) = true ↔ (s.cpart k).t i ≠ [])) ∧ (∀ k, has D k = true → ∃ i, i < s.ls.length ∧ k = key i)) := Lib.hid ⟨ho, hn, hat, hhas, hkeys⟩
      have HCF := Lib.hid hcf
      have hbc := hcd.blk
      obtain ⟨u, hu⟩ : ∃ u, u = L i := ⟨_, rfl⟩
      obtain ⟨ss, hss⟩ : ∃ ss, ss = s.t i := ⟨_, rfl⟩
      have hrow := hDr.rows i
      rw [← hu, ← hss] at hrow
      have HLK : Hid (∀ W, Gr wr W → (Instr.lookup TM (.map (some m)) (.int .i64 (i : Int)) false).run Try.prog W = .ok u W) := Lib.hid fun W gr => by
        rw [hu]
        exact (hDr.gr gr).map.look i hiN hDr.ok.most
      have HC1 : Hid (∀ W, Gr wr W → W.cell? ⟨w.heap.size, 1, none⟩ = some (.map (some w2.heap.size))) := Lib.hid fun W gr => (hbc.gr gr).cell 1
      have HC2 : Hid (∀ W, Gr wr W → W.cell? ⟨b, 1, none⟩ = some (.map (some m))) := Lib.hid fun W gr => (hDr.gr gr).blk.cell 1
      have HO : Hid (∀ W, Gr wr W → W.ownsMap Try.prog TI eltR w2.heap.size n D) := Lib.hid fun W gr => ownsMap_stays ho (gr.block _ ho.lt)
      have HN5 : Hid (n < maxLen) := Lib.hid (by unfold maxLen; omega)
      have HI6 : Hid (i < 65536) := Lib.hid (by have := hDr.ok.most; omega)
      have HSL : Hid (ss ≠ [] ∧ ss.length ≤ s.writes) := Lib.hid ⟨by rw [hss]; exact hti, by rw [hss]; exact hDr.ok.less i⟩
      have HCL : Hid (∀ W, Gr wr W → Row W u ss → Calls Try.prog 23 #[u] W fun e w' => RetRow ss W e w') := Lib.hid fun W _ hr => Clone_any W u ss hr HSL.out.1 (by have := HSL.out.2; have := HW.out; omega)
      have HRO : Hid (∀ W, Gr wr W → Row W u ss) := Lib.hid fun W gr => hrow.gr gr
      have HSS := Lib.hid hss
      have HIN := Lib.hid hiN
      have hi6 : (i : Int) < 65536 := by have := HI6.out; omega
      clear hDr hcp hcd ho hn hat hhas hkeys hcf hbc hu hss hrow hiN hti hkk
      go_wp2
      refine Flow.regionZ 10 9 (by kernel_rfl) [] 12 (SlC9 w.heap.size w2.heap.size b m i u ss wr) (Gr wr) (FinC wr w2.heap.size n i D ss) (fun _ => True) Gc (by kernel_rfl) (by kernel_rfl) (by kernel_rfl) ?mono ⟨rfl, rfl, rfl, Nat.le_refl _, fun _ _ => rfl⟩ True.intro ?steps ?fin
      case mono =>
        intro j d v w w' hb hs hg
        by_cases h10 : j = 10
        · subst h10
          have := Flow.bears2_only [] (by kernel_rfl) hb
          cases this
        · have e1 : (j == 10) = false := by simpa using h10
          unfold Gc at hg
          rw [e1] at hg
          exact slC9_kept d v w w' hs hg
      case fin =>
        intro a W hfr hfin hsl
        clear hsl
        have e := Flow.frame hfr [31, 32, 33, 34, 35, 36, 37, 38, 39, 40] (List.range 42) (by kernel_rfl) (by kernel_rfl)
        simp [List.range, List.range.loop] at e
        rw [e]
        clear e hfr
        obtain ⟨v, w1, r1, f1, g1, ho2, g2'⟩ := hfin
        obtain ⟨m1, m2, m3, m4, m5⟩ := HMap.out
        have hpt : (s.cpart k).writes = s.writes := rfl
        obtain ⟨F2, L2, hD2, hM2, hF2⟩ := HCD.out.laid i HIN.out ss HSL.out.1 (by rw [hpt]; exact HSL.out.2) m1 m2 (by rw [hpt]; omega) m3 m4 m5 v r1 f1 g1 ho2 g2'
        have hsu := St.cpart_succ HII.out
        rw [← HSS.out] at hsu
        have HC6 : Hid (∃ F' L', DkAt W F' w.heap.size (.slice (some ⟨g2, 0, none⟩) N c2) w2.heap.size L' (s.cpart (k + 1)) ∧ Loose W w2.heap.size (k + 1) s.ls.length L' (s.cpart (k + 1)).t ∧ ∀ k, F' k → w.heap.size ≤ k) := Lib.hid (by
          rw [hsu]
          exact ⟨F2, L2, hD2, hM2, fun j hj => by
            rcases hF2 j hj with h | h
            · exact HCF.out j h
            · exact Nat.le_trans HGR.out.size h⟩)
        have hgr6 : Hid (w5.grownBy W (some w2.heap.size)) := Lib.hid (hgr.out.trans (⟨g1.os.trans rfl |>.trans rfl, g1.tape, g1.output, g1.size, fun j hj _ => g1.block j hj⟩ : wr.grownBy w1 (some w2.heap.size)) |>.trans g2')
        clear hD2 hM2 hF2 hsu r1 f1 g1 ho2 g2' m1 m2 m3 m4 m5 hgr HMap HCD HO HLK HC1 HC2 HRO HCL
        rename_i K2 hK2
        refine hK2 _ _ ?_
        go_wp2
        go_roundw
        case rel => exact ⟨k + 1, by omega, by go_num, HC6, hgr6⟩
        case measure => simp [intOf]; omega
      case steps =>
        refine Flow.StepsZ.cons (fun a W hfr hinv hear hdep K hK => ?_) ?_
        · have s3 : a.tmps.getD 3 undef = .pointer (some ⟨w.heap.size, 0, none⟩) := hfr.at 3 (by kernel_rfl)
          have t3 : a.tmps[3]?.getD undef = .pointer (some ⟨w.heap.size, 0, none⟩) := by simpa using s3
          rw [if_pos (Flow.wanted_none rfl)]
          clear hfr hdep hear
          go_simp
          exact hK _ _ (show Gr W W from Gr.refl W) hinv (fun h => h) (fun d hd => by cases hd; rfl)
        refine Flow.StepsZ.cons (fun a W hfr hinv hear hdep K hK => ?_) ?_
        · have s31 : a.tmps.getD 31 undef = .pointer (some ⟨w.heap.size, 1, none⟩) := hdep 31 (by kernel_rfl)
          have t31 : a.tmps[31]?.getD undef = .pointer (some ⟨w.heap.size, 1, none⟩) := by simpa using s31
          have hc := HC1.out W hinv
          rw [if_pos (Flow.wanted_none rfl)]
          clear hfr hdep hear
          go_simp
          exact hK _ _ (show Gr W W from Gr.refl W) hinv (fun h => h) (fun d hd => by cases hd; rfl)
        refine Flow.StepsZ.cons (fun a W hfr hinv hear hdep K hK => ?_) ?_
        · have s5 : a.tmps.getD 5 undef = .int .i64 (i : Int) := hfr.at 5 (by kernel_rfl)
          have t5 : a.tmps[5]?.getD undef = .int .i64 (i : Int) := by simpa using s5
          rw [if_pos (Flow.wanted_none rfl)]
          clear hfr hdep hear
          go_simp
          exact hK _ _ (show Gr W W from Gr.refl W) hinv (fun h => h) (fun d hd => by cases hd; rfl)
        refine Flow.StepsZ.cons (fun a W hfr hinv hear hdep K hK => ?_) ?_
        · have s0 : a.tmps.getD 0 undef = .pointer (some ⟨b, 0, none⟩) := hfr.at 0 (by kernel_rfl)
          have t0 : a.tmps[0]?.getD undef = .pointer (some ⟨b, 0, none⟩) := by simpa using s0
          rw [if_pos (Flow.wanted_none rfl)]
          clear hfr hdep hear
          go_simp
          exact hK _ _ (show Gr W W from Gr.refl W) hinv (fun h => h) (fun d hd => by cases hd; rfl)
        refine Flow.StepsZ.cons (fun a W hfr hinv hear hdep K hK => ?_) ?_
        · have s34 : a.tmps.getD 34 undef = .pointer (some ⟨b, 0, none⟩) := hdep 34 (by kernel_rfl)
          have t34 : a.tmps[34]?.getD undef = .pointer (some ⟨b, 0, none⟩) := by simpa using s34
          rw [if_pos (Flow.wanted_none rfl)]
          clear hfr hdep hear
          go_simp
          exact hK _ _ (show Gr W W from Gr.refl W) hinv (fun h => h) (fun d hd => by cases hd; rfl)
        refine Flow.StepsZ.cons (fun a W hfr hinv hear hdep K hK => ?_) ?_
        · have s35 : a.tmps.getD 35 undef = .pointer (some ⟨b, 0, none⟩) := hdep 35 (by kernel_rfl)
          have t35 : a.tmps[35]?.getD undef = .pointer (some ⟨b, 0, none⟩) := by simpa using s35
          rw [if_pos (Flow.wanted_none rfl)]
          clear hfr hdep hear
          go_simp
          exact hK _ _ (show Gr W W from Gr.refl W) hinv (fun h => h) (fun d hd => by cases hd; rfl)
        refine Flow.StepsZ.cons (fun a W hfr hinv hear hdep K hK => ?_) ?_
        · have s36 : a.tmps.getD 36 undef = .pointer (some ⟨b, 1, none⟩) := hdep 36 (by kernel_rfl)
          have t36 : a.tmps[36]?.getD undef = .pointer (some ⟨b, 1, none⟩) := by simpa using s36
          have hc := HC2.out W hinv
          rw [if_pos (Flow.wanted_none rfl)]
          clear hfr hdep hear
          go_simp
          exact hK _ _ (show Gr W W from Gr.refl W) hinv (fun h => h) (fun d hd => by cases hd; rfl)
        refine Flow.StepsZ.cons (fun a W hfr hinv hear hdep K hK => ?_) ?_
        · have s5 : a.tmps.getD 5 undef = .int .i64 (i : Int) := hfr.at 5 (by kernel_rfl)
          have t5 : a.tmps[5]?.getD undef = .int .i64 (i : Int) := by simpa using s5
          rw [if_pos (Flow.wanted_none rfl)]
          clear hfr hdep hear
          go_simp
          exact hK _ _ (show Gr W W from Gr.refl W) hinv (fun h => h) (fun d hd => by cases hd; rfl)
        refine Flow.StepsZ.cons (fun a W hfr hinv hear hdep K hK => ?_) ?_
        · have s37 : a.tmps.getD 37 undef = .map (some m) := hdep 37 (by kernel_rfl)
          have t37 : a.tmps[37]?.getD undef = .map (some m) := by simpa using s37
          have s38 : a.tmps.getD 38 undef = .int .i64 (i : Int) := hdep 38 (by kernel_rfl)
          have t38 : a.tmps[38]?.getD undef = .int .i64 (i : Int) := by simpa using s38
          rw [if_pos (Flow.wanted_none rfl)]
          clear hfr hdep
          have hk := HLK.out W hinv
          have hr := HRO.out W hinv
          clear hear
          go_simp
          exact hK _ _ (show Gr W W from Gr.refl W) hinv (fun h => h) (fun d hd => by cases hd; exact ⟨rfl, hr⟩)
        refine Flow.StepsZ.cons (fun a W hfr hinv hear hdep K hK => ?_) ?_
        · have s39 : ((a.tmps.getD 39 undef) = u ∧ Row W u ss) := hdep 39 (by kernel_rfl)
          rw [if_pos (Flow.wanted_none rfl)]
          clear hfr hdep
          clear hear
          obtain ⟨e39, r39⟩ := s39
          have t39 : a.tmps[39]?.getD undef = u := by simpa using e39
          go_simp
          refine (HCL.out W hinv r39).mono ?_
          rintro e W' ⟨v', rfl, hr, hf, hg⟩
          exact hK _ _ (show Gr W W' from hg) (Gr.trans hinv hg) True.intro (fun d hd => by cases hd; exact ⟨hr, fun g hg2 => Nat.le_trans hinv.size (hf g hg2)⟩)
        refine Flow.StepsZ.cons (fun a W hfr hinv hear hdep K hK => ?_) ?_
        · have s32 : a.tmps.getD 32 undef = .map (some w2.heap.size) := hdep 32 (by kernel_rfl)
          have t32 : a.tmps[32]?.getD undef = .map (some w2.heap.size) := by simpa using s32
          have s33 : a.tmps.getD 33 undef = .int .i64 (i : Int) := hdep 33 (by kernel_rfl)
          have t33 : a.tmps[33]?.getD undef = .int .i64 (i : Int) := by simpa using s33
          have s40 : (Row W (a.tmps.getD 40 undef) ss ∧ ∀ g, (a.tmps.getD 40 undef).ownBlock = some g → wr.heap.size ≤ g) := hdep 40 (by kernel_rfl)
          rw [if_pos (Flow.wanted_none rfl)]
          clear hfr hdep
          clear hear
          obtain ⟨r40, l40⟩ := s40
          refine upd_loose (.tmp 32) (.tmp 33) (.tmp 40) rfl (by simpa [Act.eval] using s32) i HI6.out (by simpa [Act.eval] using s33) _ rfl (HO.out W hinv) HN5.out ?_
          intro w' h1 h2
          exact hK _ _ True.intro ⟨_, W, r40, l40, hinv, h1, h2⟩ True.intro (fun d hd => by cases hd)
        exact True.intro
    · obtain rfl : k = K := by omega
      have HF : Hid (∃ F' L', DkAt wr F' w.heap.size (.slice (some ⟨g2, 0, none⟩) N c2) w2.heap.size L' s ∧ ∀ k, F' k → w.heap.size ≤ k) := Lib.hid (by
        obtain ⟨F', L', h1, _, h3⟩ := hcp.out
        rw [HK.out, St.cpart_all HD.out.ok] at h1
        exact ⟨F', L', h1, h3⟩)
      have HGR : Hid (Gr w wr) := Lib.hid (Below.grown HG5.out hgr.out HG5.out.size (fun j e => by cases e; exact HG2.out.size))
      clear hcp hgr
      go_wp2_with fail
      go_ret
      obtain ⟨F', L', h1, h3⟩ := HF.out
      exact ⟨_, F', rfl, ⟨_, _, _, _, rfl, h1⟩, HGR.out, h3⟩

end Go.Proofs.Ytkoalabacfjgbaa
