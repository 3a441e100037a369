/-
  Texts on locks, put together: Lk38 Lk40 Lk41.
-/
import Derived.Lib.AppendZerosOnto
import Derived.Lib.Overlaps
import Derived.Laws.Externs
import Derived.IntWalk
import Derived.Deep.AppendLies
import Derived.Lib.AppendZeros
import Derived.Test.YtbmcdlcoojmppaaA12
/-
  The code's table of locks: slices.Insert at a line's front.
-/
namespace Go.Proofs.Ytbmcdlcoojmppaa
open Go.RowKit Go.Maps

section
variable {P : Program}
/-- copy onto a row, elements of any size. -/
theorem run_copy_rowS (w : World) (dT sT ty elem : TypeId) (g o dLen dCap : Nat) (a : Addr) (sLen sCap : Nat) (cur : Array Value) (t : TypeId) (cs : List Value) (sz : Nat)
    (hu : P.underlying dT = some (.slice elem)) (hs : (P.info? elem).map (·.size) = some sz)
    (hg : w.heap[g]? = some (.cells cur t (0, 0))) (hn : cs.length = Nat.min sLen dLen * sz)
    (hsrc : ∀ j v, cs[j]? = some v → w.cell? (a.add j) = some v) (hfit : o + cs.length ≤ cur.size) (h1 : ∀ v ∈ cs, v.oneCell' = true) :
    (Builtin.copy_ #[dT, sT] ty #[.slice (some ⟨g, o, none⟩) dLen dCap, .slice (some a) sLen sCap]).run P w =
      .ok (goInt (Nat.min sLen dLen)) (w.setRow g (cur.toList.take o ++ cs ++ cur.toList.drop (o + cs.length)).toArray) := by
  have hl := run_loadCells_list (P := P) w a cs hsrc
  have hst := run_storeCells_at P g o t cs 0 cur w hg (by simpa using hfit) h1
  cases hq : P.info? elem with
  | none => simp [hq] at hs
  | some i =>
    have hi : i.size = sz := by simpa [hq] using hs
    simp [Builtin.copy_, run_underlying hu, Builtin.lenOf, Builtin.firstCells, sizeOf, typeInfo, hq, hi, ← hn, hl, hst]
/-- copy as the walk meets it. -/
theorem wpList_copy_runS (w : World) {ops : Array Oper} {rest : List Oper} {o : Oper} {a : Act} {Q : Exit → Act → World → Prop} (hgd : o.guard = none) (d s : Operand) (t t' : TypeId)
    (ho : o.op = .call { callee := .builtin .copy, args := #[d, s], argTypes := #[t, t'] }) (v u : Value) (hd : a.eval d = v) (hs : a.eval s = u) {v' : Value} {w' : World}
    (hr : (Builtin.copy_ #[t, t'] o.type #[v, u]).run P w = .ok v' w') (h : wpList P ops Q rest (a.put o.dst v') w') : wpList P ops Q (o :: rest) a w :=
  wpList_plain hgd fun _ hK => by
    unfold Oper.wp execOp
    simp only [ho, resolve, invoke, builtin, Sem.run_bind, Sem.run_pure, Result.andThen_ok, List.map_toArray, List.map_cons, List.map_nil, hd, hs, hr]
    exact hK _ _ h
theorem step_copy_runS {ops : Array Oper} {o : Oper} {a : Act} {w : World} {K : Act → World → Prop} {Q : Exit → Act → World → Prop} {E : Prop}
    (hg : o.guard = none) (d x : Operand) (dT sT : TypeId) (hop : o.op = Op.call { callee := Callee.builtin Builtin.copy, args := #[d, x], argTypes := #[dT, sT] })
    (v u : Value) (hd : a.eval d = v) (hx : a.eval x = u) {v' : Value} {w' : World} (hr : (Builtin.copy_ #[dT, sT] o.type #[v, u]).run P w = .ok v' w') (hK : K (a.put o.dst v') w') :
    if Region.wanted o (yielded ops a.tmps) = true then Oper.wp P o a w K Q else E := by
  have hw : Region.wanted o (yielded ops a.tmps) = true := by simp [Region.wanted, hg]
  rw [if_pos hw]
  unfold Oper.wp
  simp [execOp, hop, resolve, invoke, builtin, hd, hx, hr, Result.andThen]
  exact hK
end
/-- Cells laid over a list of cells. -/
def over (cur : List Value) (o : Nat) (cs : List Value) : List Value := cur.take o ++ cs ++ cur.drop (o + cs.length)
theorem over_len {cur : List Value} {o : Nat} {cs : List Value} (h : o + cs.length ≤ cur.length) : (over cur o cs).length = cur.length := by
  unfold over
  simp only [List.length_append, List.length_take, List.length_drop]
  omega
theorem over_in {cur : List Value} {o : Nat} {cs : List Value} (h : o + cs.length ≤ cur.length) {i : Nat} (hi : i < cs.length) : (over cur o cs)[o + i]? = cs[i]? := by
  unfold over
  rw [List.append_assoc, List.getElem?_append_right (by simp only [List.length_take]; omega)]
  simp only [List.length_take]
  rw [show o + i - min o cur.length = i by omega, List.getElem?_append_left hi]
theorem over_out {cur : List Value} {o : Nat} {cs : List Value} (h : o + cs.length ≤ cur.length) {i : Nat} (hi : i < o ∨ o + cs.length ≤ i) : (over cur o cs)[i]? = cur[i]? := by
  unfold over
  rcases hi with hi | hi
  · rw [List.append_assoc, List.getElem?_append_left (by simp only [List.length_take]; omega), List.getElem?_take, if_pos hi]
  · rw [List.append_assoc, List.getElem?_append_right (by simp only [List.length_take]; omega)]
    simp only [List.length_take]
    rw [List.getElem?_append_right (by omega), List.getElem?_drop]
    congr 1
    omega
theorem wcells_one (ws : List (Nat × Int)) : ∀ v, v ∈ wcells ws → v.oneCell' = true := fun v hv => by
  unfold wcells at hv
  rw [List.mem_flatMap] at hv
  obtain ⟨p, _, h2⟩ := hv
  simp at h2
  rcases h2 with rfl | rfl <;> rfl
theorem wt_size : (Try.prog.info? TWt).map (·.size) = some 2 := by kernel_rfl
/-- Two copies: what stood moves up by one, one is laid ahead. -/
theorem front_cells {cs0 : List Value} {q : Nat} {ws : List (Nat × Int)} {o : Nat} {m : Int} (hfit : q + 2 + 2 * ws.length ≤ cs0.length) :
    (over (over cs0 (q + 2) (wcells ws)) q [.int .u64 (o : Int), .int .i64 m]).length = cs0.length ∧ ∀ i u, (wcells ((o, m) :: ws))[i]? = some u → (over (over cs0 (q + 2) (wcells ws)) q [.int .u64 (o : Int), .int .i64 m])[q + i]? = some u := by
  have hwl := wcells_len ws
  have h1 : (over cs0 (q + 2) (wcells ws)).length = cs0.length := over_len (by omega)
  have h2 : q + ([.int .u64 (o : Int), .int .i64 m] : List Value).length ≤ (over cs0 (q + 2) (wcells ws)).length := by
    rw [h1]
    simp
    omega
  refine ⟨(over_len h2).trans h1, fun i u hi => ?_⟩
  have hc : wcells ((o, m) :: ws) = [.int .u64 (o : Int), .int .i64 m] ++ wcells ws := rfl
  rw [hc] at hi
  by_cases h3 : i < 2
  · rw [over_in h2 (by simpa using h3)]
    rwa [List.getElem?_append_left (by simpa using h3)] at hi
  · rw [List.getElem?_append_right (by simp; omega)] at hi
    have hlt := (List.getElem?_eq_some_iff.1 hi).1
    simp only [List.length_cons, List.length_nil] at hi hlt
    rw [over_out h2 (.inr (by simp; omega))]
    have := over_in (cur := cs0) (o := q + 2) (cs := wcells ws) (by omega) (i := i - 2) (by omega)
    rw [show q + 2 + (i - 2) = q + i by omega] at this
    rw [this]
    exact hi
/-- The like the other way round. -/
theorem front_cells2 {cs0 : List Value} {ws : List (Nat × Int)} {o : Nat} {m : Int} (hfit : 2 + 2 * ws.length ≤ cs0.length) :
    (over (over cs0 0 [.int .u64 (o : Int), .int .i64 m]) 2 (wcells ws)).length = cs0.length ∧ ∀ (i : Nat) (u : Value), (wcells ((o, m) :: ws))[i]? = some u → (over (over cs0 0 [.int .u64 (o : Int), .int .i64 m]) 2 (wcells ws))[i]? = some u := by
  have hwl := wcells_len ws
  have h0 : 0 + ([.int .u64 (o : Int), .int .i64 m] : List Value).length ≤ cs0.length := by simp; omega
  have h1 : (over cs0 0 [.int .u64 (o : Int), .int .i64 m]).length = cs0.length := over_len h0
  have h2 : 2 + (wcells ws).length ≤ (over cs0 0 [.int .u64 (o : Int), .int .i64 m]).length := by omega
  refine ⟨(over_len h2).trans h1, fun i u hi => ?_⟩
  have hc : wcells ((o, m) :: ws) = [.int .u64 (o : Int), .int .i64 m] ++ wcells ws := rfl
  rw [hc] at hi
  by_cases h3 : i < 2
  · rw [over_out h2 (.inl h3)]
    have := over_in h0 (i := i) (by simpa using h3)
    rw [Nat.zero_add] at this
    rw [this]
    rwa [List.getElem?_append_left (by simpa using h3)] at hi
  · rw [List.getElem?_append_right (by simp; omega)] at hi
    have hlt := (List.getElem?_eq_some_iff.1 hi).1
    simp only [List.length_cons, List.length_nil] at hi hlt
    have := over_in h2 (i := i - 2) (by omega)
    rw [show 2 + (i - 2) = i by omega] at this
    rw [this]
    exact hi
end Go.Proofs.Ytbmcdlcoojmppaa

/-
  The code's table of locks: slices.Insert at a line's front, where there is room.
-/
namespace Go.Proofs.Ytbmcdlcoojmppaa
open Go.RowKit Go.Maps

set_option maxRecDepth 100000 in
set_option maxHeartbeats 4000000 in
theorem insert_front {w : World} {ob : Option Nat} {v : Value} {ws : List (Nat × Int)} {pop : Bool} (h : LnAt w ob v ws pop) (hne : ws ≠ []) {b o : Nat} {m : Int} (hb : ws.length ≤ 1000000000)
    (hxb : Blk w b TWt #[.int .u64 (o : Int), .int .i64 m]) (hbo : ob ≠ some b) :
    Calls Try.prog 46 #[v, .int .i64 0, .slice (some ⟨b, 0, none⟩) 1 1] w (RetLn ob ((o, m) :: ws) pop w) := by
  rcases h with ⟨_, _, rfl⟩ | ⟨lb, off, cap, cs, rfl, rfl, r3, r4, r5, r6, r7, r8⟩
  · exact absurd rfl hne
  have hN0 : 0 < ws.length := List.length_pos_iff.2 hne
  obtain ⟨N, hN⟩ : ∃ N, N = ws.length := ⟨_, rfl⟩
  have hwl := wcells_len ws
  have hlb : b ≠ lb := fun e => hbo (by rw [e])
  have us := Try.underlying68
  have hsrc1 : ∀ (W : World), (∀ x, W.cell? x = w.cell? x) → ∀ j u, (wcells ws)[j]? = some u → W.cell? ((⟨lb, 2 * off, none⟩ : Addr).add j) = some u := fun W hW j u hj => by
    rw [add_lit', hW, r3.cell]
    exact r7 j u hj
  obtain ⟨news, hnw⟩ : ∃ news : List Value, news = [.int .u64 (o : Int), .int .i64 m] := ⟨_, rfl⟩
  have hnl : news.length = 2 := by rw [hnw]; rfl
  have hn1 : ∀ u, u ∈ news → u.oneCell' = true := fun u hu => by
    rw [hnw] at hu
    simp at hu
    rcases hu with rfl | rfl <;> rfl
  have hsrc2 : ∀ (W : World), Blk W b TWt #[.int .u64 (o : Int), .int .i64 m] → ∀ j u, news[j]? = some u → W.cell? ((⟨b, 0, none⟩ : Addr).add j) = some u := fun W hW j u hj => by
    rw [add_lit', Nat.zero_add, hW.cell]
    rw [hnw] at hj
    simpa using hj
  by_cases hroom : N + 1 ≤ cap
  · have q2 : ¬ ((cap : Int) < (N : Int) + 1) := by omega
    have hcl : cs.toList.length = cs.size := Array.length_toList
    obtain ⟨C1, hC1⟩ : ∃ C1, C1 = (over cs.toList (2 * off + 2) (wcells ws)).toArray := ⟨_, rfl⟩
    obtain ⟨C2, hC2⟩ : ∃ C2, C2 = (over C1.toList (2 * off) news).toArray := ⟨_, rfl⟩
    have hcp1 : ∀ ty dc sc, (Builtin.copy_ #[TWts, TWts] ty #[.slice (some ⟨lb, 2 * off + 2, none⟩) N dc, .slice (some ⟨lb, 2 * off, none⟩) (N + 1) sc]).run Try.prog w.drew = .ok (goInt N) (w.drew.setRow lb C1) := fun ty dc sc => by
      have := run_copy_rowS (P := Try.prog) w.drew TWts TWts ty TWt lb (2 * off + 2) N dc ⟨lb, 2 * off, none⟩ (N + 1) sc cs TWt (wcells ws) 2 us wt_size r3 (by rw [hwl, ← hN]; simp only [Nat.min_def]; split <;> omega) (hsrc1 _ (fun _ => rfl)) (by omega) (wcells_one ws)
      rw [this, hC1, show Nat.min (N + 1) N = N by simp only [Nat.min_def]; split <;> omega]
      rfl
    have hB1 : Blk (w.drew.setRow lb C1) lb TWt C1 := (show Blk w.drew lb TWt cs from r3).row C1
    have hX1 : Blk (w.drew.setRow lb C1) b TWt #[.int .u64 (o : Int), .int .i64 m] := (show Blk w.drew b TWt _ from hxb).stays (setRow_other w.drew lb b C1 hlb)
    have hC1s : C1.toList.length = cs.size := by rw [hC1]; simp only [List.toList_toArray]; rw [over_len (by omega), hcl]
    have hcp2 : ∀ ty dc, (Builtin.copy_ #[TWts, TWts] ty #[.slice (some ⟨lb, 2 * off, none⟩) (N + 1) dc, .slice (some ⟨b, 0, none⟩) 1 1]).run Try.prog (w.drew.setRow lb C1) = .ok (goInt 1) ((w.drew.setRow lb C1).setRow lb C2) := fun ty dc => by
      have := run_copy_rowS (P := Try.prog) (w.drew.setRow lb C1) TWts TWts ty TWt lb (2 * off) (N + 1) dc ⟨b, 0, none⟩ 1 1 C1 TWt news 2 us wt_size hB1 (by rw [hnl]; simp only [Nat.min_def]; split <;> omega) (hsrc2 _ hX1) (by rw [hnl, ← Array.length_toList, hC1s]; omega) hn1
      rw [this, hC2, show Nat.min 1 (N + 1) = 1 by simp only [Nat.min_def]; split <;> omega]
      rfl
    have hov : ∀ lc cc, (callFunc 58 #[.slice (some ⟨b, 0, none⟩) 1 1, .slice (some ⟨lb, 2 * off + 2, none⟩) lc cc]).run Try.prog w = .ok (.value (.bool false)) w := fun lc cc => by
      have hz : ∀ W : World, (Go.sizeOf TWt).run Try.prog W = .ok 2 W := fun W => by kernel_rfl
      have hsa : w.shape? b = some (TWt, 2) := by unfold Blk at hxb; simp [World.shape?, hxb]
      have hsb : w.shape? lb = some (TWt, cs.size) := by unfold Blk at r3; simp [World.shape?, r3]
      rw [run_callFunc_extern Try.func58 (by kernel_rfl) (by kernel_rfl) (by kernel_rfl) (e := Extern.SlicesOverlaps.overlaps #[TWts, TWts] #[4]) (by kernel_rfl),
        Lib.run_overlaps_apart w TWts 4 TWt us 2 hz ⟨b, 0, none⟩ ⟨lb, 2 * off + 2, none⟩ 1 1 lc cc hlb TWt TWt 2 cs.size hsa hsb (by omega) (hxb.frozen 0) (hxb.frozen 2)]
      rfl
    have HE : Hid (RetLn (some lb) ((o, m) :: ws) pop w (.returned (.slice (some ⟨lb, 2 * off, none⟩) (N + 1) cap)) ((w.drew.setRow lb C1).setRow lb C2)) := Lib.hid (by
      have hfc := front_cells (cs0 := cs.toList) (q := 2 * off) (ws := ws) (o := o) (m := m) (by omega)
      rw [← hnw] at hfc
      have e2 : C2.toList = over (over cs.toList (2 * off + 2) (wcells ws)) (2 * off) news := by rw [hC2, hC1]
      refine ⟨_, some lb, rfl, .inr ⟨lb, off, cap, C2, rfl, by rw [hN]; rfl, hB1.row C2, by simp; omega, r5, ?_, fun i u hi => ?_, fun hp => ⟨(r8 hp).1, ?_⟩⟩, ⟨rfl, rfl, rfl, by simp, fun k _ hk => ?_⟩, fun n hn => .inl hn⟩
      · rw [← Array.length_toList, e2, hfc.1, hcl]; exact r6
      · have := hfc.2 i u hi
        rw [← e2] at this
        simpa using this
      · rw [← Array.length_toList, e2, hfc.1, hcl]; exact (r8 hp).2
      · have hkl : k ≠ lb := fun e => hk (by rw [e])
        exact (setRow_other _ lb k C2 hkl).trans (setRow_other w.drew lb k C1 hkl))
    have w1 : IntKind.i64.wrap (0 + (1 : Int)) = 1 := rfl
    clear hsrc1 hsrc2 hB1 hX1 hC1s hC1 hC2 hnw hnl hn1 hcl r7 r8
    rw [← hN] at r4 hN0 hb ⊢
    clear hN hwl us hxb r3 r6 hbo hne
    have hov1 := hov
    have hz : ((0 : Int) == (N : Int)) = false := by rw [beq_eq_false_iff_ne]; omega
    have hNb : N ≤ 1000000000 := by omega
    go_enter Try.func46, Try.ntmps46
    go_upto_region 14 with fail
    clear hov1
    go_upto_region 15 with (simp only [hov])
    clear hov
    have w2 : IntKind.i64.wrap 1 = 1 := rfl
    have hb2 : ¬ (cap = 1) := by omega
    have hb4 : ¬ (cap = 0) := by omega
    have hb3 : (1 : Int) ≤ (N : Int) + 1 := by omega
    have hb5 : (0 : Int) ≤ (N : Int) + 1 := by omega
    go_region_law (refine step_copy_runS rfl _ _ TWts TWts rfl _ _ (by simp [Act.eval, Act.put]) (by simp [Act.eval, Act.put]) (hcp1 _ _ _) ?_)
    all_goals
      go_wp2_with (at_builtin; refine wpList_copy_runS _ rfl _ _ TWts TWts rfl _ _ rfl rfl (hcp2 _ _) ?_)
      go_ret
      exact HE.out
  · obtain ⟨i, hi, hzz, hsz, hbb⟩ := inf_parts wt_info
    have ui := Try.underlying3
    have hcap : N ≤ cap := by omega
    have hcl : cs.toList.length = cs.size := Array.length_toList
    obtain ⟨g, hg⟩ : ∃ g, g = w.heap.size := ⟨_, rfl⟩
    obtain ⟨G, hG⟩ : ∃ G, G = grownCap w (N + 1) cap TWt := ⟨_, rfl⟩
    have hG1 : N + 1 ≤ G := by rw [hG]; exact grownCap_ge w _ _ _
    have hG2 : G ≤ maxLen := by rw [hG]; exact grownCap_le_maxLen w (N + 1) cap TWt (by unfold maxLen; omega)
    obtain ⟨ROW, hROW⟩ : ∃ ROW : Array Value, ROW = ([] : List Value).toArray ++ Builtin.zeroCells (Value.agg #[.int .u64 0, .int .i64 0]).cells (N + 1) ++ Builtin.zeroCells (Value.agg #[.int .u64 0, .int .i64 0]).cells (G - (N + 1)) := ⟨_, rfl⟩
    have hRs : ROW.size = G * 2 := by
      have e : (Value.agg #[.int .u64 0, .int .i64 0]).cells.size = 2 := rfl
      rw [hROW]
      simp only [Array.size_append, List.size_toArray, size_zeroCells, e, List.length_nil]
      omega
    obtain ⟨W1, hW1⟩ : ∃ W1, W1 = w.drew.alloc (.cells ROW TWt) := ⟨_, rfl⟩
    have hrz : ∀ ty, (Builtin.append_ #[TWts, 3] ty #[.slice (some ⟨lb, 2 * off, none⟩) 0 cap, .int .i64 ((N : Int) + 1)]).run Try.prog w = .ok (.slice (some ⟨g, 0, none⟩) (N + 1) G) W1 := fun ty => by
      have h := Lib.run_append_grow_zeros (P := Try.prog) w TWts 3 ty TWt i (.agg #[.int .u64 0, .int .i64 0]) .i64 .i64 us ui hi hzz (some ⟨lb, 2 * off, none⟩) 0 cap [] (run_firstCells_some (P := Try.prog) w.drew i.size 0 ⟨lb, 2 * off, none⟩ 0 cap [] (by simp) (fun j v hj => by simp at hj)) (N + 1) (by omega) (by rw [hsz]; omega) (by omega) (by omega) (by rw [hbb]; omega) (by rw [hbb]; exact growslice_fits (by omega) (by omega))
      rw [Nat.zero_add, ← hG, ← hROW, ← hW1, ← hg] at h
      have e : ((N + 1 : Nat) : Int) = (N : Int) + 1 := by simp
      rw [← e]
      exact h
    have hR1 : Blk W1 g TWt ROW := by rw [hW1, hg]; exact heap_alloc_new w.drew _
    have hold : ∀ k, k < g → W1.heap[k]? = w.heap[k]? := fun k hk => by rw [hW1]; exact heap_alloc_old w.drew _ (by rw [hg] at hk; exact hk)
    have hX1 : Blk W1 b TWt #[.int .u64 (o : Int), .int .i64 m] := hxb.stays (hold b (by have := hxb.lt; omega))
    have hL1 : Blk W1 lb TWt cs := r3.stays (hold lb (by have := r3.lt; omega))
    have hgb : g ≠ lb := by have := r3.lt; omega
    obtain ⟨C1, hC1⟩ : ∃ C1, C1 = (over ROW.toList 0 news).toArray := ⟨_, rfl⟩
    obtain ⟨C2, hC2⟩ : ∃ C2, C2 = (over C1.toList 2 (wcells ws)).toArray := ⟨_, rfl⟩
    have hC1s : C1.toList.length = ROW.size := by rw [hC1]; simp only [List.toList_toArray]; rw [over_len (by rw [hnl, Array.length_toList]; omega), Array.length_toList]
    obtain ⟨W2, hW2⟩ : ∃ W2, W2 = W1.setRow g C1 := ⟨_, rfl⟩
    have hcp1 : ∀ ty dc, (Builtin.copy_ #[TWts, TWts] ty #[.slice (some ⟨g, 0, none⟩) (N + 1) dc, .slice (some ⟨b, 0, none⟩) 1 1]).run Try.prog W1 = .ok (goInt 1) W2 := fun ty dc => by
      have := run_copy_rowS (P := Try.prog) W1 TWts TWts ty TWt g 0 (N + 1) dc ⟨b, 0, none⟩ 1 1 ROW TWt news 2 us wt_size hR1 (by rw [hnl]; simp only [Nat.min_def]; split <;> omega) (hsrc2 _ hX1) (by rw [hnl]; omega) hn1
      rw [this, hW2, hC1, show Nat.min 1 (N + 1) = 1 by simp only [Nat.min_def]; split <;> omega]
      rfl
    have hR2 : Blk W2 g TWt C1 := by rw [hW2]; exact hR1.row C1
    have hL2 : Blk W2.drew lb TWt cs := (show Blk W2 lb TWt cs by rw [hW2]; exact hL1.stays (setRow_other W1 g lb C1 (fun e => hgb e.symm)))
    obtain ⟨W3, hW3⟩ : ∃ W3, W3 = W2.drew.setRow g C2 := ⟨_, rfl⟩
    have hcp2 : ∀ ty dc sc, (Builtin.copy_ #[TWts, TWts] ty #[.slice (some ⟨g, 2, none⟩) N dc, .slice (some ⟨lb, 2 * off, none⟩) N sc]).run Try.prog W2.drew = .ok (goInt N) W3 := fun ty dc sc => by
      have := run_copy_rowS (P := Try.prog) W2.drew TWts TWts ty TWt g 2 N dc ⟨lb, 2 * off, none⟩ N sc C1 TWt (wcells ws) 2 us wt_size (show Blk W2.drew g TWt C1 from hR2) (by rw [hwl, ← hN]; simp only [Nat.min_def]; split <;> omega) (fun j u hj => by rw [add_lit', hL2.cell]; exact r7 j u hj) (by rw [hwl, ← hN, ← Array.length_toList, hC1s]; omega) (wcells_one ws)
      rw [this, hW3, hC2, show Nat.min N N = N by simp only [Nat.min_def]; split <;> omega]
      rfl
    have HE : Hid (RetLn (some lb) ((o, m) :: ws) pop w (.returned (.slice (some ⟨g, 0, none⟩) (N + 1) G)) W3) := Lib.hid (by
      have hfc := front_cells2 (cs0 := ROW.toList) (ws := ws) (o := o) (m := m) (by have e : ROW.toList.length = ROW.size := Array.length_toList; omega)
      rw [← hnw] at hfc
      have e2 : C2.toList = over (over ROW.toList 0 news) 2 (wcells ws) := by rw [hC2, hC1]
      have e3 : C2.size = G * 2 := by rw [← Array.length_toList, e2, hfc.1, Array.length_toList, hRs]
      refine ⟨_, some g, rfl, .inr ⟨g, 0, G, C2, rfl, by rw [hN]; rfl, by rw [hW3]; exact (show Blk W2.drew g TWt C1 from hR2).row C2, by simp; omega, hG2, by omega, fun i u hi => ?_, fun hp => ⟨rfl, e3⟩⟩, ⟨?_, ?_, ?_, ?_, fun k hk _ => ?_⟩, fun n hn => .inr (by cases hn; omega)⟩
      · have := hfc.2 i u hi
        rw [← e2] at this
        simpa using this
      · rw [hW3, hW2, hW1]; rfl
      · rw [hW3, hW2, hW1]; rfl
      · rw [hW3, hW2, hW1]; rfl
      · rw [hW3, hW2, hW1]; simp
      · have hkg : k ≠ g := by omega
        rw [hW3]
        refine (setRow_other W2.drew g k C2 hkg).trans ?_
        show W2.heap[k]? = _
        rw [hW2]
        exact (setRow_other W1 g k C1 hkg).trans (hold k (by omega)))
    have q1 : (cap : Int) < (N : Int) + 1 := by omega
    have hz : ((0 : Int) == (N : Int)) = false := by rw [beq_eq_false_iff_ne]; omega
    have w2 : IntKind.i64.wrap 1 = 1 := rfl
    have hb2 : ¬ (G = 1) := by omega
    have hb4 : ¬ (G = 0) := by omega
    have hb6 : ¬ (cap = 0) := by omega
    have hb3 : (1 : Int) ≤ (N : Int) + 1 := by omega
    have hb5 : (0 : Int) ≤ (N : Int) + 1 := by omega
    have hb7 : (0 : Int) ≤ (N : Int) := by omega
    clear hsrc1 hsrc2 hC1s hC1 hC2 hnw hnl hn1 hcl r7 r8 hL1 hL2 hR1 hR2 hX1 hold hgb hROW hRs hW1 hW2 hW3 hG hsz hbb hzz hi
    rw [← hN] at r4 hN0 hb ⊢
    clear hN hwl us ui hxb r3 r6 hbo hne hlb hg
    go_enter Try.func46, Try.ntmps46
    go_upto_region 11 with (first
      | (at_builtin; refine Lib.wpList_append_run _ rfl _ _ _ _ rfl _ _ rfl rfl _ _ (hrz _) ?_)
      | (at_builtin; refine wpList_copy_runS _ rfl _ _ TWts TWts rfl _ _ rfl rfl (hcp1 _ _) ?_))
    go_region_law (refine step_copy_runS rfl _ _ TWts TWts rfl _ _ (by simp [Act.eval, Act.put]) (by simp [Act.eval, Act.put]) (hcp2 _ _ _) ?_)
    all_goals
      go_wp2_with fail
      go_ret
      exact HE.out
end Go.Proofs.Ytbmcdlcoojmppaa

/-
  The code's table of locks: slices.Insert at a line's front, or at its end.
-/
namespace Go.Proofs.Ytbmcdlcoojmppaa
open Go.RowKit Go.Maps

theorem insert_place {w : World} {ob : Option Nat} {v : Value} {ws : List (Nat × Int)} {pop : Bool} (h : LnAt w ob v ws pop) {N : Nat} (hN : N = ws.length) (Y : Bool) {b o : Nat} {m : Int} (hb : ws.length ≤ 1000000000)
    (hxb : Blk w b TWt #[.int .u64 (o : Int), .int .i64 m]) (hbo : ob ≠ some b) {Z : Nat} (hZ : Z = if Y = true then 0 else N) :
    Calls Try.prog 46 #[v, .int .i64 (Z : Int), .slice (some ⟨b, 0, none⟩) 1 1] w (RetLn ob (lineIn Y o m ws) pop w) := by
  have c0 := hxb.cell 0
  have c1 := hxb.cell 1
  simp at c0 c1
  unfold lineIn
  cases Y with
  | false =>
    rw [if_neg (by simp)] at hZ ⊢
    subst hZ
    exact insert_end h hN hb c0 c1
  | true =>
    rw [if_pos rfl] at hZ ⊢
    subst hZ
    by_cases hne : ws = []
    · subst hne
      exact insert_end h (N := 0) rfl hb c0 c1
    · exact insert_front h hne hb hxb hbo
end Go.Proofs.Ytbmcdlcoojmppaa

