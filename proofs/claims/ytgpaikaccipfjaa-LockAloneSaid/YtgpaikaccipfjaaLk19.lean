
/-
  The code's table of locks: a line grows at its end.
-/
import Derived.Test.YtgpaikaccipfjaaLk18
namespace Go.Proofs.Ytgpaikaccipfjaa
open Go.RowKit Go.Maps

abbrev TWts : TypeId := 68
theorem wt_info : (Try.prog.info? TWt).map (fun i => (i.zero, i.size, i.bytes)) = some (some (.agg #[.int .u64 0, .int .i64 0]), 2, 16) := by kernel_rfl
theorem wcells_len (ws : List (Nat × Int)) : (wcells ws).length = 2 * ws.length := by
  induction ws with
  | nil => rfl
  | cons a r ih =>
    show ([Value.int .u64 (a.1 : Int), .int .i64 a.2] ++ wcells r).length = _
    simp [ih]
    omega
theorem wcells_app (ws : List (Nat × Int)) (o : Nat) (m : Int) : wcells (ws ++ [(o, m)]) = wcells ws ++ [.int .u64 (o : Int), .int .i64 m] := by
  unfold wcells
  rw [List.flatMap_append]
  rfl
/-- A line grows at its end. -/
theorem run_append_line {w : World} {ob : Option Nat} {v : Value} {ws : List (Nat × Int)} {pop : Bool} (h : LnAt w ob v ws pop) (o : Nat) (m : Int) (hb : ws.length ≤ 1000000000) {b c : Nat}
    (hx0 : w.cell? ⟨b, 0, none⟩ = some (.int .u64 (o : Int))) (hx1 : w.cell? ⟨b, 1, none⟩ = some (.int .i64 m)) (ty : TypeId) :
    ∃ v' w' ob', (Builtin.append_ #[TWts, TWts] ty #[v, .slice (some ⟨b, 0, none⟩) 1 c]).run Try.prog w = .ok v' w' ∧ LnAt w' ob' v' (ws ++ [(o, m)]) pop ∧ w.grownBy w' ob ∧ (∀ n, ob' = some n → ob = some n ∨ w.heap.size ≤ n) := by
  obtain ⟨i, hi, hz, hsz, hbb⟩ := inf_parts wt_info
  obtain ⟨news, hnw⟩ : ∃ news : List Value, news = [.int .u64 (o : Int), .int .i64 m] := ⟨_, rfl⟩
  have hl : news.length = 1 * i.size := by rw [hsz, hnw]; rfl
  have hnews : ∀ j u, news[j]? = some u → w.cell? ((⟨b, 0, none⟩ : Addr).add j) = some u := fun j u hj => by
    rw [add_lit', Nat.zero_add]
    rw [hnw] at hj
    match j, hj with
    | 0, hj => cases hj; exact hx0
    | 1, hj => cases hj; exact hx1
  have h1 : ∀ u, u ∈ news → u.oneCell' = true := fun u hu => by
    rw [hnw] at hu
    simp at hu
    rcases hu with rfl | rfl <;> rfl
  have hln : (ws ++ [(o, m)]).length = ws.length + 1 := by simp
  have hwa : wcells (ws ++ [(o, m)]) = wcells ws ++ news := by rw [wcells_app, hnw]
  have hus := Try.underlying68
  have grown : ∀ (old : Nat), old ≤ ws.length → ∀ (row : Option Nat),
      LnAt (w.drew.alloc (.cells ((wcells ws).toArray ++ news.toArray ++ Builtin.zeroCells (Value.agg #[.int .u64 0, .int .i64 0]).cells (grownCap w (ws.length + 1) old TWt - (ws.length + 1))) TWt)) (some w.heap.size)
        (.slice (some ⟨w.heap.size, 0, none⟩) (ws.length + 1) (grownCap w (ws.length + 1) old TWt)) (ws ++ [(o, m)]) pop ∧
      w.grownBy (w.drew.alloc (.cells ((wcells ws).toArray ++ news.toArray ++ Builtin.zeroCells (Value.agg #[.int .u64 0, .int .i64 0]).cells (grownCap w (ws.length + 1) old TWt - (ws.length + 1))) TWt)) row := by
    intro old ho row
    have hge := grownCap_ge w (ws.length + 1) old TWt
    have hcm : grownCap w (ws.length + 1) old TWt ≤ maxLen := grownCap_le_maxLen w (ws.length + 1) old TWt (by simp only [maxLen]; omega)
    have hcs : ((wcells ws).toArray ++ news.toArray ++ Builtin.zeroCells (Value.agg #[.int .u64 0, .int .i64 0]).cells (grownCap w (ws.length + 1) old TWt - (ws.length + 1))).size = grownCap w (ws.length + 1) old TWt * 2 := by
      have e : (Value.agg #[.int .u64 0, .int .i64 0]).cells.size = 2 := rfl
      simp only [Array.size_append, List.size_toArray, size_zeroCells, e, wcells_len, hl, hsz]
      omega
    refine ⟨.inr ⟨w.heap.size, 0, _, _, rfl, by rw [hln], heap_alloc_new w.drew _, by rw [hln]; exact hge, hcm, by rw [hcs]; omega, fun j u hj => ?_, fun _ => ⟨rfl, hcs⟩⟩, ⟨rfl, rfl, rfl, by simp, fun k hk _ => heap_alloc_old w.drew _ (by exact hk)⟩⟩
    rw [hwa] at hj
    have hjl := (List.getElem?_eq_some_iff.1 hj).1
    rw [Nat.mul_zero, Nat.zero_add, Array.getElem?_append_left (by simpa using hjl)]
    simpa using hj
  rcases h with ⟨rfl, rfl, rfl⟩ | ⟨lb, off, cap, cs, rfl, rfl, r3, r4, r5, r6, r7, r8⟩
  · have hr := run_append_nil (P := Try.prog) w TWts ty TWt i (.agg #[.int .u64 0, .int .i64 0]) hus hi hz ⟨b, 0, none⟩ 1 c news hl hnews (by omega) (by omega) (by rw [hbb]; omega)
    have hg := grown 0 (by simp) none
    have e0 : (wcells []).toArray ++ news.toArray = news.toArray := by
      show #[] ++ news.toArray = _
      simp
    rw [e0] at hg
    exact ⟨_, _, _, hr, hg.1, hg.2, fun n hn => .inr (by cases hn; exact Nat.le_refl _)⟩
  · by_cases hroom : ws.length + 1 ≤ cap
    · have hf := run_firstCells_some (P := Try.prog) w i.size 1 ⟨b, 0, none⟩ 1 c news hl hnews
      have hl2 : news.length = 2 := by rw [hl, hsz]
      have hst := run_storeCells_at Try.prog lb (2 * off + ws.length * 2) TWt news 0 cs w r3 (by rw [hl2]; omega) h1
      simp only [Nat.add_zero] at hst
      have hr : (Builtin.append_ #[TWts, TWts] ty #[.slice (some ⟨lb, 2 * off, none⟩) ws.length cap, .slice (some ⟨b, 0, none⟩) 1 c]).run Try.prog w = .ok (.slice (some ⟨lb, 2 * off, none⟩) (ws.length + 1) cap) (w.setRow lb (cs.toList.take (2 * off + ws.length * 2) ++ news ++ cs.toList.drop (2 * off + ws.length * 2 + news.length)).toArray) := by
        have ha : (⟨lb, 2 * off, none⟩ : Addr).add (ws.length * i.size) = ⟨lb, 2 * off + ws.length * 2, none⟩ := by rw [add_lit', hsz]
        simp [Builtin.append_, run_underlying hus, sizeOf, typeInfo, hi, Builtin.lenOf, hroom, hf, ha, hst]
      refine ⟨_, _, some lb, hr, .inr ⟨lb, off, cap, _, rfl, by rw [hln], setRow_heap w lb cs _ TWt _ r3, by rw [hln]; exact hroom, r5, ?_, fun j u hj => ?_, fun hp => ⟨(r8 hp).1, ?_⟩⟩, ⟨rfl, rfl, rfl, by simp, fun k _ hk => setRow_other w lb k _ (fun e => hk (by rw [e]))⟩, fun n hn => .inl hn⟩
      · simp only [List.size_toArray, List.length_append, List.length_take, List.length_drop, Array.length_toList, hl2]
        omega
      · rw [List.getElem?_toArray]
        rw [hwa] at hj
        rcases Nat.lt_or_ge j (2 * ws.length) with hlt | hge
        · rw [List.getElem?_append_left (by rw [wcells_len]; exact hlt)] at hj
          have := r7 j u hj
          rw [List.append_assoc, List.getElem?_append_left (by simp; omega), List.getElem?_take_of_lt (by omega)]
          simpa using this
        · have hjl := (List.getElem?_eq_some_iff.1 hj).1
          rw [List.length_append, wcells_len, hl2] at hjl
          rw [List.getElem?_append_right (by rw [wcells_len]; exact hge), wcells_len] at hj
          have hA : (cs.toList.take (2 * off + ws.length * 2)).length = 2 * off + ws.length * 2 := by
            have e : cs.toList.length = cs.size := by simp
            rw [List.length_take, e]
            omega
          rw [List.append_assoc, List.getElem?_append_right (by rw [hA]; omega), hA, List.getElem?_append_left (by rw [hl2]; omega), show 2 * off + j - (2 * off + ws.length * 2) = j - 2 * ws.length by omega]
          exact hj
      · have := (r8 hp).2
        simp only [List.size_toArray, List.length_append, List.length_take, List.length_drop, Array.length_toList, hl2]
        omega
    · have hce : cap = ws.length := by omega
      subst hce
      have hr := run_append_grow (P := Try.prog) w TWts ty TWt i (.agg #[.int .u64 0, .int .i64 0]) hus hi hz ⟨lb, 2 * off, none⟩ ws.length ws.length (wcells ws) (by rw [wcells_len, hsz]; omega) (fun j u hj => by
        rw [add_lit']
        exact (r3.cell _).trans (r7 j u hj)) ⟨b, 0, none⟩ 1 c news hl hnews (by omega) (by omega) (growslice_fits (by omega) (by rw [hbb]; omega))
      have hg := grown ws.length (by omega) (some lb)
      exact ⟨_, _, _, hr, hg.1, hg.2, fun n hn => .inr (by cases hn; exact Nat.le_refl _)⟩
end Go.Proofs.Ytgpaikaccipfjaa
