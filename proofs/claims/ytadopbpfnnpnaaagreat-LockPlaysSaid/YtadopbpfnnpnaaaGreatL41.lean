/-
  Texts on locks, put together: LkRef16 LkDoc6 LkDoc7 LkFree1 LkPlay1.
-/
import Derived.Test.YtadopbpfnnpnaaaGreatL27
import Derived.Test.YtadopbpfnnpnaaaGreatL40
set_option linter.unusedVariables false
set_option linter.unusedSimpArgs false
/-
  The document's Ask: its refusals.
-/
namespace Go.Proofs.YtadopbpfnnpnaaaGreat
open Go.RowKit Go.Maps

/-- Where one stands that upgrades, seen from a place on. -/
def inAt (x : DL) (L : List DL) (p : Nat) : Nat := p + ((L.drop p).takeWhile (DT.past x)).length
theorem inAt_len (x : DL) (L : List DL) : inAt x L L.length = L.length := by unfold inAt; simp
theorem inAt_step {x : DL} {L : List DL} {p : Nat} (h : p < L.length) : inAt x L p = if DT.past x (L.getD p DL.zero) = false then p else inAt x L (p + 1) := by
  unfold inAt
  rw [List.drop_eq_getElem_cons h, List.takeWhile_cons, ← dnth h]
  cases e : DT.past x (L.getD p DL.zero) with
  | true => simp; omega
  | false => simp
theorem inAt_le {x : DL} {L : List DL} {p : Nat} (h : p ≤ L.length) : inAt x L p ≤ L.length := by
  unfold inAt
  have := (List.takeWhile_sublist (p := DT.past x) (l := L.drop p)).length_le
  rw [List.length_drop] at this
  omega
theorem take_inAt (x : DL) : ∀ L : List DL, L.takeWhile (DT.past x) = L.take (inAt x L 0) ∧ L.dropWhile (DT.past x) = L.drop (inAt x L 0) := fun L => by
  have h1 := List.takeWhile_append_dropWhile (p := DT.past x) (l := L)
  have e : inAt x L 0 = (L.takeWhile (DT.past x)).length := by unfold inAt; simp
  rw [e]
  have t := List.take_left' (l₂ := L.dropWhile (DT.past x)) (rfl : (L.takeWhile (DT.past x)).length = _)
  have u := List.drop_left' (l₂ := L.dropWhile (DT.past x)) (rfl : (L.takeWhile (DT.past x)).length = _)
  rw [h1] at t u
  exact ⟨t.symm, u.symm⟩
theorem ins_line (D : DT) (x : DL) : (D.ins x).line = D.line.take (if x.up = true then inAt x D.line 0 else D.line.length) ++ [x] ++ D.line.drop (if x.up = true then inAt x D.line 0 else D.line.length) := by
  unfold DT.ins
  by_cases h : x.up = true
  · simp only [h, if_true]
    rw [(take_inAt x D.line).1, (take_inAt x D.line).2]
    simp
  · simp only [h, if_false]
    simp
section
variable {w : World} {base d : Nat} {hv lv : Value} {D : DT}
def RetDA (base d : Nat) (hv lv : Value) (r : Int × DT) (w : World) (e : Ending) (w' : World) : Prop := e = .returned (.int .i64 r.1) ∧ RetDt base d hv lv r.2 w w'
theorem RetDA.same {r : Int} (h : DtA w base d hv lv D) {w' : World} (g : Gr w w') : RetDt base d hv lv D w w' := ⟨hv, lv, h.gr g, DTn.of_gr g⟩
theorem wi_yes {o : Nat} (h : D.line.any (ofO o) = true) : D.wi o = ((D.line.findIdx (ofO o) : Nat) : Int) ∧ D.line.findIdx (ofO o) < D.line.length ∧ D.at o = D.line.getD (D.line.findIdx (ofO o)) DL.zero := by
  have h1 := (any_idx o _).1 h
  refine ⟨by unfold DT.wi; rw [if_pos h1], h1, ?_⟩
  unfold DT.at
  exact find_idx o _
theorem wi_no {o : Nat} (h : ¬ D.line.any (ofO o) = true) : D.wi o = -1 := by
  unfold DT.wi
  rw [if_neg fun e => h ((any_idx o _).2 e)]
set_option maxRecDepth 100000 in
theorem dAsk_bad (h : DtA w base d hv lv D) (o : Nat) (k : Key) {m : Int} (hm : ¬ (m = 1 ∨ m = 2)) : Calls Tryz.prog 10 #[.pointer (some ⟨d, 0, none⟩), .int .u64 (o : Int), .agg #[.int .i64 k.1, .int .i64 k.2], .int .i64 m] w (RetDA base d hv lv (D.ask o k m) w) := by
  have hA : D.ask o k m = (2, D) := by unfold DT.ask; rw [if_pos hm]
  rw [hA]
  obtain ⟨k1, k2⟩ := k
  have HG := Lib.hid (And.intro h (show Gr w (w.alloc (.cells #[.int .i64 k1, .int .i64 k2] TKey)) from (Gr.refl w).alloc (Nat.le_refl _) _))
  have e1 : (m == 1) = false := by rw [beq_eq_false_iff_ne]; exact fun e => hm (.inl e)
  have e2 : (m == 2) = false := by rw [beq_eq_false_iff_ne]; exact fun e => hm (.inr e)
  have e3 : (m != 1) = true := by rw [bne_iff_ne]; exact fun e => hm (.inl e)
  have e4 : (m != 2) = true := by rw [bne_iff_ne]; exact fun e => hm (.inr e)
  clear h hm hA
  go_enter Tryz.func10, Tryz.ntmps10
  go_wp2_with fail
  go_ret
  exact ⟨rfl, RetDA.same (r := 0) HG.out.1 HG.out.2⟩
/-- One that waits already. -/
theorem dAsk_waits (h : DtA w base d hv lv D) (hn : D.line.length ≤ 10000) {o : Nat} (hw : D.line.any (ofO o) = true) (k : Key) {m : Int} (hm : m = 1 ∨ m = 2) : Calls Tryz.prog 10 #[.pointer (some ⟨d, 0, none⟩), .int .u64 (o : Int), .agg #[.int .i64 k.1, .int .i64 k.2], .int .i64 m] w (RetDA base d hv lv (D.ask o k m) w) := by
  have hA : D.ask o k m = if (D.at o).k = k ∧ (D.at o).m = m then (9, D) else (7, D) := by
    unfold DT.ask
    rw [if_neg (show ¬ ¬ (m = 1 ∨ m = 2) from fun e => e hm), if_pos hw]
  obtain ⟨hwi, hlt, hat⟩ := wi_yes hw
  obtain ⟨A, hAe⟩ : ∃ A, A = D.line.findIdx (ofO o) := ⟨_, rfl⟩
  rw [← hAe] at hwi hlt hat
  rw [hA, hat]
  obtain ⟨k1, k2⟩ := k
  obtain ⟨R, hR⟩ : ∃ R, R = if (D.line.getD A DL.zero).k = (k1, k2) ∧ (D.line.getD A DL.zero).m = m then ((9 : Int), D) else (7, D) := ⟨_, rfl⟩
  rw [← hR]
  have HRR := Lib.hid hR
  clear hR
  have g0 : Gr w (w.alloc (.cells #[.int .i64 k1, .int .i64 k2] TKey)) := (Gr.refl w).alloc (Nat.le_refl _) _
  have b0 := Blk.new w TKey #[.int .i64 k1, .int .i64 k2]
  obtain ⟨W0, hW0⟩ : ∃ W0, W0 = w.alloc (.cells #[.int .i64 k1, .int .i64 k2] TKey) := ⟨_, rfl⟩
  rw [← hW0] at g0 b0
  have HW := dWaits_any (h.gr g0).at (by omega) o
  rw [hwi] at HW
  have HH := Lib.hid (And.intro h (And.intro g0 (And.intro b0 (And.intro hlt (And.intro hn (And.intro HW hW0))))))
  have e9 : ¬ (A : Int) < 0 := by omega
  have e10 : (0 : Int) ≤ (A : Int) := by omega
  clear h g0 b0 hlt hn HW hW0 hw hat hwi hAe hA
  rcases hm with rfl | rfl
  · go_enter Tryz.func10, Tryz.ntmps10
    go_upto_region 3 with fail
    rw [show (w.alloc (.cells #[.int .i64 k1, .int .i64 k2] 33)) = W0 from HH.out.2.2.2.2.2.2.symm]
    go_wp2_with fail
    refine HH.out.2.2.2.2.2.1.mono ?_
    rintro e w1 ⟨rfl, g1⟩
    obtain ⟨h, g0, b0, hlt, hn, -, -⟩ := HH.out
    have h1 := h.gr (g0.trans g1)
    have hb := h1.blk
    have hl := h1.line
    obtain ⟨p, c, rfl⟩ := dform hl
    obtain ⟨N, hN⟩ : ∃ N, N = D.line.length := ⟨_, rfl⟩
    have hat := hl.dsl
    rw [← hN] at hat
    obtain ⟨-, hNc, hat⟩ := hat.at
    have c1 := hb.cell 1
    simp at c1
    rw [← hN] at c1
    obtain ⟨g, q, hp, ha, hb1, hb2, hb3, -⟩ := hat A (by omega)
    subst hp
    have z0 := (b0.gr g1).cell 0
    have z1 := (b0.gr g1).cell 1
    simp at z0 z1
    have gA : (A : Int) < (N : Int) := by omega
    obtain ⟨Y, hY⟩ : ∃ Y, Y = (D.line.getD A DL.zero).k := ⟨_, rfl⟩
    obtain ⟨M, hM⟩ : ∃ M, M = (D.line.getD A DL.zero).m := ⟨_, rfl⟩
    rw [← hY] at hb1 hb2
    rw [← hM] at hb3
    have hR := HRR.out
    rw [← hY, ← hM] at hR
    have hq0 : ∀ W, (Op.equalIn 10000 TKey (.agg #[.int .i64 Y.1, .int .i64 Y.2]) (.agg #[.int .i64 k1, .int .i64 k2])).run Tryz.prog W = .ok (decide (Y = (k1, k2))) W := fun W => eqi_key Y (k1, k2) W
    have HE := Lib.hid (RetDA.same (r := 0) h (g0.trans g1))
    clear h g0 b0 hlt hn h1 hb hl hN hat hNc ha hY hM g1
    by_cases hk : Y = (k1, k2)
    · have hq : ∀ W, (Op.equalIn 10000 TKey (.agg #[.int .i64 Y.1, .int .i64 Y.2]) (.agg #[.int .i64 k1, .int .i64 k2])).run Tryz.prog W = .ok true W := fun W => by
        rw [hq0 W, decide_eq_true hk]
      by_cases hMm : M = 1
      · rw [if_pos ⟨hk, hMm⟩] at hR
        subst hR
        have e20 : (M == 1) = true := by rw [hMm]; rfl
        clear hq0 hk hMm
        go_upto_region 5 with fail
        go_quiet (fail)
        go_wp2_with fail
        go_ret
        exact ⟨rfl, HE.out.gr (grD (Gr.refl _))⟩
      · rw [if_neg (fun e => hMm e.2)] at hR
        subst hR
        have e20 : (M == 1) = false := by rw [beq_eq_false_iff_ne]; exact hMm
        clear hq0 hk hMm
        go_upto_region 5 with fail
        go_quiet (fail)
        go_wp2_with fail
        go_ret
        exact ⟨rfl, HE.out.gr (grD (Gr.refl _))⟩
    · have hq : ∀ W, (Op.equalIn 10000 TKey (.agg #[.int .i64 Y.1, .int .i64 Y.2]) (.agg #[.int .i64 k1, .int .i64 k2])).run Tryz.prog W = .ok false W := fun W => by
        rw [hq0 W, decide_eq_false hk]
      rw [if_neg (fun e => hk e.1)] at hR
      subst hR
      clear hq0 hk
      go_upto_region 5 with fail
      go_quiet (fail)
      go_wp2_with fail
      go_ret
      exact ⟨rfl, HE.out.gr (grD (Gr.refl _))⟩
  · go_enter Tryz.func10, Tryz.ntmps10
    go_upto_region 3 with fail
    rw [show (w.alloc (.cells #[.int .i64 k1, .int .i64 k2] 33)) = W0 from HH.out.2.2.2.2.2.2.symm]
    go_wp2_with fail
    refine HH.out.2.2.2.2.2.1.mono ?_
    rintro e w1 ⟨rfl, g1⟩
    obtain ⟨h, g0, b0, hlt, hn, -, -⟩ := HH.out
    have h1 := h.gr (g0.trans g1)
    have hb := h1.blk
    have hl := h1.line
    obtain ⟨p, c, rfl⟩ := dform hl
    obtain ⟨N, hN⟩ : ∃ N, N = D.line.length := ⟨_, rfl⟩
    have hat := hl.dsl
    rw [← hN] at hat
    obtain ⟨-, hNc, hat⟩ := hat.at
    have c1 := hb.cell 1
    simp at c1
    rw [← hN] at c1
    obtain ⟨g, q, hp, ha, hb1, hb2, hb3, -⟩ := hat A (by omega)
    subst hp
    have z0 := (b0.gr g1).cell 0
    have z1 := (b0.gr g1).cell 1
    simp at z0 z1
    have gA : (A : Int) < (N : Int) := by omega
    obtain ⟨Y, hY⟩ : ∃ Y, Y = (D.line.getD A DL.zero).k := ⟨_, rfl⟩
    obtain ⟨M, hM⟩ : ∃ M, M = (D.line.getD A DL.zero).m := ⟨_, rfl⟩
    rw [← hY] at hb1 hb2
    rw [← hM] at hb3
    have hR := HRR.out
    rw [← hY, ← hM] at hR
    have hq0 : ∀ W, (Op.equalIn 10000 TKey (.agg #[.int .i64 Y.1, .int .i64 Y.2]) (.agg #[.int .i64 k1, .int .i64 k2])).run Tryz.prog W = .ok (decide (Y = (k1, k2))) W := fun W => eqi_key Y (k1, k2) W
    have HE := Lib.hid (RetDA.same (r := 0) h (g0.trans g1))
    clear h g0 b0 hlt hn h1 hb hl hN hat hNc ha hY hM g1
    by_cases hk : Y = (k1, k2)
    · have hq : ∀ W, (Op.equalIn 10000 TKey (.agg #[.int .i64 Y.1, .int .i64 Y.2]) (.agg #[.int .i64 k1, .int .i64 k2])).run Tryz.prog W = .ok true W := fun W => by
        rw [hq0 W, decide_eq_true hk]
      by_cases hMm : M = 2
      · rw [if_pos ⟨hk, hMm⟩] at hR
        subst hR
        have e20 : (M == 2) = true := by rw [hMm]; rfl
        clear hq0 hk hMm
        go_upto_region 5 with fail
        go_quiet (fail)
        go_wp2_with fail
        go_ret
        exact ⟨rfl, HE.out.gr (grD (Gr.refl _))⟩
      · rw [if_neg (fun e => hMm e.2)] at hR
        subst hR
        have e20 : (M == 2) = false := by rw [beq_eq_false_iff_ne]; exact hMm
        clear hq0 hk hMm
        go_upto_region 5 with fail
        go_quiet (fail)
        go_wp2_with fail
        go_ret
        exact ⟨rfl, HE.out.gr (grD (Gr.refl _))⟩
    · have hq : ∀ W, (Op.equalIn 10000 TKey (.agg #[.int .i64 Y.1, .int .i64 Y.2]) (.agg #[.int .i64 k1, .int .i64 k2])).run Tryz.prog W = .ok false W := fun W => by
        rw [hq0 W, decide_eq_false hk]
      rw [if_neg (fun e => hk e.1)] at hR
      subst hR
      clear hq0 hk
      go_upto_region 5 with fail
      go_quiet (fail)
      go_wp2_with fail
      go_ret
      exact ⟨rfl, HE.out.gr (grD (Gr.refl _))⟩
end
end Go.Proofs.YtadopbpfnnpnaaaGreat

/-
  How many locks there are, by the document and by the code.
-/
namespace Go.Proofs.YtadopbpfnnpnaaaGreat
open Go.RowKit Go.Maps

theorem sumN_add (f g : Nat → Nat) : ∀ L : List Nat, sumN (fun o => f o + g o) L = sumN f L + sumN g L
  | [] => rfl
  | a :: r => by
    have := sumN_add f g r
    unfold sumN
    omega
def pairsOf (T : Tb) (L : List Nat) : List (Nat × Key) := L.flatMap fun o => (T.of o).ks.map fun k => (o, k)
theorem pairs_len (T : Tb) : ∀ L : List Nat, (pairsOf T L).length = sumN (fun o => (T.of o).ks.length) L
  | [] => rfl
  | a :: r => by
    have := pairs_len T r
    unfold pairsOf at this ⊢
    unfold sumN
    rw [List.flatMap_cons, List.length_append, this, List.length_map]
theorem mem_pairs {T : Tb} {L : List Nat} {o : Nat} {k : Key} : (o, k) ∈ pairsOf T L ↔ o ∈ L ∧ k ∈ (T.of o).ks := by
  unfold pairsOf
  rw [List.mem_flatMap]
  constructor
  · rintro ⟨a, h1, h2⟩
    obtain ⟨b, h3, h4⟩ := List.mem_map.1 h2
    cases h4
    exact ⟨h1, h3⟩
  · rintro ⟨h1, h2⟩
    exact ⟨o, h1, List.mem_map.2 ⟨k, h2, rfl⟩⟩
theorem pairs_nodup {T : Tb} (hp : ∀ o, (T.of o).ks.Nodup) : ∀ {L : List Nat}, L.Nodup → (pairsOf T L).Nodup
  | [], _ => List.nodup_nil
  | a :: r, h => by
    obtain ⟨h1, h2⟩ := List.nodup_cons.1 h
    have ih := pairs_nodup hp h2
    have e : pairsOf T (a :: r) = ((T.of a).ks.map fun k => (a, k)) ++ pairsOf T r := by unfold pairsOf; rw [List.flatMap_cons]
    rw [e]
    refine List.nodup_append.2 ⟨?_, ih, fun x hx y hy exy => ?_⟩
    · refine List.pairwise_map.2 ((hp a).imp fun hne e => hne ?_)
      injection e
    · obtain ⟨k, _, rfl⟩ := List.mem_map.1 hx
      rw [← exy] at hy
      exact h1 (mem_pairs.1 hy).1
theorem sum_filter (p : Nat → Prop) [DecidablePred p] : ∀ L : List Nat, sumN (fun o => if p o then 0 else 1) L = (L.filter fun o => decide (¬ p o)).length
  | [] => rfl
  | a :: r => by
    have := sum_filter p r
    unfold sumN
    rw [List.filter_cons]
    by_cases h : p a
    · simp [h, this]
    · simp [h, this]; omega
section
variable {T : Tb} {D : DT}
theorem Rel.many (h : Rel T D) (hi : Inv T) : T.many = ((D.held.length + D.line.length : Nat) : Int) := by
  have h1 := hi.cnt T.oo hi.ond fun o ho => hi.some_py fun e => ho (by unfold Tb.cnt; rw [e]; rfl)
  have e1 : sumN T.cnt T.oo = sumN (fun o => (T.of o).ks.length) T.oo + sumN (fun o => if (T.of o).mode = 0 then 0 else 1) T.oo := by
    rw [← sumN_add]
    exact sumN_same fun _ _ => rfl
  have e2 : D.held.length = (pairsOf T T.oo).length := by
    have a1 : (D.held.map fun x => (x.o, x.k)).length ≤ (pairsOf T T.oo).length := nodup_le _ _ h.hn fun q hq => by
      obtain ⟨x, hx, rfl⟩ := List.mem_map.1 hq
      have hk := (h.hk x hx).1
      exact mem_pairs.2 ⟨hi.some_py (fun e => by rw [e] at hk; cases hk), hk⟩
    have a2 : (pairsOf T T.oo).length ≤ (D.held.map fun x => (x.o, x.k)).length := nodup_le _ _ (pairs_nodup hi.pnd hi.ond) fun q hq => by
      obtain ⟨o, k⟩ := q
      obtain ⟨x, x1, x2, x3⟩ := h.hx o k (mem_pairs.1 hq).2
      exact List.mem_map.2 ⟨x, x1, by rw [x2, x3]⟩
    rw [List.length_map] at a1 a2
    omega
  have e3 : D.line.length = (T.oo.filter fun o => decide (¬ (T.of o).mode = 0)).length := by
    have a1 : (D.line.map DL.o).length ≤ (T.oo.filter fun o => decide (¬ (T.of o).mode = 0)).length := nodup_le _ _ h.on fun q hq => by
      obtain ⟨x, hx, rfl⟩ := List.mem_map.1 hq
      obtain ⟨-, -, h3, h4⟩ := h.line_of hi hx
      have hm : (T.of x.o).mode ≠ 0 := by rw [h3]; omega
      exact List.mem_filter.2 ⟨hi.some_py (fun e => hm (by rw [e]; rfl)), by simpa using hm⟩
    have a2 : (T.oo.filter fun o => decide (¬ (T.of o).mode = 0)).length ≤ (D.line.map DL.o).length := nodup_le _ _ (hi.ond.sublist List.filter_sublist) fun q hq => by
      obtain ⟨-, hm⟩ := List.mem_filter.1 hq
      obtain ⟨x, x1, x2, -, -⟩ := h.waits hi (o := q) (by simpa using hm)
      exact List.mem_map.2 ⟨x, x1, x2⟩
    rw [List.length_map] at a1 a2
    omega
  rw [h1, e1, ← pairs_len, sum_filter (fun o => (T.of o).mode = 0), ← e2, ← e3]
end
end Go.Proofs.YtadopbpfnnpnaaaGreat

/-
  Free takes away one place after another: what is left.
-/
namespace Go.Proofs.YtadopbpfnnpnaaaGreat
open Go.RowKit Go.Maps

/-- Those of an owner are gone from a place on. -/
def offFrom (o : Nat) (L : List DL) (p : Nat) : List DL := L.take p ++ (L.drop p).filter fun x => !ofO o x
theorem offFrom_len (o : Nat) (L : List DL) : offFrom o L L.length = L := by unfold offFrom; simp
theorem offFrom_zero (o : Nat) (L : List DL) : offFrom o L 0 = L.filter fun x => !ofO o x := by unfold offFrom; simp
theorem offFrom_nth {o : Nat} {L : List DL} {p : Nat} (h : p < L.length) : p < (offFrom o L (p + 1)).length ∧ (offFrom o L (p + 1)).getD p DL.zero = L.getD p DL.zero := by
  have hl : (L.take (p + 1)).length = p + 1 := by rw [List.length_take]; omega
  constructor
  · unfold offFrom
    rw [List.length_append, hl]
    omega
  · unfold offFrom
    rw [List.getD, List.getElem?_append_left (by omega), List.getElem?_take, if_pos (by omega)]
    rfl
theorem offFrom_step {o : Nat} {L : List DL} {p : Nat} (h : p < L.length) : offFrom o L p = if ofO o (L.getD p DL.zero) = true then (offFrom o L (p + 1)).eraseIdx p else offFrom o L (p + 1) := by
  have hl : (L.take p).length = p := by rw [List.length_take]; omega
  have e1 : L.take (p + 1) = L.take p ++ [L[p]] := List.take_succ_eq_append_getElem h
  have e2 : L.drop p = L[p] :: L.drop (p + 1) := List.drop_eq_getElem_cons h
  unfold offFrom
  rw [e1, e2, List.filter_cons, dnth h]
  cases e : ofO o L[p] with
  | true =>
    simp only [Bool.not_true, Bool.false_eq_true, if_false, if_true, List.append_assoc, List.singleton_append]
    rw [List.eraseIdx_append_of_length_le (by omega), hl, Nat.sub_self]
    rfl
  | false => simp only [Bool.not_false, if_true, Bool.false_eq_true, if_false, List.append_assoc, List.singleton_append]
theorem erase_off {o : Nat} : ∀ {L : List DL}, (L.map DL.o).Nodup → L.findIdx (ofO o) < L.length → L.eraseIdx (L.findIdx (ofO o)) = L.filter fun x => !ofO o x
  | [], _, h => by simp at h
  | x :: r, hn, h => by
    rw [List.map_cons, List.nodup_cons] at hn
    rw [List.findIdx_cons] at h ⊢
    rw [List.filter_cons]
    cases e : ofO o x with
    | true =>
      have hr : r.filter (fun y => !ofO o y) = r := List.filter_eq_self.2 fun y hy => by
        cases e2 : ofO o y with
        | false => rfl
        | true => exact absurd (by rw [ofO_iff.1 e, ← ofO_iff.1 e2]; exact List.mem_map.2 ⟨y, hy, rfl⟩) hn.1
      simp [hr]
    | false =>
      rw [e] at h
      have := erase_off (o := o) hn.2 (by simpa using h)
      simp [this]
end Go.Proofs.YtadopbpfnnpnaaaGreat

/-
  The document's Free: what its rounds keep.
-/
namespace Go.Proofs.YtadopbpfnnpnaaaGreat
open Go.RowKit Go.Maps

theorem off_lineOf (D : DT) (k : Key) (q : Nat) : (D.off q).lineOf k = (D.lineOf k).filter fun n => !decide (n = q) := by
  unfold DT.lineOf DT.off
  rw [List.filter_map, List.filter_filter, List.filter_filter]
  congr 1
  refine List.filter_congr fun x _ => ?_
  rw [Bool.and_comm]
  rfl
theorem lineOf_sub (D : DT) (k : Key) : (D.lineOf k).Sublist (D.line.map DL.o) := (List.filter_sublist).map _
theorem lineOf_off {D : DT} {k : Key} {q : Nat} {r : List Nat} (hn : (D.line.map DL.o).Nodup) (h : D.lineOf k = q :: r) : (D.off q).lineOf k = r := by
  have h1 := (lineOf_sub D k).nodup hn
  rw [h, List.nodup_cons] at h1
  rw [off_lineOf, h, List.filter_cons, if_neg (by simp), List.filter_eq_self]
  intro n hn2
  have : n ≠ q := fun e => h1.1 (e ▸ hn2)
  simpa using this
theorem lineOf_any {D : DT} {k : Key} {q : Nat} {r : List Nat} (h : D.lineOf k = q :: r) : D.line.any (ofO q) = true := by
  have h1 : q ∈ D.lineOf k := by rw [h]; simp
  obtain ⟨x, x1, x2⟩ := List.mem_map.1 h1
  exact List.any_eq_true.2 ⟨x, (List.mem_filter.1 x1).1, ofO_iff.2 x2⟩
theorem give_line (D : DT) (x : DL) : (D.give x).line = D.line := by unfold DT.give; split <;> rfl
theorem give_lineOf (D : DT) (x : DL) (k : Key) : (D.give x).lineOf k = D.lineOf k := by unfold DT.lineOf; rw [give_line]
theorem setM_len (o : Nat) (k : Key) (m : Int) : ∀ l, (setM o k m l).length = l.length
  | [] => rfl
  | x :: r => by unfold setM; split <;> simp [setM_len o k m r]
theorem give_held_len (D : DT) (x : DL) : (D.give x).held.length ≤ D.held.length + 1 := by
  unfold DT.give
  split
  · simp only [setM_len]; omega
  · simp
theorem off_len {D : DT} {q : Nat} (h : D.line.any (ofO q) = true) : (D.off q).line.length + 1 ≤ D.line.length := by
  obtain ⟨x, x1, x2⟩ := List.any_eq_true.1 h
  have : (D.line.filter fun y => !ofO q y).length < D.line.length := by
    refine List.length_filter_lt_length_iff_exists.2 ⟨x, x1, by simp [x2]⟩
  exact this
theorem off_nodup {D : DT} {q : Nat} (h : (D.line.map DL.o).Nodup) : ((D.off q).line.map DL.o).Nodup := (List.filter_sublist.map _).nodup h
theorem off_erase {D : DT} {q : Nat} (hn : (D.line.map DL.o).Nodup) (h : D.line.any (ofO q) = true) : { D with line := D.line.eraseIdx (D.line.findIdx (ofO q)) } = D.off q := by
  unfold DT.off
  rw [erase_off hn ((any_idx q _).1 h)]
/-- What a round of Free has to go on with: the table D, and who came, c; R is where it ends. -/
def FrN (R : List Nat × DT) (n : Nat) (D : DT) (k : Key) (c : List Nat) : Prop := n = (D.lineOf k).length ∧ DT.nextN n D k c = R
theorem nextN_app (k : Key) : ∀ (n : Nat) (D : DT) (c e : List Nat), DT.nextN n D k (e ++ c) = (e ++ (DT.nextN n D k c).1, (DT.nextN n D k c).2)
  | 0, D, c, e => rfl
  | n + 1, D, c, e => by
    unfold DT.nextN
    split
    · rfl
    · split
      · rw [List.append_assoc, nextN_app k n]
      · rfl
theorem FrN.from0 (D : DT) (k : Key) (c : List Nat) : FrN (c ++ (D.next k).1, (D.next k).2) (D.lineOf k).length D k c := by
  refine ⟨rfl, ?_⟩
  have := nextN_app k (D.lineOf k).length D [] c
  rw [List.append_nil] at this
  exact this
theorem FrN.none {R : List Nat × DT} {n : Nat} {D : DT} {k : Key} {c : List Nat} (h : FrN R n D k c) (h0 : D.lineOf k = []) : R = (c, D) := by
  obtain ⟨h1, h2⟩ := h
  rw [h0] at h1
  subst h1
  exact h2.symm
theorem FrN.no {R : List Nat × DT} {n : Nat} {D : DT} {k : Key} {c : List Nat} {q : Nat} {r : List Nat} (h : FrN R n D k c) (h0 : D.lineOf k = q :: r) (hm : D.may (D.at q) = false) : R = (c, D) := by
  obtain ⟨h1, h2⟩ := h
  rw [h0] at h1
  subst h1
  rw [← h2]
  show DT.nextN (r.length + 1) D k c = _
  unfold DT.nextN
  rw [h0]
  simp [hm]
theorem FrN.yes {R : List Nat × DT} {n : Nat} {D : DT} {k : Key} {c : List Nat} {q : Nat} {r : List Nat} (h : FrN R n D k c) (hn : (D.line.map DL.o).Nodup) (h0 : D.lineOf k = q :: r) (hm : D.may (D.at q) = true) : FrN R r.length ((D.off q).give (D.at q)) k (c ++ [(D.at q).o]) ∧ r.length < n := by
  obtain ⟨h1, h2⟩ := h
  rw [h0] at h1
  have h1' : n = r.length + 1 := h1
  subst h1'
  refine ⟨⟨by rw [give_lineOf, lineOf_off hn h0], ?_⟩, by omega⟩
  rw [← h2]
  show _ = DT.nextN (r.length + 1) D k c
  conv => rhs; unfold DT.nextN
  rw [h0]
  simp [hm]
/-- Sizes, and that nobody stands in a line twice. -/
structure FrB (D : DT) (c : List Nat) (M : Nat) : Prop where
  nd : (D.line.map DL.o).Nodup
  hl : D.held.length + D.line.length ≤ M
  cl : c.length + D.line.length ≤ M
theorem FrB.step {D : DT} {c : List Nat} {M : Nat} {q : Nat} (h : FrB D c M) (ha : D.line.any (ofO q) = true) (x : DL) (y : Nat) : FrB ((D.off q).give x) (c ++ [y]) M := by
  have h1 := off_len ha
  have h2 := give_held_len (D.off q) x
  have h3 : (D.off q).held = D.held := rfl
  rw [h3] at h2
  have e1 := h.hl
  have e2 := h.cl
  refine ⟨by rw [give_line]; exact off_nodup h.nd, ?_, ?_⟩
  · rw [give_line]; omega
  · rw [give_line, List.length_append, List.length_singleton]; omega
theorem FrB.next {D : DT} {c : List Nat} {M : Nat} (k : Key) (h : FrB D c M) : FrB (D.next k).2 (c ++ (D.next k).1) M := by
  have key : ∀ (n : Nat) (D : DT) (c : List Nat), FrB D c M → FrB (DT.nextN n D k c).2 (DT.nextN n D k c).1 M := by
    intro n
    induction n with
    | zero => intro D c h; exact h
    | succ n ih =>
      intro D c h
      unfold DT.nextN
      split
      · exact h
      · rename_i q r h0
        split
        · exact ih _ _ (h.step (lineOf_any h0) _ _)
        · exact h
  have := key (D.lineOf k).length D c h
  rw [(FrN.from0 D k c).2] at this
  exact this
theorem lv_b {D : DT} {M : Nat} (o : Nat) (hn : (D.line.map DL.o).Nodup) (h : D.held.length + D.line.length ≤ M) : FrB (D.lv o) [] M := by
  have h1 := List.length_filter_le (fun x => !ofO o x) D.held
  have h2 := List.length_filter_le (fun x => !ofO o x) D.line
  refine ⟨(List.filter_sublist.map _).nodup hn, ?_, ?_⟩
  · show (D.held.filter _).length + (D.line.filter _).length ≤ M
    omega
  · show 0 + (D.line.filter _).length ≤ M
    omega
theorem freeKs_len (D : DT) (o : Nat) : (D.freeKs o).length ≤ D.held.length + 1 := by
  have h1 := keysOf_len (o := o) D.held []
  have h2 := insK_len (k := (D.at o).k) (l := D.keysL o)
  unfold DT.freeKs DT.keysL at *
  simp only [List.length_nil] at h1
  split <;> omega
/-- How Free stands: the table, the row of those that came, the row of the keys. -/
structure FrAt (w0 w : World) (base d : Nat) (hv0 lv0 hv lv so kv : Value) (D : DT) (c : List Nat) (ks : List Key) : Prop where
  tab : DtA w base d hv lv D
  out : Us w w0.heap.size so c
  keys : Kr w w0.heap.size kv ks
  far : ∀ n, so.ownBlock = some n → ¬ DB d hv lv n
  kfar : ∀ n, kv.ownBlock = some n → ¬ DB d hv lv n
  apart : ∀ n, kv.ownBlock = some n → so.ownBlock ≠ some n
  tn : DTn w0 w (DB d hv0 lv0) (DB d hv lv)
theorem kr_stays {w w' : World} {base : Nat} {v : Value} {ks : List Key} (h : Kr w base v ks) (e : ∀ k, v.ownBlock = some k → w'.heap[k]? = w.heap[k]?) : Kr w' base v ks := by
  refine ⟨h.1, ?_⟩
  rcases h.2 with h0 | ⟨g, cap, cur, h1, hb, hg, r⟩
  · exact .inl h0
  · exact .inr ⟨g, cap, cur, h1, hb, (e g (by rw [h1]; rfl)).trans hg, r⟩
section
variable {w0 w w' : World} {base d : Nat} {hv0 lv0 hv lv hv' lv' so so' kv : Value} {D D' : DT} {c c' : List Nat} {ks : List Key}
theorem DtA.lt (h : DtA w base d hv lv D) : ∀ n, DB d hv lv n → n < w.heap.size := fun n hn => by
  rcases hn with e | e | e
  · rw [e]; exact h.blk.lt
  · exact (h.held.lt n e).2
  · exact (h.line.lt n e).2
theorem DtA.stays (h : DtA w base d hv lv D) (e : ∀ n, DB d hv lv n → w'.heap[n]? = w.heap[n]?) : DtA w' base d hv lv D :=
  ⟨h.blk.stays (e d (.inl rfl)), h.held.stays fun k hk => e k (.inr (.inl hk)), h.line.stays fun k hk => e k (.inr (.inr hk)), h.dh, h.dl, h.hl⟩
theorem FrAt.gr (h : FrAt w0 w base d hv0 lv0 hv lv so kv D c ks) (g : Gr w w') : FrAt w0 w' base d hv0 lv0 hv lv so kv D c ks :=
  ⟨h.tab.gr g, h.out.gr g, kr_gr h.keys g, h.far, h.kfar, h.apart, h.tn.trans (DTn.of_gr g)⟩
theorem FrAt.turn (h : FrAt w0 w base d hv0 lv0 hv lv so kv D c ks) (t : DtA w' base d hv' lv' D') (k : DTn w w' (DB d hv lv) (DB d hv' lv')) : FrAt w0 w' base d hv0 lv0 hv' lv' so kv D' c ks := by
  refine ⟨t, h.out.stays fun n hn => k.blk n (h.out.lt n hn).2 (h.far n hn), kr_stays h.keys fun n hn => k.blk n (kr_lt h.keys n hn).2 (h.kfar n hn), fun n hn e => ?_, fun n hn e => ?_, h.apart, h.tn.trans k⟩
  · rcases k.sub n e with e2 | e2
    · exact h.far n hn e2
    · have := (h.out.lt n hn).2; omega
  · rcases k.sub n e with e2 | e2
    · exact h.kfar n hn e2
    · have := (kr_lt h.keys n hn).2; omega
theorem FrAt.app (h : FrAt w0 w base d hv0 lv0 hv lv so kv D c ks) (hr : Us w' w0.heap.size so' c') (g : w.grownBy w' so.ownBlock) (hb : ∀ n, so'.ownBlock = some n → so.ownBlock = some n ∨ w.heap.size ≤ n) : FrAt w0 w' base d hv0 lv0 hv lv so' kv D c' ks := by
  have hne : ∀ n, DB d hv lv n → some n ≠ so.ownBlock := fun n hn e => h.far n e.symm hn
  refine ⟨h.tab.stays fun n hn => g.block n (h.tab.lt n hn) (hne n hn), hr, kr_stays h.keys fun n hn => g.block n (kr_lt h.keys n hn).2 fun e => h.apart n hn e.symm, fun n hn e => ?_, h.kfar, fun n hn e => ?_, ⟨g.os.trans h.tn.os, g.tape.trans h.tn.tape, g.output.trans h.tn.output, Nat.le_trans h.tn.size g.size, fun n hn hq => ?_, h.tn.sub⟩⟩
  · rcases hb n hn with e2 | e2
    · exact h.far n e2 e
    · have := h.tab.lt n e; omega
  · rcases hb n e with e2 | e2
    · exact h.apart n hn e2
    · have := (kr_lt h.keys n hn).2; omega
  · rw [g.block n (Nat.lt_of_lt_of_le hn h.tn.size) (fun e => by have := (h.out.lt n e.symm).1; omega), h.tn.blk n hn hq]
end
end Go.Proofs.YtadopbpfnnpnaaaGreat

/-
  The law LockPlays: the two tables side by side, act by act (no memory here).
-/
namespace Go.Proofs.YtadopbpfnnpnaaaGreat
open Go.RowKit Go.Maps

theorem ins_len (D : DT) (x : DL) : (D.ins x).line.length = D.line.length + 1 := by
  unfold DT.ins
  split
  · simp only [List.length_append, List.length_cons]
    have := congrArg List.length (List.takeWhile_append_dropWhile (p := DT.past x) (l := D.line))
    rw [List.length_append] at this
    omega
  · simp
theorem ask_len (D : DT) (o : Nat) (k : Key) (m : Int) : (D.ask o k m).2.held.length + (D.ask o k m).2.line.length ≤ D.held.length + D.line.length + 1 := by
  unfold DT.ask
  split
  · exact Nat.le_succ _
  split
  · split <;> exact Nat.le_succ _
  split
  · exact Nat.le_succ _
  split
  · have := give_held_len D ⟨o, k, m, decide (D.holds o k ≠ 0)⟩
    show (D.give _).held.length + (D.give _).line.length ≤ _
    rw [give_line]
    omega
  split
  · exact Nat.le_succ _
  · have := ins_len D ⟨o, k, m, decide (D.holds o k ≠ 0)⟩
    show (D.ins _).held.length + (D.ins _).line.length ≤ _
    have h2 : (D.ins ⟨o, k, m, decide (D.holds o k ≠ 0)⟩).held = D.held := rfl
    rw [h2]
    omega
theorem FrB.nexts {M : Nat} : ∀ (ks : List Key) {D : DT} {c : List Nat}, FrB D c M → FrB (DT.nexts D ks).2 (c ++ (DT.nexts D ks).1) M
  | [], D, c, h => by simpa [DT.nexts] using h
  | k :: r, D, c, h => by
    have := FrB.nexts r (h.next k)
    rw [List.append_assoc] at this
    exact this
theorem free_b {D : DT} {M : Nat} (o : Nat) (hn : (D.line.map DL.o).Nodup) (h : D.held.length + D.line.length ≤ M) : FrB (D.free o).2 (D.free o).1 M := FrB.nexts _ (lv_b o hn h)
/-- The two tables, behind n acts. -/
structure PlS (T : Tb) (D : DT) (n : Nat) : Prop where
  inv : Inv T
  acyc : Acyc T
  rel : Rel T D
  oo : T.oo.length ≤ n
  kk : T.kk.length ≤ n
  len : D.held.length + D.line.length ≤ n
theorem PlS.new : PlS Tb.new ⟨[], []⟩ 0 := ⟨new_inv, acyc_new, rel_new, Nat.le_refl _, Nat.le_refl _, Nat.le_refl _⟩
theorem PlS.ask {T : Tb} {D : DT} {n o : Nat} {k : Key} {m : Int} {R : Bool} (h : PlS T D n) (hn : n ≤ 200) (ho : KO.dom o) (hk : KL.dom k) (hR : T.may o k m = false → RingOk T o k R) :
    (D.ask o k m).1 = (T.ask o k m R).1 ∧ PlS (T.ask o k m R).2 (D.ask o k m).2 (n + 1) := by
  have hm := h.rel.many h.inv
  have hl := h.len
  obtain ⟨a, b⟩ := h.rel.ask h.inv h.acyc (R := R) (m := m) ho hk (by omega) hR
  obtain ⟨c1, c2, c3⟩ := ask_inv h.inv (R := R) (m := m) ho hk (fun h1 h2 e => by
    have := (hR h1).2 e
    rw [h2] at this
    cases this)
  exact ⟨a, c1, ask_acyc h.inv h.acyc hR, b, by have := h.oo; omega, by have := h.kk; omega, Nat.le_trans (ask_len D o k m) (by omega)⟩
theorem PlS.free {T : Tb} {D : DT} {n : Nat} (h : PlS T D n) (hn : n ≤ 200) (o : Nat) : (D.free o).1 = T.came o ∧ PlS (T.freed o) (D.free o).2 (n + 1) := by
  obtain ⟨a, b⟩ := h.rel.free h.inv o
  obtain ⟨c1, c2, c3⟩ := freed_inv h.inv o (by have := h.oo; omega) (by have := h.kk; omega)
  exact ⟨a, c1, freed_acyc h.inv h.acyc o, b, by have := h.oo; omega, by have := h.kk; omega, Nat.le_succ_of_le (free_b o h.rel.on h.len).hl⟩
end Go.Proofs.YtadopbpfnnpnaaaGreat

