/-
  Texts on locks, put together: LkRef5 LkRef6 LkRef12.
-/
import Derived.Test.YtadopbpfnnpnaaaGreatL14
import Derived.Test.YtadopbpfnnpnaaaGreatL22
import Derived.Test.YtadopbpfnnpnaaaGreatL28
set_option linter.unusedVariables false
set_option linter.unusedSimpArgs false
/-
  The document's table of locks: a list without one of it.
-/
namespace Go.Proofs.YtadopbpfnnpnaaaGreat
open Go.RowKit Go.Maps

theorem dstep_run {ops : Array Oper} {o : Oper} {a : Act} {w w' : World} {K : Act → World → Prop} {Q : Exit → Act → World → Prop} {E : Prop} (hg : o.guard = none) (s x : Operand) {t : TypeId} (ho : o.op = .call { callee := .builtin .append, args := #[s, x], argTypes := #[t, t] })
    {vs vx v' : Value} (hs : a.eval s = vs) (hx : a.eval x = vx) (hr : (Builtin.append_ #[t, t] o.type #[vs, vx]).run Tryz.prog w = .ok v' w') (h : K (a.put o.dst v') w') :
    if Region.wanted o (yielded ops a.tmps) = true then Oper.wp Tryz.prog o a w K Q else E := by
  have hw : Region.wanted o (yielded ops a.tmps) = true := by simp [Region.wanted, hg]
  rw [if_pos hw]
  unfold Oper.wp execOp
  simp only [ho, resolve, invoke, builtin, Sem.run_bind, Sem.run_pure, Result.andThen_ok, List.map_toArray, List.map_cons, List.map_nil, hs, hx, hr]
  exact h
/-- An append to a row of locks, in a region that draws its order. -/
theorem step_app_d {ops : Array Oper} {o : Oper} {a : Act} {w : World} {K : Act → World → Prop} {Q : Exit → Act → World → Prop} {E : Prop} (hg : o.guard = none) (s x : Operand) (ho : o.op = .call { callee := .builtin .append, args := #[s, x], argTypes := #[TDs, TDs] })
    {base : Nat} {v vx : Value} {L M : List DL} (hs : a.eval s = v) (hr : Dr w base v L) (hx : a.eval x = vx) (hy : DSl w vx M) (hk : L.length + M.length ≤ 1000000000) (hb : base ≤ w.heap.size)
    (h : ∀ v' w', Dr w' base v' (L ++ M) → w.grownBy w' v.ownBlock → (v'.ownBlock = v.ownBlock ∨ v'.ownBlock = some w.heap.size) → K (a.put o.dst v') w') :
    if Region.wanted o (yielded ops a.tmps) = true then Oper.wp Tryz.prog o a w K Q else E := by
  obtain ⟨v', w', e1, e2, e3, e4⟩ := run_app_d hr hy hk hb o.type
  exact dstep_run hg s x ho hs hx e1 (h v' w' e2 e3 e4)
theorem DSl.take {w : World} {p : Option Addr} {N c : Nat} {L : List DL} (h : DSl w (.slice p N c) L) {i : Nat} (hi : i ≤ N) : DSl w (.slice p i c) (L.take i) := by
  obtain ⟨p', c', e, h2, h3, h4, h5⟩ := h
  cases e
  have hl : (L.take i).length = i := by rw [List.length_take]; omega
  refine ⟨p, c, by rw [hl], by omega, h3, fun e => ?_, fun a ha => ?_⟩
  · obtain ⟨rfl, h6⟩ := h4 e
    exact ⟨by simp, h6⟩
  · obtain ⟨g, q, e, hb, hc⟩ := h5 a ha
    refine ⟨g, q, e, fun h0 => hb (by omega), fun n hn j u hu => ?_⟩
    rw [List.getElem_take] at hu
    exact hc n (by omega) j u hu
theorem DSl.drop {w : World} {p : Option Addr} {N c : Nat} {L : List DL} (h : DSl w (.slice p N c) L) {i : Nat} (hi : i ≤ N) : DSl w (sliced p i N c 5) (L.drop i) := by
  obtain ⟨p', c', e, h2, h3, h4, h5⟩ := h
  cases e
  have hl : (L.drop i).length = L.length - i := List.length_drop
  unfold sliced
  refine ⟨_, _, by rw [hl], by omega, Nat.le_trans (by omega) h3, fun e => ?_, fun a ha => ?_⟩
  · split at e
    · obtain ⟨rfl, h6⟩ := h4 e
      exact ⟨by simp, by omega⟩
    · cases p with
      | none =>
        obtain ⟨rfl, h6⟩ := h4 rfl
        exact ⟨by simp, by omega⟩
      | some a => cases e
  · split at ha
    · rename_i hci
      obtain ⟨g, q, e, hb, hc⟩ := h5 a ha
      refine ⟨g, q, e, fun h0 => hb (by omega), fun n hn => by omega⟩
    · cases p with
      | none => cases ha
      | some a0 =>
        obtain ⟨g, q, rfl, hb, hc⟩ := h5 a0 rfl
        cases ha
        refine ⟨g, q + i * 5, add_lit' _ _ _, fun h0 => hb (by omega), fun n hn j u hu => ?_⟩
        rw [List.getElem_drop] at hu
        have := hc (i + n) (by omega) j u hu
        rw [show q + i * 5 + 5 * n + j = q + 5 * (i + n) + j by omega]
        exact this
section
variable {w : World} {base d : Nat} {D : DT}
set_option maxRecDepth 100000 in
theorem without_any {v : Value} {L : List DL} (h : DSl w v L) (hn : L.length ≤ 1000000000) {i : Nat} (hi : i < L.length) : Calls Tryz.prog 31 #[v, .int .i64 (i : Int)] w fun e w' => ∃ v', e = .returned v' ∧ Dr w' w.heap.size v' (L.eraseIdx i) ∧ Gr w w' := by
  have h0 := h
  obtain ⟨p, c, rfl, h2, h3, h4, h5⟩ := h
  obtain ⟨N, hN⟩ : ∃ N, N = L.length := ⟨_, rfl⟩
  rw [← hN] at h0 h2 hn hi ⊢
  have hic : i ≤ c := by omega
  have hw1 : IntKind.i64.wrap ((i : Int) + 1) = ((i + 1 : Nat) : Int) := by rw [IntWalk.i64_in _ (by omega)]; omega
  have hi1 : i + 1 ≤ N := hi
  have hi2 : (0 : Int) ≤ (i : Int) + 1 := by omega
  have hi3 : (i : Int) + 1 ≤ (N : Int) := by omega
  have D1 := h0.take (i := i) (by omega)
  have D2 := h0.drop (i := i + 1) hi1
  have hl1 : (L.take i).length = i := by rw [List.length_take]; omega
  have hl2 : (L.drop (i + 1)).length = N - (i + 1) := by rw [List.length_drop, hN]
  have HH := Lib.hid (And.intro D1 (And.intro D2 (And.intro hl1 (And.intro hl2 (And.intro hN hn)))))
  clear D1 D2 hl1 hl2 h0 hN
  clear h3 h4 h5 h2
  go_enter Tryz.func31, Tryz.ntmps31
  go_upto_region 1 with fail
  go_region_law (first
    | (refine step_app_d (base := w.heap.size) (v := .slice none 0 0) (vx := .slice p i c) rfl _ _ rfl (by simp [Act.eval, Act.put]) (Dr.nil _ _) (by simp [Act.eval, Act.put]) (HH.out.1.gr (grD (Gr.refl _))) (by rw [HH.out.2.2.1]; simp; omega) (Nat.le_refl _) (fun v1 W1 hv1 hg1 hc1 => ?_); have G1 := Lib.hid (And.intro hv1 (dgr_grown (grD (Gr.refl _) : Gr w w.drew) hg1 (fun n hn => nomatch hn))); clear hv1 hg1 hc1)
    | (refine step_app_d (base := w.heap.size) (v := v1) (vx := sliced p (i + 1) N c 5) rfl _ _ rfl (by simp [Act.eval, Act.put]) G1.out.1 (by simp [Act.eval, Act.put, sliced]) (HH.out.2.1.gr G1.out.2) (by have e1 := HH.out.2.2.1; have e2 := HH.out.2.2.2.1; simp only [List.nil_append]; omega) G1.out.2.size (fun v2 W2 hv2 hg2 hc2 => ?_); have G2 := Lib.hid (And.intro hv2 (dgr_grown G1.out.2 hg2 (fun n hn => (G1.out.1.lt n hn).1))); clear hv2 hg2 hc2))
  have HE := Lib.hid (show Dr W2 w.heap.size v2 (L.eraseIdx i) by
    have := G2.out.1
    rw [List.nil_append] at this
    rw [List.eraseIdx_eq_take_drop_succ]
    exact this)
  go_wp2_with fail
  all_goals go_ret
  all_goals exact ⟨_, rfl, HE.out, G2.out.2⟩
end
end Go.Proofs.YtadopbpfnnpnaaaGreat

/-
  The document's add: an owner comes to a rising list.
-/
namespace Go.Proofs.YtadopbpfnnpnaaaGreat
open Go.RowKit Go.Maps

theorem step_app_u {ops : Array Oper} {o : Oper} {a : Act} {w : World} {K : Act → World → Prop} {Q : Exit → Act → World → Prop} {E : Prop} (hg : o.guard = none) (s x : Operand) (ho : o.op = .call { callee := .builtin .append, args := #[s, x], argTypes := #[TUs, TUs] })
    {base : Nat} {v vx : Value} {L M : List Nat} (hs : a.eval s = v) (hr : Us w base v L) (hx : a.eval x = vx) (hy : USl w vx M) (hk : L.length + M.length ≤ 1000000000) (hb : base ≤ w.heap.size)
    (h : ∀ v' w', Us w' base v' (L ++ M) → w.grownBy w' v.ownBlock → K (a.put o.dst v') w') :
    if Region.wanted o (yielded ops a.tmps) = true then Oper.wp Tryz.prog o a w K Q else E := by
  rcases hy with ⟨rfl, rfl⟩ | ⟨g, q, c, rfl, h2, h3, h4⟩
  · obtain ⟨i, hi, hz, hsz, hbb⟩ := inf_parts u64_info
    exact dstep_run hg s x ho hs hx (run_append_owned_none w base TUs o.type TOw i 1 Tryz.underlying38 hi v _ _ hr) (h v w (by simpa using hr) (World.grownBy.refl _ _))
  · obtain ⟨v', w', e1, e2, e3, -⟩ := run_app_us hr h4 hk hb (c := c) o.type
    exact dstep_run hg s x ho hs hx e1 (h v' w' e2 e3)
theorem USl.take {w : World} {p : Option Addr} {c : Nat} {l : List Nat} (h : USl w (.slice p l.length c) l) {i : Nat} (hi : i ≤ l.length) : USl w (.slice p i c) (l.take i) := by
  have hl : (l.take i).length = i := by rw [List.length_take]; omega
  rcases h with ⟨e, rfl⟩ | ⟨g, q, c', e, h2, h3, h4⟩
  · cases e
    have : i = 0 := by simpa using hi
    subst this
    exact .inl ⟨rfl, rfl⟩
  · cases e
    refine .inr ⟨g, q, c, by rw [hl], by omega, h3, fun j hj => ?_⟩
    rw [hl] at hj
    have := h4 j (by omega)
    rw [this]
    congr 1
    simp [List.getD, List.getElem?_take, hj]
theorem USl.drop {w : World} {p : Option Addr} {c : Nat} {l : List Nat} (h : USl w (.slice p l.length c) l) {i : Nat} (hi : i ≤ l.length) : USl w (sliced p i l.length c 1) (l.drop i) := by
  have hl : (l.drop i).length = l.length - i := List.length_drop
  unfold sliced
  rcases h with ⟨e, rfl⟩ | ⟨g, q, c', e, h2, h3, h4⟩
  · cases e
    have : i = 0 := by simpa using hi
    subst this
    exact .inl ⟨rfl, rfl⟩
  · cases e
    by_cases hc : c = i
    · rw [if_pos hc]
      exact .inr ⟨g, q, c - i, by rw [hl], by omega, Nat.le_trans (by omega) h3, fun j hj => by omega⟩
    · rw [if_neg hc]
      refine .inr ⟨g, q + i, c - i, ?_, by omega, Nat.le_trans (by omega) h3, fun j hj => ?_⟩
      · rw [hl, Option.map_some, add_lit', Nat.mul_one]
      · rw [hl] at hj
        have := h4 (i + j) (by omega)
        rw [Nat.add_assoc, this]
        congr 1
        simp [List.getD]
theorem addN_split {o : Nat} : ∀ {l : List Nat} {i : Nat}, i ≤ l.length → (∀ n, n < i → l.getD n 0 < o) → (i < l.length → ¬ l.getD i 0 < o) → addN o l = if i < l.length ∧ l.getD i 0 = o then l else l.take i ++ [o] ++ l.drop i
  | [], i, hi, _, _ => by
    have : i = 0 := by simpa using hi
    subst this
    rfl
  | a :: r, 0, _, _, h2 => by
    have h3 : ¬ a < o := h2 (by simp)
    unfold addN
    rw [if_neg h3]
    by_cases e : a = o
    · rw [if_pos e, if_pos ⟨by simp, e⟩]
    · rw [if_neg e, if_neg (fun h => e h.2)]
      rfl
  | a :: r, i + 1, hi, h1, h2 => by
    have h3 : a < o := h1 0 (by omega)
    unfold addN
    rw [if_pos h3, addN_split (i := i) (by simpa using hi) (fun n hn => h1 (n + 1) (by omega)) (fun h => h2 (by simpa using h))]
    by_cases e : i < r.length ∧ r.getD i 0 = o
    · rw [if_pos e, if_pos ⟨by simpa using e.1, e.2⟩]
    · rw [if_neg e, if_neg (fun h => e ⟨by simpa using h.1, h.2⟩)]
      rfl
set_option maxRecDepth 100000 in
theorem dadd_any {w : World} {base : Nat} {v : Value} {l : List Nat} (h : Us w base v l) (hb : base ≤ w.heap.size) (hn : l.length ≤ 900000000) (o : Nat) : Calls Tryz.prog 48 #[v, .int .u64 (o : Int)] w fun e w' => ∃ v', e = .returned v' ∧ Us w' base v' (addN o l) ∧ Gr w w' := by
  have hus := h.usl
  obtain ⟨p, c, rfl, hat⟩ := hus.form
  obtain ⟨N, hN⟩ : ∃ N, N = l.length := ⟨_, rfl⟩
  have hcN : l.length ≤ c := by
    rcases hus with ⟨e, rfl⟩ | ⟨g, q, c', e, h2, -⟩
    · simp
    · cases e; exact h2
  have HH := Lib.hid (And.intro h (And.intro hus (And.intro hat hN)))
  rw [← hN] at hn hcN ⊢
  clear h hus hat hN
  go_enter Tryz.func48, Tryz.ntmps48
  go_wp2_with fail
  go_loopw [5] (fun i wr => ∃ j : Nat, i = .int .i64 (j : Int) ∧ j ≤ N ∧ wr = w ∧ Hid (∀ n, n < j → l.getD n 0 < o)) (fun i _ => N - (intOf i).toNat)
  case atStart => exact ⟨0, rfl, Nat.zero_le _, rfl, Lib.hid fun n hn => by omega⟩
  case round =>
    obtain ⟨j, rfl, hj, rfl, HJ⟩ := hrel
    obtain ⟨h, hus, hat, hN⟩ := HH.out
    by_cases hlt : j < N
    · have g3 : (j : Int) < (N : Int) := by omega
      have e13 : decide ((j : Int) < (N : Int)) = true := decide_eq_true g3
      obtain ⟨g, q, hp, hc, hcell⟩ := hat j (by omega)
      obtain ⟨X, hX⟩ : ∃ X, X = l.getD j 0 := ⟨_, rfl⟩
      rw [← hX] at hcell
      subst hp
      have hw1 : IntKind.i64.wrap ((j : Int) + 1) = ((j + 1 : Nat) : Int) := by rw [IntWalk.i64_in _ (by omega)]; omega
      by_cases he : X < o
      · have e1 : decide ((X : Int) < (o : Int)) = true := decide_eq_true (by omega)
        have e2 : (X : Int) < (o : Int) := by omega
        have HJ2 : Hid (∀ n, n < j + 1 → l.getD n 0 < o) := Lib.hid fun n hn => by
          by_cases e : n = j
          · rw [e, ← hX]; exact he
          · exact HJ.out n (by omega)
        have HMe : Hid (j + 1 ≤ N ∧ N - (j + 1) < N - j) := Lib.hid ⟨by omega, by omega⟩
        clear h hus hat hN hX he hc hj hlt
        go_wp2_with fail
        go_roundw
        case rel => exact ⟨j + 1, by simp, HMe.out.1, (by first | rfl | trivial), HJ2⟩
        case measure => simpa [intOf] using HMe.out.2
      · have e1 : decide ((X : Int) < (o : Int)) = false := decide_eq_false (by omega)
        have e2 : ¬ (X : Int) < (o : Int) := by omega
        have hsp := addN_split (o := o) (l := l) (i := j) (by omega) HJ.out (fun _ => by rw [← hX]; exact he)
        by_cases hx : X = o
        · have e3 : ((X : Int) == (o : Int)) = true := by rw [hx]; simp
          rw [if_pos ⟨by omega, by rw [← hX]; exact hx⟩] at hsp
          have HE := Lib.hid (show Us wr base (.slice (some ⟨g, q, none⟩) N c) (addN o l) by rw [hsp, hN]; exact h)
          clear h hus hat hN hX he hc hj hlt hx hsp
          go_wp2_with fail
          go_ret
          exact ⟨_, rfl, HE.out, Gr.refl _⟩
        · have e3 : ((X : Int) == (o : Int)) = false := by rw [beq_eq_false_iff_ne]; omega
          have hjc : j ≤ c := by omega
          have hjN : (j : Int) ≤ (N : Int) := by omega
          have hj0 : (0 : Int) ≤ (j : Int) := by omega
          have D1 := hus.take (i := j) (by omega)
          have D2 := hus.drop (i := j) (by omega)
          rw [← hN] at D2
          have hl1 : (l.take j).length = j := by rw [List.length_take]; omega
          have hl2 : (l.drop j).length = N - j := by rw [List.length_drop, hN]
          rw [if_neg (fun e => hx (by rw [hX]; exact e.2))] at hsp
          have HT := Lib.hid (And.intro D1 (And.intro D2 (And.intro hl1 (And.intro hl2 (And.intro hsp hb)))))
          clear h hus hat hN hX he hc hx hsp D1 D2 hl1 hl2
          go_upto_region 6 with fail
          go_region_law (first
            | (refine step_app_u (base := wr.heap.size) (v := v2) (vx := sliced (some ⟨g, q, none⟩) j N c 1) rfl _ _ rfl (by simp [Act.eval, Act.put]) G2.out.1 (by simp [Act.eval, Act.put, sliced, add_lit']) (HT.out.2.1.gr G2.out.2) (by have a1 := HT.out.2.2.1; have a2 := HT.out.2.2.2.1; simp only [List.length_append, List.length_cons, List.length_nil]; omega) G2.out.2.size (fun v3 W3 hv3 hg3 => ?_); have G3 := Lib.hid (And.intro hv3 (dgr_grown G2.out.2 hg3 (fun n hn => (G2.out.1.lt n hn).1))); clear hv3 hg3)
            | (refine step_app_u (base := wr.heap.size) (v := v1) (vx := .slice (some ⟨W1.heap.size, 0, none⟩) 1 1) rfl _ _ rfl (by simp [Act.eval, Act.put]) (G1.out.1.gr ((Gr.refl _).alloc (Nat.le_refl _) _)) (by simp [Act.eval, Act.put]) (USl.one W1 o TOw) (by have a1 := HT.out.2.2.1; simp only [List.length_append, List.length_cons, List.length_nil]; omega) (Nat.le_trans G1.out.2.size ((Gr.refl W1).alloc (Nat.le_refl _) _).size) (fun v2 W2 hv2 hg2 => ?_); have G2 := Lib.hid (And.intro hv2 (dgr_grown (Gr.trans G1.out.2 ((Gr.refl W1).alloc (Nat.le_refl _) _)) hg2 (fun n hn => (G1.out.1.lt n hn).1))); clear hv2 hg2)
            | (refine step_app_u (base := wr.heap.size) (v := v1) (vx := .slice (some ⟨wr.heap.size, 0, none⟩) 1 1) rfl _ _ rfl (by simp [Act.eval, Act.put]) G1.out.1 (by simp [Act.eval, Act.put]) (G1.out.2.2) (by have a1 := HT.out.2.2.1; simp only [List.length_append, List.length_cons, List.length_nil]; omega) G1.out.2.1.size (fun v2 W2 hv2 hg2 => ?_); have G2 := Lib.hid (And.intro hv2 (dgr_grown G1.out.2.1 hg2 (fun n hn => (G1.out.1.lt n hn).1))); clear hv2 hg2)
            | (refine step_app_u (base := wr.heap.size) (w := wr.drew) (v := .slice none 0 0) (vx := .slice (some ⟨g, q, none⟩) j c) rfl _ _ rfl (by simp [Act.eval, Act.put]) (Us.nil _ _) (by simp [Act.eval, Act.put]) (HT.out.1.gr (grD (Gr.refl _))) (by rw [HT.out.2.2.1]; simp; omega) (Nat.le_refl _) (fun v1 W1 hv1 hg1 => ?_); have G1 := Lib.hid (And.intro hv1 (dgr_grown (grD (Gr.refl _) : Gr wr wr.drew) hg1 (fun n hn => nomatch hn))); clear hv1 hg1)
            | (refine step_app_u (base := wr.heap.size) (v := .slice none 0 0) (vx := .slice (some ⟨g, q, none⟩) j c) rfl _ _ rfl (by simp [Act.eval, Act.put]) (Us.nil _ _) (by simp [Act.eval, Act.put]) (HT.out.1.gr ((grD (Gr.refl _) : Gr wr wr.drew).alloc (Nat.le_refl _) _)) (by rw [HT.out.2.2.1]; simp; omega) ((grD (Gr.refl _) : Gr wr wr.drew).alloc (Nat.le_refl _) _).size (fun v1 W1 hv1 hg1 => ?_); have G1 := Lib.hid (And.intro hv1 (And.intro (dgr_grown ((grD (Gr.refl _) : Gr wr wr.drew).alloc (Nat.le_refl _) _) hg1 (fun n hn => nomatch hn)) ((USl.one wr.drew o TOw).gr (dgr_grown (Gr.refl _) hg1 (fun n hn => nomatch hn))))); clear hv1 hg1))
          all_goals
            have HE := Lib.hid (show Us W3 base v3 (addN o l) by
              have := G3.out.1.base HT.out.2.2.2.2.2
              rw [HT.out.2.2.2.2.1]
              simpa using this)
            go_wp2_with fail
            all_goals go_ret
            all_goals exact ⟨_, rfl, HE.out, G3.out.2⟩
    · have g3 : ¬ (j : Int) < (N : Int) := by omega
      have e13 : decide ((j : Int) < (N : Int)) = false := decide_eq_false g3
      have hsp := addN_split (o := o) (l := l) (i := j) (by omega) HJ.out (fun h => by omega)
      rw [if_neg (fun e => by omega)] at hsp
      have hjc : j ≤ c := by omega
      have hjN : (j : Int) ≤ (N : Int) := by omega
      have hj0 : (0 : Int) ≤ (j : Int) := by omega
      have D1 := hus.take (i := j) (by omega)
      have D2 := hus.drop (i := j) (by omega)
      rw [← hN] at D2
      have hl1 : (l.take j).length = j := by rw [List.length_take]; omega
      have hl2 : (l.drop j).length = N - j := by rw [List.length_drop, hN]
      have HT := Lib.hid (And.intro D1 (And.intro D2 (And.intro hl1 (And.intro hl2 (And.intro hsp hb)))))
      clear h hus hat hN hsp D1 D2 hl1 hl2
      go_upto_region 6 with fail
      go_region_law (first
        | (refine step_app_u (base := wr.heap.size) (v := v2) (vx := sliced p j N c 1) rfl _ _ rfl (by simp [Act.eval, Act.put]) G2.out.1 (by simp [Act.eval, Act.put, sliced, add_lit']) (HT.out.2.1.gr G2.out.2) (by have a1 := HT.out.2.2.1; have a2 := HT.out.2.2.2.1; simp only [List.length_append, List.length_cons, List.length_nil]; omega) G2.out.2.size (fun v3 W3 hv3 hg3 => ?_); have G3 := Lib.hid (And.intro hv3 (dgr_grown G2.out.2 hg3 (fun n hn => (G2.out.1.lt n hn).1))); clear hv3 hg3)
        | (refine step_app_u (base := wr.heap.size) (v := v1) (vx := .slice (some ⟨W1.heap.size, 0, none⟩) 1 1) rfl _ _ rfl (by simp [Act.eval, Act.put]) (G1.out.1.gr ((Gr.refl _).alloc (Nat.le_refl _) _)) (by simp [Act.eval, Act.put]) (USl.one W1 o TOw) (by have a1 := HT.out.2.2.1; simp only [List.length_append, List.length_cons, List.length_nil]; omega) (Nat.le_trans G1.out.2.size ((Gr.refl W1).alloc (Nat.le_refl _) _).size) (fun v2 W2 hv2 hg2 => ?_); have G2 := Lib.hid (And.intro hv2 (dgr_grown (Gr.trans G1.out.2 ((Gr.refl W1).alloc (Nat.le_refl _) _)) hg2 (fun n hn => (G1.out.1.lt n hn).1))); clear hv2 hg2)
        | (refine step_app_u (base := wr.heap.size) (v := v1) (vx := .slice (some ⟨wr.heap.size, 0, none⟩) 1 1) rfl _ _ rfl (by simp [Act.eval, Act.put]) G1.out.1 (by simp [Act.eval, Act.put]) (G1.out.2.2) (by have a1 := HT.out.2.2.1; simp only [List.length_append, List.length_cons, List.length_nil]; omega) G1.out.2.1.size (fun v2 W2 hv2 hg2 => ?_); have G2 := Lib.hid (And.intro hv2 (dgr_grown G1.out.2.1 hg2 (fun n hn => (G1.out.1.lt n hn).1))); clear hv2 hg2)
        | (refine step_app_u (base := wr.heap.size) (w := wr.drew) (v := .slice none 0 0) (vx := .slice p j c) rfl _ _ rfl (by simp [Act.eval, Act.put]) (Us.nil _ _) (by simp [Act.eval, Act.put]) (HT.out.1.gr (grD (Gr.refl _))) (by rw [HT.out.2.2.1]; simp; omega) (Nat.le_refl _) (fun v1 W1 hv1 hg1 => ?_); have G1 := Lib.hid (And.intro hv1 (dgr_grown (grD (Gr.refl _) : Gr wr wr.drew) hg1 (fun n hn => nomatch hn))); clear hv1 hg1)
        | (refine step_app_u (base := wr.heap.size) (v := .slice none 0 0) (vx := .slice p j c) rfl _ _ rfl (by simp [Act.eval, Act.put]) (Us.nil _ _) (by simp [Act.eval, Act.put]) (HT.out.1.gr ((grD (Gr.refl _) : Gr wr wr.drew).alloc (Nat.le_refl _) _)) (by rw [HT.out.2.2.1]; simp; omega) ((grD (Gr.refl _) : Gr wr wr.drew).alloc (Nat.le_refl _) _).size (fun v1 W1 hv1 hg1 => ?_); have G1 := Lib.hid (And.intro hv1 (And.intro (dgr_grown ((grD (Gr.refl _) : Gr wr wr.drew).alloc (Nat.le_refl _) _) hg1 (fun n hn => nomatch hn)) ((USl.one wr.drew o TOw).gr (dgr_grown (Gr.refl _) hg1 (fun n hn => nomatch hn))))); clear hv1 hg1))
      all_goals
        have HE := Lib.hid (show Us W3 base v3 (addN o l) by
          have := G3.out.1.base HT.out.2.2.2.2.2
          rw [HT.out.2.2.2.2.1]
          simpa using this)
        go_wp2_with fail
        all_goals go_ret
        all_goals exact ⟨_, rfl, HE.out, G3.out.2⟩
end Go.Proofs.YtadopbpfnnpnaaaGreat

/-
  The document's less; insert: a key comes to a rising list.
-/
namespace Go.Proofs.YtadopbpfnnpnaaaGreat
open Go.RowKit Go.Maps

set_option maxRecDepth 100000 in
theorem dless_any (a b : Key) (w : World) : Calls Tryz.prog 50 #[.agg #[.int .i64 a.1, .int .i64 a.2], .agg #[.int .i64 b.1, .int .i64 b.2]] w fun e w' => e = .returned (.bool (lessK a b)) ∧ Gr w w' := by
  obtain ⟨a1, a2⟩ := a
  obtain ⟨b1, b2⟩ := b
  have g1 : Gr w ((w.alloc (.cells #[.int .i64 a1, .int .i64 a2] TKey)).alloc (.cells #[.int .i64 b1, .int .i64 b2] TKey)) := ((Gr.refl w).alloc (Nat.le_refl _) _).alloc (by simp) _
  have HG := Lib.hid g1
  clear g1
  by_cases h1 : a1 < b1
  · have e0 : lessK (a1, a2) (b1, b2) = true := lessK_iff.2 (.inl h1)
    have e1 : decide (a1 < b1) = true := decide_eq_true h1
    rw [e0]
    clear e0
    go_enter Tryz.func50, Tryz.ntmps50
    go_wp2_with fail
    go_ret
    exact ⟨rfl, HG.out⟩
  · have e1 : decide (a1 < b1) = false := decide_eq_false h1
    by_cases h2 : a1 = b1
    · subst h2
      by_cases h3 : a2 < b2
      · have e0 : lessK (a1, a2) (a1, b2) = true := lessK_iff.2 (.inr ⟨rfl, h3⟩)
        have e3 : decide (a2 < b2) = true := decide_eq_true h3
        rw [e0]
        clear e0
        go_enter Tryz.func50, Tryz.ntmps50
        go_wp2_with fail
        go_ret
        exact ⟨rfl, HG.out⟩
      · have e0 : lessK (a1, a2) (a1, b2) = false := by unfold lessK; simp [h3]
        have e3 : decide (a2 < b2) = false := decide_eq_false h3
        rw [e0]
        clear e0
        go_enter Tryz.func50, Tryz.ntmps50
        go_wp2_with fail
        go_ret
        exact ⟨rfl, HG.out⟩
    · have e0 : lessK (a1, a2) (b1, b2) = false := by unfold lessK; simp [h1, h2]
      have e2 : (a1 == b1) = false := by simpa using h2
      rw [e0]
      clear e0
      go_enter Tryz.func50, Tryz.ntmps50
      go_wp2_with fail
      go_ret
      exact ⟨rfl, HG.out⟩
theorem insK_split {k : Key} : ∀ {l : List Key} {i : Nat}, i ≤ l.length → (∀ n, n < i → lessK (l.getD n (0, 0)) k = true) → (i < l.length → lessK (l.getD i (0, 0)) k = false) → insK k l = if i < l.length ∧ l.getD i (0, 0) = k then l else l.take i ++ [k] ++ l.drop i
  | [], i, hi, _, _ => by
    have : i = 0 := by simpa using hi
    subst this
    rfl
  | a :: r, 0, _, _, h2 => by
    have h3 : lessK a k = false := h2 (by simp)
    unfold insK
    rw [if_neg (by simp [h3])]
    by_cases e : a = k
    · rw [if_pos e, if_pos ⟨by simp, e⟩]
    · rw [if_neg e, if_neg (fun h => e h.2)]
      rfl
  | a :: r, i + 1, hi, h1, h2 => by
    have h3 : lessK a k = true := h1 0 (by omega)
    unfold insK
    rw [if_pos h3, insK_split (i := i) (by simpa using hi) (fun n hn => h1 (n + 1) (by omega)) (fun h => h2 (by simpa using h))]
    by_cases e : i < r.length ∧ r.getD i (0, 0) = k
    · rw [if_pos e, if_pos ⟨by simpa using e.1, e.2⟩]
    · rw [if_neg e, if_neg (fun h => e ⟨by simpa using h.1, h.2⟩)]
      rfl
/-- Keys that a slice reads. -/
def KSl (w : World) (v : Value) (ks : List Key) : Prop :=
  ∃ p c, v = .slice p ks.length c ∧ ks.length ≤ c ∧ c ≤ maxLen ∧ (p = none → ks = [] ∧ c = 0) ∧ ∀ a, p = some a → ∃ g q, a = ⟨g, q, none⟩ ∧ ∀ i, i < ks.length → w.cell? ⟨g, q + i * 2, none⟩ = some (.int .i64 (ks.getD i (0, 0)).1) ∧ w.cell? ⟨g, q + i * 2 + 1, none⟩ = some (.int .i64 (ks.getD i (0, 0)).2)
theorem KSl.gr {w w' : World} {v : Value} {ks : List Key} (h : KSl w v ks) (g : Gr w w') : KSl w' v ks := by
  obtain ⟨p, c, h1, h2, h3, h4, h5⟩ := h
  refine ⟨p, c, h1, h2, h3, h4, fun a ha => ?_⟩
  obtain ⟨g', q, e, hc⟩ := h5 a ha
  exact ⟨g', q, e, fun i hi => ⟨(g.cell (blk_lt' (hc i hi).1)).trans (hc i hi).1, (g.cell (blk_lt' (hc i hi).2)).trans (hc i hi).2⟩⟩
theorem KSl.take {w : World} {p : Option Addr} {N c : Nat} {L : List Key} (h : KSl w (.slice p N c) L) {i : Nat} (hi : i ≤ N) : KSl w (.slice p i c) (L.take i) := by
  obtain ⟨p', c', e, h2, h3, h4, h5⟩ := h
  cases e
  have hl : (L.take i).length = i := by rw [List.length_take]; omega
  refine ⟨p, c, by rw [hl], by omega, h3, fun e => ?_, fun a ha => ?_⟩
  · obtain ⟨rfl, h6⟩ := h4 e
    exact ⟨by simp, h6⟩
  · obtain ⟨g, q, e, hc⟩ := h5 a ha
    refine ⟨g, q, e, fun n hn => ?_⟩
    have e2 : (L.take i).getD n (0, 0) = L.getD n (0, 0) := by simp [List.getD, List.getElem?_take, show n < i by omega]
    rw [e2]
    exact hc n (by omega)
theorem KSl.drop {w : World} {p : Option Addr} {N c : Nat} {L : List Key} (h : KSl w (.slice p N c) L) {i : Nat} (hi : i ≤ N) : KSl w (sliced p i N c 2) (L.drop i) := by
  obtain ⟨p', c', e, h2, h3, h4, h5⟩ := h
  cases e
  have hl : (L.drop i).length = L.length - i := List.length_drop
  unfold sliced
  refine ⟨_, _, by rw [hl], by omega, Nat.le_trans (by omega) h3, fun e => ?_, fun a ha => ?_⟩
  · split at e
    · obtain ⟨rfl, h6⟩ := h4 e
      exact ⟨by simp, by omega⟩
    · cases p with
      | none =>
        obtain ⟨rfl, h6⟩ := h4 rfl
        exact ⟨by simp, by omega⟩
      | some a => cases e
  · split at ha
    · rename_i hci
      obtain ⟨g, q, e, hc⟩ := h5 a ha
      exact ⟨g, q, e, fun n hn => by omega⟩
    · cases p with
      | none => cases ha
      | some a0 =>
        obtain ⟨g, q, rfl, hc⟩ := h5 a0 rfl
        cases ha
        refine ⟨g, q + i * 2, add_lit' _ _ _, fun n hn => ?_⟩
        have e2 : (L.drop i).getD n (0, 0) = L.getD (i + n) (0, 0) := by simp [List.getD]
        rw [e2, show q + i * 2 + n * 2 = q + (i + n) * 2 by omega]
        exact hc (i + n) (by omega)
theorem kcell : ∀ (ks : List Key) (i : Nat), i < ks.length → (ks.flatMap kcells)[i * 2]? = some (.int .i64 (ks.getD i (0, 0)).1) ∧ (ks.flatMap kcells)[i * 2 + 1]? = some (.int .i64 (ks.getD i (0, 0)).2)
  | [], i, h => by simp at h
  | a :: r, 0, _ => ⟨rfl, rfl⟩
  | a :: r, i + 1, h => by
    obtain ⟨h1, h2⟩ := kcell r i (by simpa using h)
    have e1 : (i + 1) * 2 = i * 2 + 2 := by omega
    rw [e1]
    exact ⟨h1, h2⟩
theorem Kr.ksl {w : World} {base : Nat} {v : Value} {L : List Key} (h : Kr w base v L) : KSl w v L := by
  rcases h.2 with ⟨rfl, h0⟩ | ⟨g, cap, cur, rfl, hb, hg, h1, h2, _⟩
  · have hL : L = [] := List.eq_nil_of_length_eq_zero h0
    subst hL
    exact ⟨none, 0, rfl, Nat.le_refl _, Nat.zero_le _, fun _ => ⟨rfl, rfl⟩, fun a e => by cases e⟩
  · refine ⟨_, cap, rfl, h1, h2, fun e => (by cases e), fun a e => ?_⟩
    cases e
    refine ⟨g, 0, rfl, fun i hi => ?_⟩
    obtain ⟨k1, k2⟩ := kcell L i hi
    have c1 := World.ownsRow.cells h (g := g) rfl _ _ k1
    have c2 := World.ownsRow.cells h (g := g) rfl _ _ k2
    rw [add_lit'] at c1 c2
    exact ⟨c1, by rw [Nat.add_assoc]; exact c2⟩
theorem run_app_k {w : World} {base : Nat} {v : Value} {L M : List Key} (hr : Kr w base v L) {vx : Value} (hy : KSl w vx M) (hk : L.length + M.length ≤ 1000000000) (hb : base ≤ w.heap.size) (ty : TypeId) :
    ∃ v' w', (Builtin.append_ #[74, 74] ty #[v, vx]).run Tryz.prog w = .ok v' w' ∧ Kr w' base v' (L ++ M) ∧ w.grownBy w' v.ownBlock := by
  obtain ⟨i, hi, hz, hsz, hbb⟩ := inf_parts key_info
  obtain ⟨p, c, rfl, h2, h3, h4, h5⟩ := hy
  cases p with
  | none =>
    obtain ⟨rfl, rfl⟩ := h4 rfl
    exact ⟨v, w, run_append_owned_none w base 74 ty TKey i 2 Tryz.underlying74 hi v _ _ hr, by simpa using hr, World.grownBy.refl _ _⟩
  | some a =>
    obtain ⟨g, q, rfl, h6⟩ := h5 a rfl
    obtain ⟨v', w', e1, e2, e3, -⟩ := run_append_own_at (P := Tryz.prog) w base 74 ty TKey i _ 2 16 Tryz.underlying74 hi hz hsz hbb rfl (by decide) v L.length _ hr ⟨g, q, none⟩ M.length c (M.flatMap kcells) (kcells_len M) (fun j u hj => by
      have hlt : j < M.length * 2 := by rw [← kcells_len]; exact (List.getElem?_eq_some_iff.1 hj).1
      obtain ⟨k1, k2⟩ := kcell M (j / 2) (by omega)
      obtain ⟨c1, c2⟩ := h6 (j / 2) (by omega)
      rw [add_lit']
      by_cases e : j % 2 = 0
      · have e2 : j / 2 * 2 = j := by omega
        rw [e2] at k1 c1
        rw [k1] at hj
        cases hj
        exact c1
      · have e2 : j / 2 * 2 + 1 = j := by omega
        have e3 : q + j / 2 * 2 + 1 = q + j := by omega
        rw [e2] at k2
        rw [e3] at c2
        rw [k2] at hj
        cases hj
        exact c2) (fun u hu => by
      obtain ⟨x, _, hx⟩ := List.mem_flatMap.1 hu
      simp [kcells] at hx
      rcases hx with rfl | rfl <;> rfl) (by simp only [maxLen]; omega) (by omega) hb
    refine ⟨v', w', e1, ?_, e3⟩
    unfold Kr
    rw [List.length_append, List.flatMap_append]
    exact e2
end Go.Proofs.YtadopbpfnnpnaaaGreat

