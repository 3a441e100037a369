/-
  Texts on locks, put together: LkInv4.
-/
import Derived.Test.YtadopbpfnnpnaaaGreatL17
set_option linter.unusedVariables false
set_option linter.unusedSimpArgs false
/-
  What is always right of a table of locks: as one stands in a line, and as one asks.
-/
namespace Go.Proofs.YtadopbpfnnpnaaaGreat
open Go.RowKit Go.Maps

/-- From a key one comes, by those who hold it and wait, to one of some keys. -/
inductive Tb.Leads (T : Tb) (ks : List Key) : Key → Prop
  | hit {k : Key} {q : Nat} : q ∈ (T.lkOf k).hs → (T.of q).mode ≠ 0 → (T.of q).key ∈ ks → Tb.Leads T ks k
  | via {k : Key} {q : Nat} : q ∈ (T.lkOf k).hs → (T.of q).mode ≠ 0 → Tb.Leads T ks (T.of q).key → Tb.Leads T ks k
theorem may_false {T : Tb} {o : Nat} {k : Key} {m : Int} (h : T.may o k m = false) : ∃ l, T.lk k = some l ∧ (l.fits o m = false ∨ k ∉ (T.of o).ks ∧ l.line ≠ []) := by
  unfold Tb.may at h
  cases e : T.lk k with
  | none => rw [e] at h; cases h
  | some l =>
    rw [e] at h
    refine ⟨l, rfl, ?_⟩
    cases hf : l.fits o m with
    | false => exact .inl rfl
    | true =>
      simp only [hf, Bool.true_and, Bool.or_eq_false_iff, decide_eq_false_iff_not] at h
      refine .inr ⟨h.1, fun e2 => h.2 ?_⟩
      rw [e2]
      rfl
section
variable {T : Tb} {o : Nat}
theorem made_oo_mem {X : Key → Prop} (h : InvX X T) (o q : Nat) : q ∈ (T.made o).oo ↔ q = o ∨ q ∈ T.oo := by
  unfold Tb.made
  cases e : T.py o with
  | none =>
    show q ∈ putK o T.oo ↔ _
    rw [mem_putK]
  | some p =>
    show q ∈ T.oo ↔ _
    constructor
    · exact .inr
    · rintro (rfl | e2)
      · rw [h.om, e]; rfl
      · exact e2
theorem made_oo_len (T : Tb) (o : Nat) : (T.made o).oo.length ≤ T.oo.length + 1 := by
  unfold Tb.made
  cases T.py o with
  | none => exact putK_len _ _
  | some p => exact Nat.le_succ _
theorem made_kk (T : Tb) (o : Nat) : (T.made o).kk = T.kk := by unfold Tb.made; cases T.py o <;> rfl
theorem made_py_other (T : Tb) {o q : Nat} (e : q ≠ o) : (T.made o).py q = T.py q := by
  unfold Tb.made
  cases T.py o with
  | none => exact updF_other _ _ e
  | some p => rfl
/-- One stands in a line. -/
theorem stand_inv (h : Inv T) {k : Key} {m : Int} (ho : KO.dom o) (hk : KL.dom k) (hw : (T.of o).mode = 0) (hm : m = 1 ∨ m = 2) (hmay : T.may o k m = false) (hR : k ∈ (T.of o).ks → ∀ x r, (T.lkOf k).line = x :: r → x.1 ∉ (T.lkOf k).hs) :
    Inv (T.stand o k m) ∧ (T.stand o k m).oo.length ≤ T.oo.length + 1 ∧ (T.stand o k m).kk = T.kk := by
  obtain ⟨l, hl, hmy⟩ := may_false hmay
  have hlo : T.lkOf k = l := lkOf_of hl
  rw [hlo] at hR
  have hin := h.lk k l hl
  have e0 : (T.stand o k m).lk k = some { l with line := lineIn (decide (k ∈ (T.of o).ks)) o m l.line } := by rw [stand_lk_same, hlo]
  have eo := stand_of_same T o k m
  have hks : ∀ q, ((T.stand o k m).of q).ks = (T.of q).ks := fun q => by
    by_cases e : q = o
    · subst e; rw [eo]
    · rw [stand_of_other _ _ _ e]
  have hnl : ∀ k' l' m', T.lk k' = some l' → (o, m') ∉ l'.line := fun k' l' m' hl' hi => by
    obtain ⟨-, h2, h3⟩ := (h.lk k' l' hl').lw o m' hi
    rw [hw] at h2
    omega
  have hne : ∀ k' l' q m', T.lk k' = some l' → (q, m') ∈ l'.line → q ≠ o := fun k' l' q m' hl' hi e => hnl k' l' m' hl' (e ▸ hi)
  refine ⟨⟨fun q k' hq => ?_, fun q => ?_, fun k' l' hl' => ?_, fun k' l' hl' _ => ?_, fun q hq => ?_, fun q hq => ?_, fun L hL hc => ?_, fun q => ?_, fun k' => ?_, ?_, ?_, fun q => by rw [hks]; exact h.pnd q, fun q hq => ?_, fun k' hk' => ?_⟩, made_oo_len T o, made_kk T o⟩
  · rw [hks] at hq
    obtain ⟨l', h1, h2⟩ := h.holds q k' hq
    by_cases ek : k' = k
    · subst ek
      rw [hl] at h1
      cases h1
      exact ⟨_, e0, h2⟩
    · exact ⟨l', by rw [stand_lk_other _ _ _ ek]; exact h1, h2⟩
  · by_cases e : q = o
    · subst e; rw [eo]; exact hk
    · rw [stand_of_other _ _ _ e]; exact h.key q
  · by_cases ek : k' = k
    · subst ek
      rw [e0] at hl'
      cases hl'
      refine ⟨hin.hnd, fun q hq => by rw [hks]; exact hin.hk q hq, hin.md, hin.one, ?_, fun q m' hq => ?_, fun x r hx y hy => ?_⟩
      · have hno : o ∉ l.line.map Prod.fst := fun e => by
          obtain ⟨⟨a, b⟩, h1, h2⟩ := List.mem_map.1 e
          have : a = o := h2
          subst this
          exact hnl k' l b hl h1
        show ((lineIn _ o m l.line).map Prod.fst).Nodup
        unfold lineIn
        split
        · exact List.nodup_cons.2 ⟨hno, hin.lnd⟩
        · rw [List.map_append, List.nodup_append]
          refine ⟨hin.lnd, by simp, fun a ha b hb e => ?_⟩
          simp at hb
          rw [← e] at hb
          exact hno (hb ▸ ha)
      · rcases mem_lineIn.1 hq with e | e
        · cases e
          rw [eo]
          exact ⟨rfl, rfl, hm⟩
        · rw [stand_of_other _ _ _ (hne k' l q m' hl e)]
          exact hin.lw q m' e
      · have hx' : lineIn (decide (k' ∈ (T.of o).ks)) o m l.line = x :: r := hx
        unfold lineIn at hx'
        by_cases hY : k' ∈ (T.of o).ks
        · rw [if_pos (by simpa using hY)] at hx'
          cases hx'
          cases e : l.line with
          | nil => rw [e] at hy; cases hy
          | cons z s =>
            rw [e] at hy
            rcases List.mem_cons.1 hy with e2 | e2
            · rw [e2]; exact hR hY z s e
            · exact hin.up z s e y e2
        · rw [if_neg (by simpa using hY)] at hx'
          cases e : l.line with
          | nil =>
            rw [e] at hx'
            cases hx'
            cases hy
          | cons z s =>
            rw [e] at hx'
            have hx2 : x = z ∧ r = s ++ [(o, m)] := by
              rw [List.cons_append] at hx'
              injection hx' with a b
              exact ⟨a.symm, b.symm⟩
            rw [hx2.2] at hy
            rcases List.mem_append.1 hy with e2 | e2
            · exact hin.up z s e y e2
            · simp at e2
              rw [e2]
              exact fun e3 => hY (hin.hk o e3)
    · rw [stand_lk_other _ _ _ ek] at hl'
      have := h.lk k' l' hl'
      exact ⟨this.hnd, fun q hq => by rw [hks]; exact this.hk q hq, this.md, this.one, this.lnd, fun q m' hq => by rw [stand_of_other _ _ _ (hne k' l' q m' hl' hq)]; exact this.lw q m' hq, this.up⟩
  · by_cases ek : k' = k
    · subst ek
      rw [e0] at hl'
      cases hl'
      obtain ⟨f1, f2⟩ := h.full k' l hl (fun e => e)
      refine ⟨f1, fun q m' r hr => ?_⟩
      have hr' : lineIn (decide (k' ∈ (T.of o).ks)) o m l.line = (q, m') :: r := hr
      show l.fits q m' = false
      unfold lineIn at hr'
      by_cases hY : k' ∈ (T.of o).ks
      · rw [if_pos (by simpa using hY)] at hr'
        cases hr'
        rcases hmy with e | ⟨e, _⟩
        · exact e
        · exact absurd hY e
      · rw [if_neg (by simpa using hY)] at hr'
        cases e : l.line with
        | nil =>
          rw [e] at hr'
          cases hr'
          rcases hmy with e2 | ⟨_, e2⟩
          · exact e2
          · exact absurd e e2
        | cons z s =>
          rw [e, List.cons_append] at hr'
          injection hr' with a b
          exact f2 q m' s (by rw [e, a])
    · rw [stand_lk_other _ _ _ ek] at hl'
      exact h.full k' l' hl' (fun e => e)
  · by_cases e : q = o
    · subst e
      rw [eo]
      exact ⟨_, e0, mem_lineIn.2 (.inl rfl)⟩
    · rw [stand_of_other _ _ _ e] at hq ⊢
      obtain ⟨l', h1, h2⟩ := h.wt q hq
      by_cases ek : (T.of q).key = k
      · rw [ek] at h1 ⊢
        rw [hl] at h1
        cases h1
        exact ⟨_, e0, mem_lineIn.2 (.inr h2)⟩
      · exact ⟨l', by rw [stand_lk_other _ _ _ ek]; exact h1, h2⟩
  · by_cases e : q = o
    · subst e
      rw [eo] at hq
      have : m = 0 := hq
      omega
    · rw [stand_of_other _ _ _ e] at hq ⊢
      exact h.w0 q hq
  · have hcz : ∀ q, q ≠ o → (T.stand o k m).cnt q = T.cnt q := fun q e => by unfold Tb.cnt; rw [stand_of_other _ _ _ e]
    have hco : (T.stand o k m).cnt o = T.cnt o + 1 := by
      unfold Tb.cnt Py.cnt
      rw [eo]
      show (T.of o).ks.length + (if m = 0 then 0 else 1) = (T.of o).ks.length + (if (T.of o).mode = 0 then 0 else 1) + 1
      rw [if_pos hw, if_neg (by omega)]
    have hoL : o ∈ L := hc o (by rw [hco]; omega)
    have hold := h.cnt L hL fun q hq => by
      by_cases e : q = o
      · rw [e]; exact hoL
      · exact hc q (by rw [hcz q e]; exact hq)
    have hs := sumN_turn (f := (T.stand o k m).cnt) (g := T.cnt) hcz hL hoL
    show T.many + 1 = _
    rw [hold]
    omega
  · show q ∈ (T.made o).oo ↔ (updF (T.made o).py o _ q).isSome = true
    rw [made_oo_mem h]
    by_cases e : q = o
    · rw [e, updF_same]; simp
    · rw [updF_other _ _ e, made_py_other T e, ← h.om]; simp [e]
  · show k' ∈ (T.made o).kk ↔ _
    rw [made_kk, h.km]
    by_cases ek : k' = k
    · subst ek
      rw [e0, hl]; rfl
    · rw [stand_lk_other _ _ _ ek]
  · show (T.made o).oo.Nodup
    unfold Tb.made
    cases T.py o with
    | none => exact nodup_putK h.ond
    | some p => exact h.ond
  · show (T.made o).kk.Nodup
    rw [made_kk]
    exact h.knd
  · rcases (made_oo_mem h o q).1 hq with e | e
    · rw [e]; exact ho
    · exact h.odm q e
  · have : k' ∈ (T.made o).kk := hk'
    rw [made_kk] at this
    exact h.kdm k' this
theorem made_give_oo (T : Tb) (o : Nat) (k : Key) (m : Int) : (T.give o k m).oo.length ≤ T.oo.length + 1 := ready_oo T o k
theorem made_give_kk (T : Tb) (o : Nat) (k : Key) (m : Int) : (T.give o k m).kk.length ≤ T.kk.length + 1 := ready_kk T o k
/-- One that may have it has it. -/
theorem give_ask_inv (h : Inv T) {k : Key} {m : Int} (ho : KO.dom o) (hk : KL.dom k) (hw : (T.of o).mode = 0) (hm : m = 1 ∨ m = 2) (hmay : T.may o k m = true) (hh : ¬ (T.hold o k = m ∨ T.hold o k = 2)) : Inv (T.give o k m) := by
  have hf : (T.lkOf k).fits o m = true := by
    unfold Tb.may at hmay
    cases e : T.lk k with
    | none => unfold Tb.lkOf; rw [e]; exact fits_none rfl
    | some l =>
      rw [e] at hmay
      simp only [Bool.and_eq_true] at hmay
      rw [lkOf_of e]
      exact hmay.1
  refine give_inv h ho hk hw hm hf fun _ o' m' r hr => ?_
  obtain ⟨l, el, eo⟩ := lk_some_of_line hr
  rw [eo] at hr hf
  have hin := h.lk k l el
  unfold Tb.may at hmay
  rw [el] at hmay
  simp only [Bool.and_eq_true, Bool.or_eq_true, decide_eq_true_eq] at hmay
  have hkk : k ∈ (T.of o).ks := by
    rcases hmay.2 with e | e
    · exact e
    · rw [hr] at e
      simp at e
      omega
  have hoh : o ∈ l.hs := by
    obtain ⟨l', h1, h2⟩ := h.holds o k hkk
    rw [el] at h1
    cases h1
    exact h2
  have hmode : T.hold o k = l.mode := by
    unfold Tb.hold
    rw [if_pos hkk, eo]
  rw [hmode] at hh
  have hm2 : m = 2 := by
    rcases hm with e | e
    · have := hin.md (fun e2 => by rw [e2] at hoh; cases hoh)
      omega
    · exact e
  have hall : ∀ q, q ∈ l.hs → q = o := by
    rcases h.fit_one hm (by rw [eo]; exact hf) (by rw [eo]; exact hin.hnd) with h1 | h1
    · rw [eo] at h1; exact h1
    · omega
  have ho' : o' ≠ o := fun e => by
    obtain ⟨-, h2, h3⟩ := hin.lw o' m' (by rw [hr]; simp)
    rw [e, hw] at h2
    omega
  have hput : putK o l.hs = l.hs := putK_old hoh
  rw [eo]
  unfold Lk.fits tog
  show (decide (((putK o l.hs).length : Int) - (if o' ∈ putK o l.hs then 1 else 0) = 0) || (decide (m' = 1) && decide (m = 1))) = false
  rw [hput]
  have hno : o' ∉ l.hs := fun e => ho' (hall o' e)
  have hlen : 0 < l.hs.length := List.length_pos_of_mem hoh
  rw [if_neg hno, hm2]
  simp
  intro e
  rw [e] at hlen
  exact absurd hlen (by simp)
/-- One asks. -/
theorem ask_inv (h : Inv T) {k : Key} {m : Int} {R : Bool} (ho : KO.dom o) (hk : KL.dom k) (hR : T.may o k m = false → R = false → ¬ T.Leads (T.of o).ks k) :
    Inv (T.ask o k m R).2 ∧ (T.ask o k m R).2.oo.length ≤ T.oo.length + 1 ∧ (T.ask o k m R).2.kk.length ≤ T.kk.length + 1 := by
  unfold Tb.ask
  split
  · exact ⟨h, Nat.le_succ _, Nat.le_succ _⟩
  rename_i hm
  split
  · exact ⟨h, Nat.le_succ _, Nat.le_succ _⟩
  split
  · exact ⟨h, Nat.le_succ _, Nat.le_succ _⟩
  rename_i hw
  split
  · exact ⟨h, Nat.le_succ _, Nat.le_succ _⟩
  rename_i hh
  split
  · exact ⟨h, Nat.le_succ _, Nat.le_succ _⟩
  have hm' : m = 1 ∨ m = 2 := Decidable.byContradiction fun e => hm e
  have hw' : (T.of o).mode = 0 := Decidable.byContradiction fun e => hw e
  split
  · rename_i hmay
    exact ⟨give_ask_inv h ho hk hw' hm' hmay hh, made_give_oo T o k m, made_give_kk T o k m⟩
  rename_i hmay
  split
  · exact ⟨h, Nat.le_succ _, Nat.le_succ _⟩
  rename_i hr
  have hmay' : T.may o k m = false := by simpa using hmay
  have hr' : R = false := by simpa using hr
  obtain ⟨a, b, c⟩ := stand_inv h ho hk hw' hm' hmay' fun hkk x r hl hx => hR hmay' hr' (by
    obtain ⟨l, el, eo⟩ := lk_some_of_line hl
    rw [eo] at hl hx
    obtain ⟨w1, w2, w3⟩ := (h.lk k l el).lw x.1 x.2 (by rw [hl]; simp)
    exact Tb.Leads.hit (q := x.1) (by rw [eo]; exact hx) (by omega) (by rw [w1]; exact hkk))
  exact ⟨a, b, by rw [c]; exact Nat.le_succ _⟩
end
end Go.Proofs.YtadopbpfnnpnaaaGreat

