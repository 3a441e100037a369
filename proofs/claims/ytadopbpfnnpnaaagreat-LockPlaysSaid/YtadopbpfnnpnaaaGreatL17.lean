/-
  Texts on locks, put together: LkInv2 LkInv3.
-/
import Derived.Test.YtadopbpfnnpnaaaGreatL16
set_option linter.unusedVariables false
set_option linter.unusedSimpArgs false
/-
  What is always right of a table of locks: as the first of a line comes to it, and as a key is gone through.
-/
namespace Go.Proofs.YtadopbpfnnpnaaaGreat
open Go.RowKit Go.Maps

section
variable {X : Key → Prop} {T : Tb}
theorem pop_of_same (T : Tb) (k : Key) (o : Nat) (r : List (Nat × Int)) : (T.pop k o r).of o = { T.of o with key := (0, 0), mode := 0 } := by
  show (updF T.py o (some { T.of o with key := (0, 0), mode := 0 }) o).getD Py.zero = _
  rw [updF_same]
  rfl
theorem pop_of_other (T : Tb) (k : Key) {o o' : Nat} (r : List (Nat × Int)) (h : o' ≠ o) : (T.pop k o r).of o' = T.of o' := by
  show (updF T.py o (some { T.of o with key := (0, 0), mode := 0 }) o').getD Py.zero = _
  rw [updF_other _ _ h]
  rfl
theorem pop_lk_other (T : Tb) {k k' : Key} (o : Nat) (r : List (Nat × Int)) (h : k' ≠ k) : (T.pop k o r).lk k' = T.lk k' := updF_other _ _ h
theorem dom0 : KL.dom ((0 : Int), (0 : Int)) := ⟨⟨by decide, by decide⟩, ⟨by decide, by decide⟩⟩
theorem lk_some_of_line {T : Tb} {k : Key} {x : Nat × Int} {r : List (Nat × Int)} (hl : (T.lkOf k).line = x :: r) : ∃ l, T.lk k = some l ∧ T.lkOf k = l := by
  cases e : T.lk k with
  | none => unfold Tb.lkOf at hl; rw [e] at hl; cases hl
  | some l => exact ⟨l, rfl, lkOf_of e⟩
/-- The first one of a line goes out of it. -/
theorem pop_inv (h : InvX X T) {k : Key} {o : Nat} {m : Int} {r : List (Nat × Int)} (hx : X k) (hl : (T.lkOf k).line = (o, m) :: r) : InvX X (T.pop k o r) := by
  obtain ⟨l, el, eo⟩ := lk_some_of_line hl
  rw [eo] at hl
  have e0 : (T.pop k o r).lk k = some { l with line := r, pop := true } := by rw [pop_lk, eo]
  have hin := h.lk k l el
  obtain ⟨w1, w2, w3⟩ := hin.lw o m (by rw [hl]; simp)
  have hnd : o ∉ r.map Prod.fst ∧ (r.map Prod.fst).Nodup := by
    have := hin.lnd
    rw [hl] at this
    exact List.nodup_cons.1 this
  have hks := pop_of_ks T k o r
  have hother : ∀ q m', (q, m') ∈ r → q ≠ o := fun q m' hq e => hnd.1 (List.mem_map.2 ⟨(q, m'), hq, e⟩)
  have hpy : (T.py o).isSome = true := by
    cases e : T.py o with
    | none =>
      rw [py_none e] at w2
      have : (0 : Int) = m := w2
      omega
    | some p => rfl
  refine ⟨fun q k' hq => ?_, fun q => ?_, fun k' l' hl' => ?_, fun k' l' hl' hn => ?_, fun q hq => ?_, fun q hq => ?_, fun L hL hc => ?_, fun q => ?_, fun k' => ?_, h.ond, h.knd, fun q => by rw [hks]; exact h.pnd q, h.odm, h.kdm⟩
  · rw [hks] at hq
    obtain ⟨l', h1, h2⟩ := h.holds q k' hq
    by_cases ek : k' = k
    · subst ek
      rw [el] at h1
      cases h1
      exact ⟨_, e0, h2⟩
    · exact ⟨l', by rw [pop_lk_other _ _ _ ek]; exact h1, h2⟩
  · by_cases e : q = o
    · subst e
      rw [pop_of_same]
      exact dom0
    · rw [pop_of_other _ _ _ e]
      exact h.key q
  · by_cases ek : k' = k
    · subst ek
      rw [e0] at hl'
      cases hl'
      refine ⟨hin.hnd, fun q hq => by rw [hks]; exact hin.hk q hq, hin.md, hin.one, hnd.2, fun q m' hq => ?_, fun x r' hr y hy => ?_⟩
      · have hq' : (q, m') ∈ r := hq
        rw [pop_of_other _ _ _ (hother q m' hq')]
        exact hin.lw q m' (by rw [hl]; simp [hq'])
      · have hr' : r = x :: r' := hr
        exact hin.up (o, m) r hl y (by rw [hr']; simp [hy])
    · rw [pop_lk_other _ _ _ ek] at hl'
      have := h.lk k' l' hl'
      refine ⟨this.hnd, fun q hq => by rw [hks]; exact this.hk q hq, this.md, this.one, this.lnd, fun q m' hq => ?_, this.up⟩
      have hne : q ≠ o := fun e => by
        have := (this.lw q m' hq).1
        rw [e, w1] at this
        exact ek this.symm
      rw [pop_of_other _ _ _ hne]
      exact this.lw q m' hq
  · have ek : k' ≠ k := fun e => hn (e ▸ hx)
    rw [pop_lk_other _ _ _ ek] at hl'
    exact h.full k' l' hl' hn
  · have hne : q ≠ o := fun e => by
      rw [e, pop_of_same] at hq
      exact hq rfl
    rw [pop_of_other _ _ _ hne] at hq ⊢
    obtain ⟨l', h1, h2⟩ := h.wt q hq
    by_cases ek : (T.of q).key = k
    · rw [ek] at h1 ⊢
      rw [el] at h1
      cases h1
      refine ⟨_, e0, ?_⟩
      rw [hl] at h2
      rcases List.mem_cons.1 h2 with e | e
      · exact absurd (congrArg Prod.fst e) hne
      · exact e
    · exact ⟨l', by rw [pop_lk_other _ _ _ ek]; exact h1, h2⟩
  · by_cases e : q = o
    · subst e
      rw [pop_of_same]
    · rw [pop_of_other _ _ _ e] at hq ⊢
      exact h.w0 q hq
  · have hcz : ∀ q, q ≠ o → (T.pop k o r).cnt q = T.cnt q := fun q e => by unfold Tb.cnt; rw [pop_of_other _ _ _ e]
    have hco : T.cnt o = (T.pop k o r).cnt o + 1 := by
      unfold Tb.cnt Py.cnt
      rw [pop_of_same]
      show _ = (T.of o).ks.length + (if (0 : Int) = 0 then 0 else 1) + 1
      rw [if_pos rfl, w2, if_neg (by omega)]
    by_cases hoL : o ∈ L
    · have hold := h.cnt L hL fun q hq => by
        by_cases e : q = o
        · rw [e]; exact hoL
        · exact hc q (by rw [hcz q e]; exact hq)
      have hs := sumN_turn (f := (T.pop k o r).cnt) (g := T.cnt) hcz hL hoL
      show T.many - 1 = _
      rw [hold]
      have : sumN T.cnt L = sumN (T.pop k o r).cnt L + 1 := by omega
      rw [this]
      simp
    · have hold := h.cnt (o :: L) (List.nodup_cons.2 ⟨hoL, hL⟩) fun q hq => by
        by_cases e : q = o
        · rw [e]; simp
        · have := hc q (by rw [hcz q e]; exact hq)
          simp [this]
      have hz : (T.pop k o r).cnt o = 0 := by
        by_cases e : (T.pop k o r).cnt o = 0
        · exact e
        · exact absurd (hc o e) hoL
      show T.many - 1 = _
      rw [hold]
      have h2 : sumN (T.pop k o r).cnt L = sumN T.cnt L := sumN_same fun q hq => hcz q fun e => hoL (e ▸ hq)
      have h3 : sumN T.cnt (o :: L) = T.cnt o + sumN T.cnt L := rfl
      rw [h3, h2, hco, hz]
      simp
      omega
  · show q ∈ T.oo ↔ (updF T.py o _ q).isSome = true
    by_cases e : q = o
    · rw [e, updF_same, h.om, hpy]
      rfl
    · rw [updF_other _ _ e]
      exact h.om q
  · show k' ∈ T.kk ↔ _
    by_cases ek : k' = k
    · rw [ek, e0, h.km, el]
      rfl
    · rw [pop_lk_other _ _ _ ek]
      exact h.km k'
theorem give_oo {T : Tb} {o : Nat} (k : Key) (m : Int) (h : (T.py o).isSome = true) : (T.give o k m).oo = T.oo := by
  have e1 : (T.give o k m).oo = (T.made o).oo := by
    show ((T.made o).locked k).oo = _
    unfold Tb.locked
    cases (T.made o).lk k <;> rfl
  rw [e1]
  unfold Tb.made
  cases e : T.py o with
  | none => rw [e] at h; cases h
  | some p => rfl
theorem give_kk {T : Tb} (o : Nat) {k : Key} (m : Int) (h : (T.lk k).isSome = true) : (T.give o k m).kk = T.kk := by
  show ((T.made o).locked k).kk = _
  have h5 : (T.made o).kk = T.kk := by unfold Tb.made; cases T.py o <;> rfl
  unfold Tb.locked
  rw [made_lk]
  cases e : T.lk k with
  | none => rw [e] at h; cases h
  | some l => exact h5
/-- One step of going through a line. -/
theorem step_inv (h : InvX X T) {k : Key} {o : Nat} {m : Int} {r : List (Nat × Int)} (hx : X k) (hk : KL.dom k) (hl : (T.lkOf k).line = (o, m) :: r) (hf : (T.lkOf k).fits o m = true) :
    InvX X ((T.pop k o r).give o k m) ∧ ((T.pop k o r).give o k m).oo = T.oo ∧ ((T.pop k o r).give o k m).kk = T.kk ∧ (((T.pop k o r).give o k m).lkOf k).line = r ∧ (((T.pop k o r).give o k m).lk k).isSome = true := by
  obtain ⟨l, el, eo⟩ := lk_some_of_line hl
  have h1 := pop_inv h hx hl
  have e0 := pop_lk T k o r
  have e1 : (T.pop k o r).lkOf k = { T.lkOf k with line := r, pop := true } := lkOf_of e0
  have hoo := h.line_oo el (o := o) (m := m) (by rw [← eo, hl]; simp)
  obtain ⟨w1, w2, w3⟩ := (h.lk k l el).lw o m (by rw [← eo, hl]; simp)
  have hpy : ((T.pop k o r).py o).isSome = true := by
    show (updF T.py o _ o).isSome = true
    rw [updF_same]
    rfl
  have hf1 : ((T.pop k o r).lkOf k).fits o m = true := by rw [e1]; exact hf
  refine ⟨give_inv h1 (h.odm o hoo) hk (by rw [pop_of_same]) w3 hf1 (fun hn => absurd hx hn), by rw [give_oo k m hpy]; rfl, by rw [give_kk o m (by rw [e0]; rfl)]; rfl, ?_, ?_⟩
  · rw [lkOf_of (give_lkOf _ _ _ _), e1]
  · rw [give_lkOf]; rfl
/-- A line is gone through. -/
theorem nextN_inv {k : Key} (hx : X k) (hk : KL.dom k) : ∀ (n : Nat) (T : Tb) (c : List Nat), InvX X T → (T.lk k).isSome = true →
    InvX X (Tb.nextN n T k c).2 ∧ (Tb.nextN n T k c).2.oo = T.oo ∧ (Tb.nextN n T k c).2.kk = T.kk ∧ ((Tb.nextN n T k c).2.lk k).isSome = true ∧ ((T.lkOf k).line.length ≤ n → Stuck ((Tb.nextN n T k c).2.lkOf k))
  | 0, T, c, h, hs => ⟨h, rfl, rfl, hs, fun hn o m r hl => by
    have e : (T.lkOf k).line = (o, m) :: r := hl
    rw [e] at hn
    simp at hn⟩
  | n + 1, T, c, h, hs => by
    cases hl : (T.lkOf k).line with
    | nil =>
      rw [nextN_nil hl]
      exact ⟨h, rfl, rfl, hs, fun _ o m r e => by rw [hl] at e; cases e⟩
    | cons om r =>
      obtain ⟨o, m⟩ := om
      cases hf : (T.lkOf k).fits o m with
      | false =>
        rw [nextN_no hl hf]
        refine ⟨h, rfl, rfl, hs, fun _ o' m' r' e => ?_⟩
        have e2 : (T.lkOf k).line = (o', m') :: r' := e
        rw [hl] at e2
        cases e2
        exact hf
      | true =>
        rw [nextN_yes hl hf]
        obtain ⟨a1, a2, a3, a4, a5⟩ := step_inv h hx hk hl hf
        obtain ⟨b1, b2, b3, b4, b5⟩ := nextN_inv hx hk n ((T.pop k o r).give o k m) (c ++ [o]) a1 a5
        exact ⟨b1, b2.trans a2, b3.trans a3, b4, fun hn => b5 (by rw [a4]; simp at hn; exact hn)⟩
/-- What next_any asks of the way. -/
theorem InvX.good (h : InvX X T) {k : Key} (hs : (T.lk k).isSome = true) (ho : T.oo.length ≤ 10000) (hk : T.kk.length ≤ 10000) : T.Good k := by
  have hm := h.many
  have h1 : T.oo.length * (T.kk.length + 1) ≤ 10000 * 10001 := Nat.mul_le_mul ho (by omega)
  have h2 := h.lkOf_hs k
  have h3 := h.lkOf_line k
  refine ⟨by omega, by omega, by omega, by omega, by omega, by omega, fun o m r hl => ?_⟩
  obtain ⟨l, el, eo⟩ := lk_some_of_line hl
  have hoo := h.line_oo el (o := o) (m := m) (by rw [← eo, hl]; simp)
  exact ⟨h.odm o hoo, (h.om o).1 hoo, Nat.le_trans (h.ks_le o) (by omega)⟩
theorem nextN_good (h : InvX X T) {k : Key} (hx : X k) (hk : KL.dom k) (hs : (T.lk k).isSome = true) (ho : T.oo.length ≤ 10000) (hkk : T.kk.length ≤ 10000) (n : Nat) (c : List Nat) : (Tb.nextN n T k c).2.Good k := by
  obtain ⟨a1, a2, a3, a4, -⟩ := nextN_inv hx hk n T c h hs
  exact a1.good a4 (by rw [a2]; exact ho) (by rw [a3]; exact hkk)
theorem fits_none {l : Lk} {o : Nat} {m : Int} (h : l.hs = []) : l.fits o m = true := by
  unfold Lk.fits
  rw [h]
  simp
/-- A key is gone through. -/
theorem nextT_inv (h : InvX X T) {k : Key} (hx : X k) (hk : KL.dom k) (hs : (T.lk k).isSome = true) : InvX (fun k' => X k' ∧ k' ≠ k) (T.nextT k) ∧ (T.nextT k).oo = T.oo ∧ (T.nextT k).kk.length ≤ T.kk.length := by
  obtain ⟨a1, a2, a3, a4, a5⟩ := nextN_inv hx hk (T.lkOf k).line.length T [] h hs
  have a6 := a5 (Nat.le_refl _)
  unfold Tb.nextT
  obtain ⟨T0, hT0⟩ : ∃ T0, T0 = T.nextT0 k := ⟨_, rfl⟩
  have hT1 : T0 = (Tb.nextN (T.lkOf k).line.length T k []).2 := hT0
  rw [← hT1] at a1 a2 a3 a4 a6
  rw [← hT0]
  obtain ⟨l, hl⟩ := Option.isSome_iff_exists.1 a4
  rw [lkOf_of hl] at a6 ⊢
  split
  · rename_i h0
    have hline : l.line = [] := by
      cases e : l.line with
      | nil => rfl
      | cons x r =>
        obtain ⟨o, m⟩ := x
        have := a6 o m r e
        rw [fits_none h0] at this
        cases this
    have e1 : ∀ k', k' ≠ k → updF T0.lk k none k' = T0.lk k' := fun k' hh => updF_other _ _ hh
    have e2 : ∀ k' l', updF T0.lk k none k' = some l' → k' ≠ k ∧ T0.lk k' = some l' := fun k' l' hh => by
      by_cases ek : k' = k
      · subst ek
        rw [updF_same] at hh
        cases hh
      · exact ⟨ek, (e1 k' ek).symm.trans hh⟩
    refine ⟨⟨fun q k' hq => ?_, a1.key, fun k' l' hh => ?_, fun k' l' hh hn => ?_, fun q hq => ?_, a1.w0, a1.cnt, a1.om, fun k' => ?_, a1.ond, nodup_delK a1.knd, a1.pnd, a1.odm, fun k' hk' => a1.kdm k' (mem_delK.1 hk').1⟩, a2, Nat.le_trans (delK_len _ _) (by rw [a3]; exact Nat.le_refl _)⟩
    · obtain ⟨l', h1, h2⟩ := a1.holds q k' hq
      by_cases ek : k' = k
      · subst ek
        rw [hl] at h1
        cases h1
        rw [h0] at h2
        cases h2
      · exact ⟨l', (e1 k' ek).trans h1, h2⟩
    · have := a1.lk k' l' (e2 k' l' hh).2
      exact ⟨this.hnd, this.hk, this.md, this.one, this.lnd, this.lw, this.up⟩
    · exact a1.full k' l' (e2 k' l' hh).2 fun hX => hn ⟨hX, (e2 k' l' hh).1⟩
    · obtain ⟨l', h1, h2⟩ := a1.wt q hq
      by_cases ek : (T0.of q).key = k
      · rw [ek, hl] at h1
        cases h1
        rw [hline] at h2
        cases h2
      · exact ⟨l', (e1 _ ek).trans h1, h2⟩
    · show k' ∈ delK k T0.kk ↔ (updF T0.lk k none k').isSome = true
      rw [mem_delK, a1.km]
      by_cases ek : k' = k
      · rw [ek, updF_same]
        simp
      · rw [e1 k' ek]
        simp [ek]
  · rename_i h0
    refine ⟨⟨a1.holds, a1.key, a1.lk, fun k' l' hh hn => ?_, a1.wt, a1.w0, a1.cnt, a1.om, a1.km, a1.ond, a1.knd, a1.pnd, a1.odm, a1.kdm⟩, a2, by rw [a3]; exact Nat.le_refl _⟩
    by_cases ek : k' = k
    · subst ek
      rw [hl] at hh
      cases hh
      exact ⟨h0, a6⟩
    · exact a1.full k' l' hh fun hX => hn ⟨hX, ek⟩
end
end Go.Proofs.YtadopbpfnnpnaaaGreat

/-
  What is always right of a table of locks: as an owner leaves, and as one stands in a line.
-/
namespace Go.Proofs.YtadopbpfnnpnaaaGreat
open Go.RowKit Go.Maps

/-- A line without an owner. -/
def offLine (o : Nat) (ws : List (Nat × Int)) : List (Nat × Int) := ws.filter fun x => decide (x.1 ≠ o)
/-- What an owner leaves. -/
def Tb.lv (T : Tb) (o : Nat) : Tb :=
  if (T.of o).mode = 0 then T.left o else
    { T.left o with many := (T.left o).many - 1, lk := updF (T.left o).lk (T.of o).key (((T.left o).lk (T.of o).key).map fun l => { l with line := offLine o l.line }) }
/-- The keys that are gone through then. -/
def Tb.fks (T : Tb) (o : Nat) : List Key := if (T.of o).mode = 0 then sortK (T.of o).ks else sortK (putK (T.of o).key (T.of o).ks)
def Lk.off (l : Lk) (o : Nat) : Lk := { l with hs := delK o l.hs, line := offLine o l.line }
theorem delK_no {α : Type} [DecidableEq α] {a : α} {ks : List α} (h : a ∉ ks) : delK a ks = ks := by
  unfold delK
  rw [List.filter_eq_self]
  intro b hb
  simp
  intro e
  exact h (e ▸ hb)
theorem offLine_no {o : Nat} {ws : List (Nat × Int)} (h : ∀ m, (o, m) ∉ ws) : offLine o ws = ws := by
  unfold offLine
  rw [List.filter_eq_self]
  rintro ⟨a, b⟩ hb
  simp
  intro e
  exact h b (e ▸ hb)
theorem mem_offLine {o : Nat} {ws : List (Nat × Int)} {x : Nat × Int} : x ∈ offLine o ws ↔ x ∈ ws ∧ x.1 ≠ o := by
  unfold offLine
  rw [List.mem_filter]
  simp
section
variable {T : Tb} {o : Nat}
theorem mem_fks (T : Tb) (o : Nat) (k : Key) : k ∈ T.fks o ↔ k ∈ (T.of o).ks ∨ ((T.of o).mode ≠ 0 ∧ k = (T.of o).key) := by
  unfold Tb.fks
  split
  · rename_i h
    rw [(sortK_perm _).mem_iff]
    simp [h]
  · rename_i h
    rw [(sortK_perm _).mem_iff, mem_putK]
    constructor
    · rintro (e | e)
      · exact .inr ⟨h, e⟩
      · exact .inl e
    · rintro (e | ⟨_, e⟩)
      · exact .inr e
      · exact .inl e
theorem Inv.not_hs (h : Inv T) {k : Key} {l : Lk} (hl : T.lk k = some l) (hk : k ∉ (T.of o).ks) : o ∉ l.hs := fun e => hk ((h.lk k l hl).hk o e)
theorem Inv.not_line (h : Inv T) {k : Key} {l : Lk} (hl : T.lk k = some l) (hk : ¬ ((T.of o).mode ≠ 0 ∧ k = (T.of o).key)) (m : Int) : (o, m) ∉ l.line := fun e => by
  obtain ⟨h1, h2, h3⟩ := (h.lk k l hl).lw o m e
  exact hk ⟨by omega, h1.symm⟩
theorem lv_lk (h : Inv T) (o : Nat) (k : Key) : (T.lv o).lk k = (T.lk k).map fun l => l.off o := by
  have hlk : (T.left o).lk k = (T.lk k).map fun l => { l with hs := delK o l.hs } := by
    show (if k ∈ sortK (T.of o).ks then (T.lk k).map fun l => { l with hs := delK o l.hs } else T.lk k) = _
    split
    · rfl
    · rename_i hk
      rw [(sortK_perm _).mem_iff] at hk
      cases e : T.lk k with
      | none => rfl
      | some l =>
        show some l = some { l with hs := delK o l.hs }
        rw [delK_no (Inv.not_hs h e hk)]
  unfold Tb.lv
  split
  · rename_i hm
    rw [hlk]
    cases e : T.lk k with
    | none => rfl
    | some l =>
      show some _ = some (l.off o)
      unfold Lk.off
      rw [offLine_no (Inv.not_line h e (by simp [hm]))]
  · rename_i hm
    show updF (T.left o).lk (T.of o).key _ k = _
    by_cases ek : k = (T.of o).key
    · rw [← ek, updF_same, hlk]
      cases e : T.lk k with
      | none => rfl
      | some l => rfl
    · rw [updF_other _ _ ek, hlk]
      cases e : T.lk k with
      | none => rfl
      | some l =>
        show some _ = some (l.off o)
        unfold Lk.off
        rw [offLine_no (Inv.not_line h e (by simp [ek]))]
theorem lv_py (T : Tb) (o : Nat) : (T.lv o).py = updF T.py o none := by
  unfold Tb.lv
  split <;> rfl
theorem lv_of_same (T : Tb) (o : Nat) : (T.lv o).of o = Py.zero := by
  unfold Tb.of
  rw [lv_py, updF_same]
  rfl
theorem lv_of_other (T : Tb) (o : Nat) {q : Nat} (e : q ≠ o) : (T.lv o).of q = T.of q := by
  unfold Tb.of
  rw [lv_py, updF_other _ _ e]
theorem lv_many (T : Tb) (o : Nat) : (T.lv o).many = T.many - (T.cnt o : Int) := by
  unfold Tb.lv Tb.cnt Py.cnt
  split
  · show T.many - ((T.of o).ks.length : Int) = _
    simp
  · show T.many - ((T.of o).ks.length : Int) - 1 = _
    simp
    omega
theorem lv_oo (T : Tb) (o : Nat) : (T.lv o).oo = delK o T.oo := by
  unfold Tb.lv
  split <;> rfl
theorem lv_kk (T : Tb) (o : Nat) : (T.lv o).kk = T.kk := by
  unfold Tb.lv
  split <;> rfl
/-- An owner leaves. -/
theorem lv_inv (h : Inv T) (o : Nat) : InvX (fun k => k ∈ T.fks o) (T.lv o) := by
  have hlk := lv_lk h o
  have hsome : ∀ k l, (T.lv o).lk k = some l → ∃ l0, T.lk k = some l0 ∧ l = l0.off o := fun k l hl => by
    rw [hlk] at hl
    cases e : T.lk k with
    | none => rw [e] at hl; cases hl
    | some l0 => rw [e] at hl; cases hl; exact ⟨l0, rfl, rfl⟩
  refine ⟨fun q k hq => ?_, fun q => ?_, fun k l hl => ?_, fun k l hl hn => ?_, fun q hq => ?_, fun q hq => ?_, fun L hL hc => ?_, fun q => ?_, fun k => ?_, ?_, ?_, fun q => ?_, fun q hq => ?_, fun k hk => ?_⟩
  · by_cases e : q = o
    · subst e
      rw [lv_of_same] at hq
      cases hq
    · rw [lv_of_other _ _ e] at hq
      obtain ⟨l, h1, h2⟩ := h.holds q k hq
      exact ⟨l.off o, by rw [hlk, h1]; rfl, mem_delK.2 ⟨h2, e⟩⟩
  · by_cases e : q = o
    · subst e
      rw [lv_of_same]
      exact dom0
    · rw [lv_of_other _ _ e]
      exact h.key q
  · obtain ⟨l0, h1, rfl⟩ := hsome k l hl
    have hi := h.lk k l0 h1
    refine ⟨nodup_delK hi.hnd, fun q hq => ?_, fun e => hi.md fun e2 => e ?_, fun e => Nat.le_trans (delK_len _ _) (hi.one e), ?_, fun q m hq => ?_, fun x r hr y hy hin => ?_⟩
    · obtain ⟨a, b⟩ := mem_delK.1 hq
      rw [lv_of_other _ _ b]
      exact hi.hk q a
    · show delK o l0.hs = []
      rw [e2]
      rfl
    · exact List.Sublist.nodup (List.Sublist.map _ List.filter_sublist) hi.lnd
    · obtain ⟨a, b⟩ := mem_offLine.1 hq
      rw [lv_of_other _ _ b]
      exact hi.lw q m a
    · have hr' : offLine o l0.line = x :: r := hr
      have hin' := (mem_delK.1 hin).1
      cases e : l0.line with
      | nil => rw [e] at hr'; cases hr'
      | cons z s =>
        have hy2 : y ∈ s := by
          rw [e] at hr'
          unfold offLine at hr'
          by_cases hz : z.1 ≠ o
          · rw [List.filter_cons_of_pos (by simpa using hz)] at hr'
            cases hr'
            exact (List.mem_filter.1 hy).1
          · rw [List.filter_cons_of_neg (by simpa using hz)] at hr'
            have : y ∈ s.filter fun x => decide (x.1 ≠ o) := by rw [hr']; simp [hy]
            exact (List.mem_filter.1 this).1
        exact hi.up z s e y hy2 hin'
  · obtain ⟨l0, h1, rfl⟩ := hsome k l hl
    rw [mem_fks] at hn
    have e1 : delK o l0.hs = l0.hs := delK_no (Inv.not_hs h h1 fun e => hn (.inl e))
    have e2 : offLine o l0.line = l0.line := offLine_no (Inv.not_line h h1 fun e => hn (.inr e))
    have e3 : l0.off o = l0 := by
      unfold Lk.off
      rw [e1, e2]
    rw [e3]
    exact h.full k l0 h1 (fun e => e)
  · by_cases e : q = o
    · subst e
      rw [lv_of_same] at hq
      exact absurd rfl hq
    · rw [lv_of_other _ _ e] at hq ⊢
      obtain ⟨l, h1, h2⟩ := h.wt q hq
      exact ⟨l.off o, by rw [hlk, h1]; rfl, mem_offLine.2 ⟨h2, e⟩⟩
  · by_cases e : q = o
    · subst e
      rw [lv_of_same]
      rfl
    · rw [lv_of_other _ _ e] at hq ⊢
      exact h.w0 q hq
  · have hcz : ∀ q, q ≠ o → (T.lv o).cnt q = T.cnt q := fun q e => by unfold Tb.cnt; rw [lv_of_other _ _ e]
    have hco : (T.lv o).cnt o = 0 := by unfold Tb.cnt; rw [lv_of_same]; rfl
    rw [lv_many]
    by_cases hoL : o ∈ L
    · have hold := h.cnt L hL fun q hq => by
        by_cases e : q = o
        · rw [e]; exact hoL
        · exact hc q (by rw [hcz q e]; exact hq)
      have hs := sumN_turn (f := (T.lv o).cnt) (g := T.cnt) hcz hL hoL
      rw [hold]
      omega
    · have hold := h.cnt (o :: L) (List.nodup_cons.2 ⟨hoL, hL⟩) fun q hq => by
        by_cases e : q = o
        · rw [e]; simp
        · have := hc q (by rw [hcz q e]; exact hq)
          simp [this]
      have h2 : sumN (T.lv o).cnt L = sumN T.cnt L := sumN_same fun q hq => hcz q fun e => hoL (e ▸ hq)
      have h3 : sumN T.cnt (o :: L) = T.cnt o + sumN T.cnt L := rfl
      rw [hold, h2, h3]
      simp
      omega
  · rw [lv_oo, lv_py, mem_delK]
    by_cases e : q = o
    · rw [e, updF_same]
      simp
    · rw [updF_other _ _ e, ← h.om]
      simp [e]
  · rw [lv_kk, hlk, h.km]
    cases T.lk k <;> rfl
  · rw [lv_oo]
    exact nodup_delK h.ond
  · rw [lv_kk]
    exact h.knd
  · by_cases e : q = o
    · subst e
      rw [lv_of_same]
      exact List.nodup_nil
    · rw [lv_of_other _ _ e]
      exact h.pnd q
  · rw [lv_oo] at hq
    exact h.odm q (mem_delK.1 hq).1
  · rw [lv_kk] at hk
    exact h.kdm k hk
theorem nextN_lk_other {k k' : Key} (hk : k' ≠ k) : ∀ (n : Nat) (T : Tb) (c : List Nat), (Tb.nextN n T k c).2.lk k' = T.lk k'
  | 0, _, _ => rfl
  | n + 1, T, c => by
    cases hl : (T.lkOf k).line with
    | nil => rw [nextN_nil hl]
    | cons om r =>
      obtain ⟨o, m⟩ := om
      cases hf : (T.lkOf k).fits o m with
      | false => rw [nextN_no hl hf]
      | true => rw [nextN_yes hl hf, nextN_lk_other hk, give_lk_other _ _ _ hk, pop_lk_other _ _ _ hk]
theorem nextT_lk_other {T : Tb} {k k' : Key} (hk : k' ≠ k) : (T.nextT k).lk k' = T.lk k' := by
  have h1 : (T.nextT0 k).lk k' = T.lk k' := nextN_lk_other hk _ T []
  unfold Tb.nextT
  split
  · show updF (T.nextT0 k).lk k none k' = _
    rw [updF_other _ _ hk, h1]
  · exact h1
/-- All keys are gone through. -/
theorem nexts_inv : ∀ (ks : List Key) (X : Key → Prop) (T : Tb), InvX X T → ks.Nodup → (∀ k, X k → k ∈ ks) → (∀ k, k ∈ ks → X k ∧ KL.dom k ∧ (T.lk k).isSome = true) → T.oo.length ≤ 10000 → T.kk.length ≤ 10000 →
    T.NG ks ∧ Inv (T.nextsT ks) ∧ (T.nextsT ks).oo = T.oo ∧ (T.nextsT ks).kk.length ≤ T.kk.length
  | [], X, T, h, _, hx, _, _, _ => ⟨trivial, h.wide (fun k e => absurd (hx k e) (by simp)), rfl, Nat.le_refl _⟩
  | k :: r, X, T, h, hn, hx, hk, ho, hkk => by
    obtain ⟨n1, n2⟩ := List.nodup_cons.1 hn
    obtain ⟨x1, x2, x3⟩ := hk k (by simp)
    obtain ⟨a1, a2, a3⟩ := nextT_inv h x1 x2 x3
    obtain ⟨b1, b2, b3, b4⟩ := nexts_inv r (fun k' => X k' ∧ k' ≠ k) (T.nextT k) a1 n2 (fun k' e => by
      rcases List.mem_cons.1 (hx k' e.1) with e2 | e2
      · exact absurd e2 e.2
      · exact e2) (fun k' e => by
      have hne : k' ≠ k := fun e2 => n1 (e2 ▸ e)
      obtain ⟨y1, y2, y3⟩ := hk k' (by simp [e])
      exact ⟨⟨y1, hne⟩, y2, by rw [nextT_lk_other hne]; exact y3⟩) (by rw [a2]; exact ho) (by omega)
    exact ⟨⟨x2, x3, fun n _ => nextN_good h x1 x2 x3 ho hkk n [], b1⟩, b2, b3.trans a2, by show ((T.nextT k).nextsT r).kk.length ≤ _; omega⟩
theorem fks_nodup (h : Inv T) (o : Nat) : (T.fks o).Nodup := by
  unfold Tb.fks
  split
  · exact (sortK_perm _).nodup_iff.2 (h.pnd o)
  · exact (sortK_perm _).nodup_iff.2 (nodup_putK (h.pnd o))
theorem fks_some (h : Inv T) (o : Nat) {k : Key} (hk : k ∈ T.fks o) : KL.dom k ∧ ((T.lv o).lk k).isSome = true := by
  have hs : (T.lk k).isSome = true := by
    rcases (mem_fks T o k).1 hk with e | ⟨e1, e2⟩
    · obtain ⟨l, h1, _⟩ := h.holds o k e
      rw [h1]; rfl
    · obtain ⟨l, h1, _⟩ := h.wt o e1
      rw [e2, h1]; rfl
  refine ⟨h.kdm k ((h.km k).2 hs), ?_⟩
  rw [lv_lk h]
  cases e : T.lk k with
  | none => rw [e] at hs; cases hs
  | some l => rfl
/-- Free, whole: what its way wants, and what is right behind it. -/
theorem free_inv (h : Inv T) (o : Nat) (ho : T.oo.length ≤ 10000) (hk : T.kk.length ≤ 10000) :
    (T.lv o).NG (T.fks o) ∧ Inv ((T.lv o).nextsT (T.fks o)) ∧ ((T.lv o).nextsT (T.fks o)).oo.length ≤ T.oo.length ∧ ((T.lv o).nextsT (T.fks o)).kk.length ≤ T.kk.length := by
  obtain ⟨a, b, c, d⟩ := nexts_inv (T.fks o) (fun k => k ∈ T.fks o) (T.lv o) (lv_inv h o) (fks_nodup h o) (fun _ e => e) (fun k e => ⟨e, (fks_some h o e).1, (fks_some h o e).2⟩)
    (by rw [lv_oo]; exact Nat.le_trans (delK_len _ _) ho) (by rw [lv_kk]; exact hk)
  exact ⟨a, b, by rw [c, lv_oo]; exact delK_len _ _, by rw [lv_kk] at d; exact d⟩
theorem new_inv : Inv Tb.new :=
  ⟨fun o k hk => (by cases hk), fun o => dom0, fun k l hl => (by cases hl), fun k l hl => (by cases hl), fun o hq => absurd rfl hq, fun _ _ => rfl, fun L hL hc => (by rw [sumN_none (f := Tb.new.cnt) fun a _ => rfl]; rfl), fun o => (by constructor <;> intro e <;> cases e), fun k => (by constructor <;> intro e <;> cases e), List.nodup_nil, List.nodup_nil, fun _ => List.nodup_nil, fun _ hq => (by cases hq), fun _ hk => (by cases hk)⟩
end
end Go.Proofs.YtadopbpfnnpnaaaGreat

