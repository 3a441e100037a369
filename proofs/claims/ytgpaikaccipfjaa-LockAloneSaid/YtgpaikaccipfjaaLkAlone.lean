
/-
  One owner that asks alone: what the table is then.
-/
import Derived.Test.YtgpaikaccipfjaaLk28
namespace Go.Proofs.Ytgpaikaccipfjaa
open Go.RowKit Go.Maps

structure Alone (T : Tb) (o : Nat) (n : Nat) : Prop where
  ok : T.Ok
  md : (T.of o).mode = 0
  lk : ∀ k l, T.lk k = some l → l.hs = [o] ∧ l.line = [] ∧ (l.mode = 1 ∨ l.mode = 2) ∧ k ∈ (T.of o).ks
  many : T.many = ((T.of o).ks.length : Int)
  nd : (T.of o).ks.Nodup
  ln : (T.of o).ks.length ≤ n
  oo : T.oo.length ≤ n
  kk : T.kk.length ≤ n
theorem putK_new {α : Type} [DecidableEq α] {a : α} {ks : List α} (h : a ∉ ks) : putK a ks = a :: ks := by unfold putK; rw [if_neg h]
theorem putK_old {α : Type} [DecidableEq α] {a : α} {ks : List α} (h : a ∈ ks) : putK a ks = ks := by unfold putK; rw [if_pos h]
section
variable {T : Tb} {o n : Nat}
theorem alone_new (o : Nat) : Alone Tb.new o 0 := ⟨new_ok, rfl, (fun _ _ h => by cases h), rfl, List.nodup_nil, Nat.le_refl _, Nat.le_refl _, Nat.le_refl _⟩
theorem ready_many (T : Tb) (o : Nat) (k : Key) : (T.ready o k).many = T.many := by
  unfold Tb.ready Tb.locked Tb.made
  cases T.py o <;> dsimp only <;> cases T.lk k <;> rfl
theorem ready_oo (T : Tb) (o : Nat) (k : Key) : (T.ready o k).oo.length ≤ T.oo.length + 1 := by
  unfold Tb.ready Tb.locked Tb.made
  cases T.py o <;> dsimp only <;> cases T.lk k <;> dsimp only <;> first | exact putK_len _ _ | omega
theorem ready_kk (T : Tb) (o : Nat) (k : Key) : (T.ready o k).kk.length ≤ T.kk.length + 1 := by
  unfold Tb.ready Tb.locked Tb.made
  cases T.py o <;> dsimp only <;> cases T.lk k <;> dsimp only <;> first | exact putK_len _ _ | omega
theorem give_many (T : Tb) (o : Nat) (k : Key) (m : Int) : (T.give o k m).many = if k ∈ (T.of o).ks then T.many else T.many + 1 := by
  unfold Tb.give
  show (if k ∈ ((T.ready o k).of o).ks then (T.ready o k).many else (T.ready o k).many + 1) = _
  rw [ready_of, ready_many]
theorem Alone.more (h : Alone T o n) : Alone T o (n + 1) := ⟨h.ok, h.md, h.lk, h.many, h.nd, Nat.le_succ_of_le h.ln, Nat.le_succ_of_le h.oo, Nat.le_succ_of_le h.kk⟩
theorem Alone.lkOf (h : Alone T o n) {k : Key} (hk : k ∈ (T.of o).ks) : T.lk k = some (T.lkOf k) ∧ (T.lkOf k).hs = [o] ∧ (T.lkOf k).line = [] ∧ ((T.lkOf k).mode = 1 ∨ (T.lkOf k).mode = 2) := by
  obtain ⟨l, h1, _⟩ := h.ok.holds o k hk
  rw [lkOf_of h1]
  exact ⟨h1, (h.lk k l h1).1, (h.lk k l h1).2.1, (h.lk k l h1).2.2.1⟩
theorem Alone.none (h : Alone T o n) {k : Key} (hk : k ∉ (T.of o).ks) : T.lk k = none := by
  cases e : T.lk k with
  | none => rfl
  | some l => exact absurd (h.lk k l e).2.2.2 hk
theorem Alone.may (h : Alone T o n) (k : Key) (m : Int) : T.may o k m = true := by
  unfold Tb.may
  cases e : T.lk k with
  | none => rfl
  | some l =>
    obtain ⟨h1, h2, h3, h4⟩ := h.lk k l e
    unfold Lk.fits
    simp [h1, h4]
theorem Alone.line (h : Alone T o n) (k : Key) : (T.lkOf k).line = [] := by
  unfold Tb.lkOf
  cases e : T.lk k with
  | none => rfl
  | some l => exact (h.lk k l e).2.1
theorem Alone.hs (h : Alone T o n) (k : Key) : (T.lkOf k).hs.length ≤ 1 := by
  unfold Tb.lkOf
  cases e : T.lk k with
  | none => exact Nat.zero_le _
  | some l =>
    show l.hs.length ≤ 1
    rw [(h.lk k l e).1]
    exact Nat.le_refl _
theorem Alone.give (h : Alone T o n) {k : Key} {m : Int} (hm : m = 1 ∨ m = 2) : Alone (T.give o k m) o (n + 1) := by
  have hh : putK o (T.lkOf k).hs = [o] := by
    by_cases hk : k ∈ (T.of o).ks
    · rw [(h.lkOf hk).2.1]
      simp [putK]
    · have : T.lkOf k = Lk.zero := by unfold Tb.lkOf; rw [h.none hk]; rfl
      rw [this]
      rfl
  have e1 := give_of_same T o k m
  refine ⟨give_ok h.ok (by rw [hh]; show 1 ≤ 1000000000; omega), by rw [e1]; exact h.md, fun k' l hl => ?_, ?_, by rw [e1]; exact nodup_putK h.nd, by rw [e1]; exact Nat.le_trans (putK_len _ _) (by have := h.ln; omega), Nat.le_trans (ready_oo T o k) (by have := h.oo; omega), Nat.le_trans (ready_kk T o k) (by have := h.kk; omega)⟩
  · by_cases ek : k' = k
    · subst ek
      rw [give_lkOf] at hl
      cases hl
      exact ⟨hh, h.line _, hm, by rw [e1]; exact mem_putK.2 (.inl rfl)⟩
    · rw [give_lk_other _ _ _ ek] at hl
      obtain ⟨a, b, c, d⟩ := h.lk k' l hl
      exact ⟨a, b, c, by rw [e1]; exact mem_putK.2 (.inr d)⟩
  · rw [give_many, e1]
    by_cases hk : k ∈ (T.of o).ks
    · rw [if_pos hk]
      show T.many = ((putK k (T.of o).ks).length : Int)
      rw [putK_old hk]
      exact h.many
    · rw [if_neg hk]
      show T.many + 1 = ((putK k (T.of o).ks).length : Int)
      rw [putK_new hk, h.many]
      simp
/-- It asks, and has it. -/
theorem Alone.ask (h : Alone T o n) (hn : n ≤ 1000) {k : Key} {m : Int} (hm : m = 1 ∨ m = 2) :
    ∃ T', T.ask o k m false = (0, T') ∧ Alone T' o (n + 1) ∧ (T'.of o).ks = putK k (T.of o).ks ∧ T'.hold o k = max (T.hold o k) m ∧ (∀ k', k' ≠ k → T'.hold o k' = T.hold o k') := by
  have hm0 : m ≠ 0 := by omega
  have hlt : T.many ≤ 1000 := by rw [h.many]; have := h.ln; omega
  by_cases hh : T.hold o k = m ∨ T.hold o k = 2
  · have hk : k ∈ (T.of o).ks := by
      by_cases hk : k ∈ (T.of o).ks
      · exact hk
      · have : T.hold o k = 0 := by unfold Tb.hold; rw [if_neg hk]
        omega
    refine ⟨T, ?_, h.more, (putK_old hk).symm, by omega, fun _ _ => rfl⟩
    unfold Tb.ask
    rw [if_neg (by simp [hm]), h.md, if_neg (by omega), if_neg (by simp), if_pos hh]
  · have hh0 : T.hold o k = 0 ∨ T.hold o k = 1 := by
      unfold Tb.hold at hh ⊢
      by_cases hk : k ∈ (T.of o).ks
      · rw [if_pos hk] at hh ⊢
        have := (h.lkOf hk).2.2.2
        omega
      · rw [if_neg hk]
        exact .inl rfl
    have e1 := give_of_same T o k m
    refine ⟨T.give o k m, ?_, h.give hm, by rw [e1], ?_, fun k' hk' => ?_⟩
    · unfold Tb.ask
      rw [if_neg (by simp [hm]), h.md, if_neg (by omega), if_neg (by simp), if_neg hh, if_neg (by omega), if_pos (h.may k m)]
    · have : (T.give o k m).hold o k = m := by
        unfold Tb.hold
        rw [e1, if_pos (mem_putK.2 (.inl rfl)), lkOf_of (give_lkOf T o k m)]
      rw [this]
      omega
    · unfold Tb.hold Tb.lkOf
      rw [e1, give_lk_other _ _ _ hk']
      simp [mem_putK, hk']
end
/-- Where nobody stands in a line nobody comes. -/
def Quiet (T : Tb) : Prop := ∀ k l, T.lk k = some l → l.line = []
section
variable {T : Tb}
theorem Quiet.lkOf (h : Quiet T) (k : Key) : (T.lkOf k).line = [] := by
  unfold Tb.lkOf
  cases e : T.lk k with
  | none => rfl
  | some l => exact h k l e
theorem Quiet.nextN (h : Quiet T) (n : Nat) (k : Key) (c : List Nat) : Tb.nextN n T k c = (c, T) := nextN_nil (h.lkOf k)
theorem Quiet.nextC (h : Quiet T) (k : Key) : T.nextC k = [] := by unfold Tb.nextC; rw [h.nextN]
theorem Quiet.nextT0 (h : Quiet T) (k : Key) : T.nextT0 k = T := by unfold Tb.nextT0; rw [h.nextN]
theorem Quiet.nextT (h : Quiet T) (k : Key) : Quiet (T.nextT k) ∧ (T.nextT k).many = T.many ∧ (T.nextT k).oo = T.oo ∧ (T.nextT k).kk.length ≤ T.kk.length ∧ ∀ k', k' ≠ k → (T.nextT k).lk k' = T.lk k' := by
  unfold Tb.nextT
  rw [h.nextT0]
  split
  · refine ⟨fun k' l hl => ?_, rfl, rfl, delK_len _ _, fun k' hk' => updF_other _ _ hk'⟩
    by_cases ek : k' = k
    · subst ek
      have : updF T.lk k' none k' = some l := hl
      rw [updF_same] at this
      cases this
    · exact h k' l ((updF_other T.lk none ek).symm.trans hl)
  · exact ⟨h, rfl, rfl, Nat.le_refl _, fun _ _ => rfl⟩
theorem Quiet.nexts : ∀ (ks : List Key) (T : Tb), Quiet T → T.nextsC ks = [] ∧ (T.nextsT ks).many = T.many
  | [], T, h => ⟨rfl, rfl⟩
  | k :: r, T, h => by
    obtain ⟨h1, h2, -⟩ := h.nextT k
    obtain ⟨a, b⟩ := Quiet.nexts r (T.nextT k) h1
    exact ⟨by show T.nextC k ++ (T.nextT k).nextsC r = []; rw [h.nextC, a]; rfl, b.trans h2⟩
theorem Quiet.ng : ∀ (ks : List Key) (T : Tb), Quiet T → ks.Nodup → (∀ k, k ∈ ks → KL.dom k ∧ ∃ l, T.lk k = some l ∧ l.hs.length ≤ 1000000000) → T.oo.length ≤ 1000000000 → T.kk.length ≤ 1000000000 → 0 ≤ T.many → T.many ≤ 1000000000 → T.NG ks
  | [], T, _, _, _, _, _, _, _ => trivial
  | k :: r, T, h, hn, hk, ho, hkk, hm, hm2 => by
    obtain ⟨hd, l, hl, hs⟩ := hk k (by simp)
    obtain ⟨h1, h2, h3, h4, h5⟩ := h.nextT k
    have hn2 := List.nodup_cons.1 hn
    refine ⟨hd, by rw [hl]; rfl, fun n _ => ?_, Quiet.ng r (T.nextT k) h1 hn2.2 (fun k' hk' => ?_) (by rw [h3]; exact ho) (Nat.le_trans h4 hkk) (by rw [h2]; exact hm) (by rw [h2]; exact hm2)⟩
    · rw [h.nextN]
      refine ⟨by rw [lkOf_of hl]; exact hs, by rw [h.lkOf]; exact Nat.zero_le _, ho, hkk, Int.le_trans (by decide) hm, hm2, fun o m r e => ?_⟩
      rw [h.lkOf] at e
      cases e
    · have hne : k' ≠ k := fun e => hn2.1 (e ▸ hk')
      obtain ⟨d, l', e1, e2⟩ := hk k' (by simp [hk'])
      exact ⟨d, l', (h5 k' hne).trans e1, e2⟩
end
section
variable {T : Tb} {o n : Nat}
theorem Alone.left (h : Alone T o n) (hn : n ≤ 1000) (hd : ∀ k, k ∈ (T.of o).ks → KL.dom k) (hs : ∀ k, k ∈ sortK (T.of o).ks ↔ k ∈ (T.of o).ks) (hnd : (sortK (T.of o).ks).Nodup) :
    (T.left o).NG (sortK (T.of o).ks) ∧ (T.left o).nextsC (sortK (T.of o).ks) = [] ∧ ((T.left o).nextsT (sortK (T.of o).ks)).many = 0 := by
  have hlk : ∀ k, (T.left o).lk k = if k ∈ sortK (T.of o).ks then (T.lk k).map fun l => { l with hs := delK o l.hs } else T.lk k := fun k => rfl
  have hq : Quiet (T.left o) := fun k l hl => by
    rw [hlk] at hl
    split at hl
    · cases e : T.lk k with
      | none => rw [e] at hl; cases hl
      | some l0 =>
        rw [e] at hl
        cases hl
        exact (h.lk k l0 e).2.1
    · exact (h.lk k l hl).2.1
  have hm : (T.left o).many = 0 := by
    show T.many - ((T.of o).ks.length : Int) = 0
    rw [h.many]
    omega
  obtain ⟨a, b⟩ := Quiet.nexts (sortK (T.of o).ks) (T.left o) hq
  refine ⟨Quiet.ng _ _ hq hnd (fun k hk => ?_) ?_ ?_ (by rw [hm]; decide) (by rw [hm]; decide), a, b.trans hm⟩
  · have hk2 := (hs k).1 hk
    obtain ⟨e1, e2, -⟩ := h.lkOf hk2
    refine ⟨hd k hk2, _, by rw [hlk, if_pos hk, e1]; rfl, ?_⟩
    exact Nat.le_trans (delK_len _ _) (by rw [e2]; show 1 ≤ 1000000000; omega)
  · exact Nat.le_trans (delK_len _ _) (by have := h.oo; omega)
  · exact Nat.le_trans (show (T.left o).kk.length ≤ n from h.kk) (by omega)
end
end Go.Proofs.Ytgpaikaccipfjaa
