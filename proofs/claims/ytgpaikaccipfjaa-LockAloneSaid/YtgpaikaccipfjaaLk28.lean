
/-
  The code's table of locks: what stays right as it goes.
-/
import Derived.Test.YtgpaikaccipfjaaLk27
namespace Go.Proofs.Ytgpaikaccipfjaa
open Go.RowKit Go.Maps

section
variable {T : Tb}
theorem locked_lk_other (T : Tb) {k k' : Key} (h : k' ≠ k) : (T.locked k).lk k' = T.lk k' := by
  unfold Tb.locked
  cases T.lk k with
  | none => exact updF_other _ _ h
  | some l => rfl
theorem made_of (T : Tb) (o o' : Nat) : (T.made o).of o' = T.of o' := by
  unfold Tb.made Tb.of
  cases e : T.py o with
  | some p => rfl
  | none =>
    show (updF T.py o (some Py.zero) o').getD Py.zero = (T.py o').getD Py.zero
    by_cases h : o' = o
    · rw [h, updF_same, e]; rfl
    · rw [updF_other _ _ h]
theorem locked_of (T : Tb) (k : Key) (o : Nat) : (T.locked k).of o = T.of o := by
  unfold Tb.of
  rw [locked_py]
theorem give_lk_other (T : Tb) (o : Nat) {k k' : Key} (m : Int) (h : k' ≠ k) : (T.give o k m).lk k' = T.lk k' := by
  unfold Tb.give
  show updF (T.ready o k).lk k _ k' = T.lk k'
  rw [updF_other _ _ h]
  unfold Tb.ready
  rw [locked_lk_other _ h, made_lk]
theorem give_of_same (T : Tb) (o : Nat) (k : Key) (m : Int) : (T.give o k m).of o = { T.of o with ks := putK k (T.of o).ks } := by
  unfold Tb.give
  show (updF (T.ready o k).py o _ o).getD Py.zero = _
  rw [updF_same, ready_of]
  rfl
theorem give_of_other (T : Tb) {o o' : Nat} (k : Key) (m : Int) (h : o' ≠ o) : (T.give o k m).of o' = T.of o' := by
  unfold Tb.give
  show (updF (T.ready o k).py o _ o').getD Py.zero = _
  rw [updF_other _ _ h]
  show (T.ready o k).of o' = _
  unfold Tb.ready
  rw [locked_of, made_of]
/-- One comes to a key. -/
theorem give_ok (ok : T.Ok) {o : Nat} {k : Key} {m : Int} (h1 : (putK o (T.lkOf k).hs).length ≤ 1000000000) : (T.give o k m).Ok := by
  have e0 := give_lkOf T o k m
  refine ⟨fun o' k' hk => ?_, fun k' l hl => ?_, fun k' l hl => ?_, fun o' => ?_⟩
  · by_cases ek : k' = k
    · subst ek
      by_cases eo : o' = o
      · subst eo
        exact ⟨_, e0, mem_putK.2 (.inl rfl)⟩
      · rw [give_of_other _ _ _ eo] at hk
        obtain ⟨l, hl, hm⟩ := ok.holds o' k' hk
        refine ⟨_, e0, mem_putK.2 (.inr ?_)⟩
        rw [lkOf_of hl]
        exact hm
    · have hk2 : k' ∈ (T.of o').ks := by
        by_cases eo : o' = o
        · subst eo
          rw [give_of_same] at hk
          rcases mem_putK.1 hk with e | e
          · exact absurd e ek
          · exact e
        · rwa [give_of_other _ _ _ eo] at hk
      obtain ⟨l, hl, hm⟩ := ok.holds o' k' hk2
      exact ⟨l, by rw [give_lk_other _ _ _ ek]; exact hl, hm⟩
  · by_cases ek : k' = k
    · subst ek
      rw [e0] at hl
      cases hl
      exact h1
    · rw [give_lk_other _ _ _ ek] at hl
      exact ok.hs k' l hl
  · by_cases ek : k' = k
    · subst ek
      rw [e0] at hl
      cases hl
      show (T.lkOf k').line.length ≤ _
      unfold Tb.lkOf
      cases e : T.lk k' with
      | none => exact Nat.zero_le _
      | some l => exact ok.line k' l e
    · rw [give_lk_other _ _ _ ek] at hl
      exact ok.line k' l hl
  · by_cases eo : o' = o
    · subst eo
      rw [give_of_same]
      exact ok.key o'
    · rw [give_of_other _ _ _ eo]
      exact ok.key o'
theorem stand_lk_other (T : Tb) (o : Nat) {k k' : Key} (m : Int) (h : k' ≠ k) : (T.stand o k m).lk k' = T.lk k' := updF_other _ _ h
theorem stand_lk_same (T : Tb) (o : Nat) (k : Key) (m : Int) : (T.stand o k m).lk k = some { T.lkOf k with line := (T.lkOf k).line ++ [(o, m)] } := updF_same _ _ _
theorem stand_of_same (T : Tb) (o : Nat) (k : Key) (m : Int) : (T.stand o k m).of o = { T.of o with key := k, mode := m } := by
  show (updF (T.made o).py o _ o).getD Py.zero = _
  rw [updF_same]
  rfl
theorem stand_of_other (T : Tb) {o o' : Nat} (k : Key) (m : Int) (h : o' ≠ o) : (T.stand o k m).of o' = T.of o' := by
  show (updF (T.made o).py o _ o').getD Py.zero = _
  rw [updF_other _ _ h]
  exact made_of T o o'
/-- One stands in a line. -/
theorem stand_ok (ok : T.Ok) {o : Nat} {k : Key} {m : Int} (hk : KL.dom k) (hlk : (T.lk k).isSome = true) (h1 : (T.lkOf k).line.length < 1000000000) : (T.stand o k m).Ok := by
  have e0 := stand_lk_same T o k m
  obtain ⟨l0, hl0⟩ := Option.isSome_iff_exists.1 hlk
  have hks : ∀ o', ((T.stand o k m).of o').ks = (T.of o').ks := fun o' => by
    by_cases eo : o' = o
    · subst eo; rw [stand_of_same]
    · rw [stand_of_other _ _ _ eo]
  refine ⟨fun o' k' hk' => ?_, fun k' l hl => ?_, fun k' l hl => ?_, fun o' => ?_⟩
  · rw [hks] at hk'
    obtain ⟨l, hl, hm⟩ := ok.holds o' k' hk'
    by_cases ek : k' = k
    · subst ek
      refine ⟨_, e0, ?_⟩
      rw [lkOf_of hl]
      exact hm
    · exact ⟨l, by rw [stand_lk_other _ _ _ ek]; exact hl, hm⟩
  · by_cases ek : k' = k
    · subst ek
      rw [e0] at hl
      cases hl
      rw [lkOf_of hl0]
      exact ok.hs k' l0 hl0
    · rw [stand_lk_other _ _ _ ek] at hl
      exact ok.hs k' l hl
  · by_cases ek : k' = k
    · subst ek
      rw [e0] at hl
      cases hl
      simp only [List.length_append, List.length_singleton]
      omega
    · rw [stand_lk_other _ _ _ ek] at hl
      exact ok.line k' l hl
  · by_cases eo : o' = o
    · subst eo
      rw [stand_of_same]
      exact hk
    · rw [stand_of_other _ _ _ eo]
      exact ok.key o'
/-- The first one of a line goes out of it. -/
theorem pop_of_ks (T : Tb) (k : Key) (o : Nat) (r : List (Nat × Int)) (o' : Nat) : ((T.pop k o r).of o').ks = (T.of o').ks := by
  show ((updF T.py o (some { T.of o with key := (0, 0), mode := 0 }) o').getD Py.zero).ks = _
  by_cases h : o' = o
  · rw [h, updF_same]; rfl
  · rw [updF_other _ _ h]; rfl
theorem pop_ok (ok : T.Ok) {k : Key} {o : Nat} {m : Int} {r : List (Nat × Int)} (hl : (T.lkOf k).line = (o, m) :: r) : (T.pop k o r).Ok := by
  obtain ⟨l0, hl0⟩ : ∃ l0, T.lk k = some l0 := by
    cases e : T.lk k with
    | none => unfold Tb.lkOf at hl; rw [e] at hl; cases hl
    | some l0 => exact ⟨l0, rfl⟩
  have e0 := pop_lk T k o r
  have e1 : ∀ k', k' ≠ k → (T.pop k o r).lk k' = T.lk k' := fun k' h => updF_other _ _ h
  refine ⟨fun o' k' hk' => ?_, fun k' l hl' => ?_, fun k' l hl' => ?_, fun o' => ?_⟩
  · rw [pop_of_ks] at hk'
    obtain ⟨l, h1, h2⟩ := ok.holds o' k' hk'
    by_cases ek : k' = k
    · subst ek
      exact ⟨_, e0, by rw [lkOf_of h1]; exact h2⟩
    · exact ⟨l, by rw [e1 _ ek]; exact h1, h2⟩
  · by_cases ek : k' = k
    · subst ek
      rw [e0] at hl'
      cases hl'
      rw [lkOf_of hl0]
      exact ok.hs k' l0 hl0
    · rw [e1 _ ek] at hl'
      exact ok.hs k' l hl'
  · by_cases ek : k' = k
    · subst ek
      rw [e0] at hl'
      cases hl'
      have h1 := ok.line k' l0 hl0
      rw [lkOf_of hl0] at hl
      rw [hl] at h1
      simp only [List.length_cons] at h1
      show r.length ≤ _
      omega
    · rw [e1 _ ek] at hl'
      exact ok.line k' l hl'
  · show KL.dom ((updF T.py o (some { T.of o with key := (0, 0), mode := 0 }) o').getD Py.zero).key
    by_cases h : o' = o
    · rw [h, updF_same]
      exact (show KL.dom ((0 : Int), (0 : Int)) from ⟨⟨by decide, by decide⟩, ⟨by decide, by decide⟩⟩)
    · rw [updF_other _ _ h]
      exact ok.key o'
theorem nextN_ok (k : Key) : ∀ (n : Nat) (T : Tb) (c : List Nat), T.Ok → (∀ i, i ≤ n → (Tb.nextN i T k c).2.Good k) → (Tb.nextN n T k c).2.Ok
  | 0, T, c, ok, _ => ok
  | n + 1, T, c, ok, hg => by
    cases hl : (T.lkOf k).line with
    | nil => rw [nextN_nil hl]; exact ok
    | cons om r =>
      obtain ⟨o, m⟩ := om
      cases hf : (T.lkOf k).fits o m with
      | false => rw [nextN_no hl hf]; exact ok
      | true =>
        rw [nextN_yes hl hf]
        have h1 := hg 1 (by omega)
        rw [nextN_yes hl hf] at h1
        have h2 : ((((T.pop k o r).give o k m).lkOf k).hs).length ≤ 1000000000 := (show ((T.pop k o r).give o k m).Good k from h1).1
        rw [lkOf_of (give_lkOf _ _ _ _)] at h2
        refine nextN_ok k n _ _ (give_ok (pop_ok ok hl) h2) fun i hi => ?_
        have := hg (i + 1) (by omega)
        rwa [nextN_yes hl hf] at this
/-- Those who may come, come; a lock that nobody holds goes. -/
theorem nextT_ok (ok : T.Ok) {k : Key} (hg : ∀ n, n ≤ (T.lkOf k).line.length → (Tb.nextN n T k []).2.Good k) : (T.nextT k).Ok := by
  have ok0 : (T.nextT0 k).Ok := nextN_ok k _ T [] ok hg
  unfold Tb.nextT
  split
  · rename_i h0
    obtain ⟨T0, hT0⟩ : ∃ T0, T0 = T.nextT0 k := ⟨_, rfl⟩
    rw [← hT0] at h0 ok0 ⊢
    have e1 : ∀ k', k' ≠ k → updF T0.lk k none k' = T0.lk k' := fun k' h => updF_other _ _ h
    refine ⟨fun o' k' hk' => ?_, fun k' l hl' => ?_, fun k' l hl' => ?_, ok0.key⟩
    · obtain ⟨l, h1, h2⟩ := ok0.holds o' k' hk'
      by_cases ek : k' = k
      · subst ek
        rw [lkOf_of h1] at h0
        rw [h0] at h2
        cases h2
      · exact ⟨l, (e1 _ ek).trans h1, h2⟩
    · by_cases ek : k' = k
      · subst ek
        have hl2 : updF T0.lk k' none k' = some l := hl'
        rw [updF_same] at hl2
        cases hl2
      · exact ok0.hs k' l ((e1 _ ek).symm.trans hl')
    · by_cases ek : k' = k
      · subst ek
        have hl2 : updF T0.lk k' none k' = some l := hl'
        rw [updF_same] at hl2
        cases hl2
      · exact ok0.line k' l ((e1 _ ek).symm.trans hl')
  · exact ok0
/-- One goes away. -/
theorem left_ok (ok : T.Ok) (o : Nat) : (T.left o).Ok := by
  have ho : (T.left o).of o = Py.zero := by
    show (updF T.py o none o).getD Py.zero = _
    rw [updF_same]
    rfl
  have ho' : ∀ o', o' ≠ o → (T.left o).of o' = T.of o' := fun o' h => by
    show (updF T.py o none o').getD Py.zero = _
    rw [updF_other _ _ h]
    rfl
  have hlk : ∀ k, (T.left o).lk k = if k ∈ sortK (T.of o).ks then (T.lk k).map fun l => { l with hs := delK o l.hs } else T.lk k := fun k => rfl
  have hex : ∀ k l, (T.left o).lk k = some l → ∃ l0, T.lk k = some l0 ∧ l.hs.length ≤ l0.hs.length ∧ l.line = l0.line := fun k l h => by
    rw [hlk] at h
    split at h
    · cases e : T.lk k with
      | none => rw [e] at h; cases h
      | some l0 =>
        rw [e] at h
        cases h
        exact ⟨l0, rfl, delK_len _ _, rfl⟩
    · exact ⟨l, h, Nat.le_refl _, rfl⟩
  refine ⟨fun o' k' hk' => ?_, fun k' l hl' => ?_, fun k' l hl' => ?_, fun o' => ?_⟩
  · by_cases eo : o' = o
    · rw [eo, ho] at hk'
      cases hk'
    · rw [ho' _ eo] at hk'
      obtain ⟨l, h1, h2⟩ := ok.holds o' k' hk'
      rw [hlk, h1]
      split
      · exact ⟨_, rfl, mem_delK.2 ⟨h2, eo⟩⟩
      · exact ⟨_, rfl, h2⟩
  · obtain ⟨l0, h1, h2, h3⟩ := hex k' l hl'
    exact Nat.le_trans h2 (ok.hs k' l0 h1)
  · obtain ⟨l0, h1, h2, h3⟩ := hex k' l hl'
    rw [h3]
    exact ok.line k' l0 h1
  · by_cases eo : o' = o
    · rw [eo, ho]
      exact ⟨⟨by decide, by decide⟩, ⟨by decide, by decide⟩⟩
    · rw [ho' _ eo]
      exact ok.key o'
/-- A table without locks. -/
theorem new_ok : Tb.new.Ok :=
  ⟨fun o k hk => (by cases hk), fun k l hl => (by cases hl), fun k l hl => (by cases hl), fun o => (show KL.dom ((0 : Int), (0 : Int)) from ⟨⟨by decide, by decide⟩, ⟨by decide, by decide⟩⟩)⟩
end
end Go.Proofs.Ytgpaikaccipfjaa
