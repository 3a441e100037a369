/-
  Texts on locks, put together: Lk28 LkAlone LkInv.
-/
import Derived.Test.YtadopbpfnnpnaaaGreatL15
set_option linter.unusedVariables false
set_option linter.unusedSimpArgs false
/-
  The code's table of locks: what stays right as it goes.
-/
namespace Go.Proofs.YtadopbpfnnpnaaaGreat
open Go.RowKit Go.Maps

section
variable {T : Tb}
theorem locked_lk_other (T : Tb) {k k' : Key} (h : k' ≠ k) : (T.locked k).lk k' = T.lk k' := by
  unfold Tb.locked
  cases T.lk k with
  | none => exact updF_other _ _ h
  | some l => rfl
theorem made_of (T : Tb) (o o' : Nat) : (T.made o).of o' = T.of o' := by
  unfold Tb.made Tb.of
  cases e : T.py o with
  | some p => rfl
  | none =>
    show (updF T.py o (some Py.zero) o').getD Py.zero = (T.py o').getD Py.zero
    by_cases h : o' = o
    · rw [h, updF_same, e]; rfl
    · rw [updF_other _ _ h]
theorem locked_of (T : Tb) (k : Key) (o : Nat) : (T.locked k).of o = T.of o := by
  unfold Tb.of
  rw [locked_py]
theorem give_lk_other (T : Tb) (o : Nat) {k k' : Key} (m : Int) (h : k' ≠ k) : (T.give o k m).lk k' = T.lk k' := by
  unfold Tb.give
  show updF (T.ready o k).lk k _ k' = T.lk k'
  rw [updF_other _ _ h]
  unfold Tb.ready
  rw [locked_lk_other _ h, made_lk]
theorem give_of_same (T : Tb) (o : Nat) (k : Key) (m : Int) : (T.give o k m).of o = { T.of o with ks := putK k (T.of o).ks } := by
  unfold Tb.give
  show (updF (T.ready o k).py o _ o).getD Py.zero = _
  rw [updF_same, ready_of]
  rfl
theorem give_of_other (T : Tb) {o o' : Nat} (k : Key) (m : Int) (h : o' ≠ o) : (T.give o k m).of o' = T.of o' := by
  unfold Tb.give
  show (updF (T.ready o k).py o _ o').getD Py.zero = _
  rw [updF_other _ _ h]
  show (T.ready o k).of o' = _
  unfold Tb.ready
  rw [locked_of, made_of]
/-- One comes to a key. -/
theorem give_ok (ok : T.Ok) {o : Nat} {k : Key} {m : Int} (h1 : (putK o (T.lkOf k).hs).length ≤ 1000000000) : (T.give o k m).Ok := by
  have e0 := give_lkOf T o k m
  refine ⟨fun o' k' hk => ?_, fun k' l hl => ?_, fun k' l hl => ?_, fun o' => ?_⟩
  · by_cases ek : k' = k
    · subst ek
      by_cases eo : o' = o
      · subst eo
        exact ⟨_, e0, mem_putK.2 (.inl rfl)⟩
      · rw [give_of_other _ _ _ eo] at hk
        obtain ⟨l, hl, hm⟩ := ok.holds o' k' hk
        refine ⟨_, e0, mem_putK.2 (.inr ?_)⟩
        rw [lkOf_of hl]
        exact hm
    · have hk2 : k' ∈ (T.of o').ks := by
        by_cases eo : o' = o
        · subst eo
          rw [give_of_same] at hk
          rcases mem_putK.1 hk with e | e
          · exact absurd e ek
          · exact e
        · rwa [give_of_other _ _ _ eo] at hk
      obtain ⟨l, hl, hm⟩ := ok.holds o' k' hk2
      exact ⟨l, by rw [give_lk_other _ _ _ ek]; exact hl, hm⟩
  · by_cases ek : k' = k
    · subst ek
      rw [e0] at hl
      cases hl
      exact h1
    · rw [give_lk_other _ _ _ ek] at hl
      exact ok.hs k' l hl
  · by_cases ek : k' = k
    · subst ek
      rw [e0] at hl
      cases hl
      show (T.lkOf k').line.length ≤ _
      unfold Tb.lkOf
      cases e : T.lk k' with
      | none => exact Nat.zero_le _
      | some l => exact ok.line k' l e
    · rw [give_lk_other _ _ _ ek] at hl
      exact ok.line k' l hl
  · by_cases eo : o' = o
    · subst eo
      rw [give_of_same]
      exact ok.key o'
    · rw [give_of_other _ _ _ eo]
      exact ok.key o'
theorem stand_lk_other (T : Tb) (o : Nat) {k k' : Key} (m : Int) (h : k' ≠ k) : (T.stand o k m).lk k' = T.lk k' := updF_other _ _ h
theorem stand_lk_same (T : Tb) (o : Nat) (k : Key) (m : Int) : (T.stand o k m).lk k = some { T.lkOf k with line := lineIn (decide (k ∈ (T.of o).ks)) o m (T.lkOf k).line } := updF_same _ _ _
theorem stand_of_same (T : Tb) (o : Nat) (k : Key) (m : Int) : (T.stand o k m).of o = { T.of o with key := k, mode := m } := by
  show (updF (T.made o).py o _ o).getD Py.zero = _
  rw [updF_same]
  rfl
theorem stand_of_other (T : Tb) {o o' : Nat} (k : Key) (m : Int) (h : o' ≠ o) : (T.stand o k m).of o' = T.of o' := by
  show (updF (T.made o).py o _ o').getD Py.zero = _
  rw [updF_other _ _ h]
  exact made_of T o o'
/-- One stands in a line. -/
theorem stand_ok (ok : T.Ok) {o : Nat} {k : Key} {m : Int} (hk : KL.dom k) (hlk : (T.lk k).isSome = true) (h1 : (T.lkOf k).line.length < 1000000000) : (T.stand o k m).Ok := by
  have e0 := stand_lk_same T o k m
  obtain ⟨l0, hl0⟩ := Option.isSome_iff_exists.1 hlk
  have hks : ∀ o', ((T.stand o k m).of o').ks = (T.of o').ks := fun o' => by
    by_cases eo : o' = o
    · subst eo; rw [stand_of_same]
    · rw [stand_of_other _ _ _ eo]
  refine ⟨fun o' k' hk' => ?_, fun k' l hl => ?_, fun k' l hl => ?_, fun o' => ?_⟩
  · rw [hks] at hk'
    obtain ⟨l, hl, hm⟩ := ok.holds o' k' hk'
    by_cases ek : k' = k
    · subst ek
      refine ⟨_, e0, ?_⟩
      rw [lkOf_of hl]
      exact hm
    · exact ⟨l, by rw [stand_lk_other _ _ _ ek]; exact hl, hm⟩
  · by_cases ek : k' = k
    · subst ek
      rw [e0] at hl
      cases hl
      rw [lkOf_of hl0]
      exact ok.hs k' l0 hl0
    · rw [stand_lk_other _ _ _ ek] at hl
      exact ok.hs k' l hl
  · by_cases ek : k' = k
    · subst ek
      rw [e0] at hl
      cases hl
      rw [lineIn_len]
      omega
    · rw [stand_lk_other _ _ _ ek] at hl
      exact ok.line k' l hl
  · by_cases eo : o' = o
    · subst eo
      rw [stand_of_same]
      exact hk
    · rw [stand_of_other _ _ _ eo]
      exact ok.key o'
/-- The first one of a line goes out of it. -/
theorem pop_of_ks (T : Tb) (k : Key) (o : Nat) (r : List (Nat × Int)) (o' : Nat) : ((T.pop k o r).of o').ks = (T.of o').ks := by
  show ((updF T.py o (some { T.of o with key := (0, 0), mode := 0 }) o').getD Py.zero).ks = _
  by_cases h : o' = o
  · rw [h, updF_same]; rfl
  · rw [updF_other _ _ h]; rfl
theorem pop_ok (ok : T.Ok) {k : Key} {o : Nat} {m : Int} {r : List (Nat × Int)} (hl : (T.lkOf k).line = (o, m) :: r) : (T.pop k o r).Ok := by
  obtain ⟨l0, hl0⟩ : ∃ l0, T.lk k = some l0 := by
    cases e : T.lk k with
    | none => unfold Tb.lkOf at hl; rw [e] at hl; cases hl
    | some l0 => exact ⟨l0, rfl⟩
  have e0 := pop_lk T k o r
  have e1 : ∀ k', k' ≠ k → (T.pop k o r).lk k' = T.lk k' := fun k' h => updF_other _ _ h
  refine ⟨fun o' k' hk' => ?_, fun k' l hl' => ?_, fun k' l hl' => ?_, fun o' => ?_⟩
  · rw [pop_of_ks] at hk'
    obtain ⟨l, h1, h2⟩ := ok.holds o' k' hk'
    by_cases ek : k' = k
    · subst ek
      exact ⟨_, e0, by rw [lkOf_of h1]; exact h2⟩
    · exact ⟨l, by rw [e1 _ ek]; exact h1, h2⟩
  · by_cases ek : k' = k
    · subst ek
      rw [e0] at hl'
      cases hl'
      rw [lkOf_of hl0]
      exact ok.hs k' l0 hl0
    · rw [e1 _ ek] at hl'
      exact ok.hs k' l hl'
  · by_cases ek : k' = k
    · subst ek
      rw [e0] at hl'
      cases hl'
      have h1 := ok.line k' l0 hl0
      rw [lkOf_of hl0] at hl
      rw [hl] at h1
      simp only [List.length_cons] at h1
      show r.length ≤ _
      omega
    · rw [e1 _ ek] at hl'
      exact ok.line k' l hl'
  · show KL.dom ((updF T.py o (some { T.of o with key := (0, 0), mode := 0 }) o').getD Py.zero).key
    by_cases h : o' = o
    · rw [h, updF_same]
      exact (show KL.dom ((0 : Int), (0 : Int)) from ⟨⟨by decide, by decide⟩, ⟨by decide, by decide⟩⟩)
    · rw [updF_other _ _ h]
      exact ok.key o'
theorem nextN_ok (k : Key) : ∀ (n : Nat) (T : Tb) (c : List Nat), T.Ok → (∀ i, i ≤ n → (Tb.nextN i T k c).2.Good k) → (Tb.nextN n T k c).2.Ok
  | 0, T, c, ok, _ => ok
  | n + 1, T, c, ok, hg => by
    cases hl : (T.lkOf k).line with
    | nil => rw [nextN_nil hl]; exact ok
    | cons om r =>
      obtain ⟨o, m⟩ := om
      cases hf : (T.lkOf k).fits o m with
      | false => rw [nextN_no hl hf]; exact ok
      | true =>
        rw [nextN_yes hl hf]
        have h1 := hg 1 (by omega)
        rw [nextN_yes hl hf] at h1
        have h2 : ((((T.pop k o r).give o k m).lkOf k).hs).length ≤ 1000000000 := (show ((T.pop k o r).give o k m).Good k from h1).1
        rw [lkOf_of (give_lkOf _ _ _ _)] at h2
        refine nextN_ok k n _ _ (give_ok (pop_ok ok hl) h2) fun i hi => ?_
        have := hg (i + 1) (by omega)
        rwa [nextN_yes hl hf] at this
/-- Those who may come, come; a lock that nobody holds goes. -/
theorem nextT_ok (ok : T.Ok) {k : Key} (hg : ∀ n, n ≤ (T.lkOf k).line.length → (Tb.nextN n T k []).2.Good k) : (T.nextT k).Ok := by
  have ok0 : (T.nextT0 k).Ok := nextN_ok k _ T [] ok hg
  unfold Tb.nextT
  split
  · rename_i h0
    obtain ⟨T0, hT0⟩ : ∃ T0, T0 = T.nextT0 k := ⟨_, rfl⟩
    rw [← hT0] at h0 ok0 ⊢
    have e1 : ∀ k', k' ≠ k → updF T0.lk k none k' = T0.lk k' := fun k' h => updF_other _ _ h
    refine ⟨fun o' k' hk' => ?_, fun k' l hl' => ?_, fun k' l hl' => ?_, ok0.key⟩
    · obtain ⟨l, h1, h2⟩ := ok0.holds o' k' hk'
      by_cases ek : k' = k
      · subst ek
        rw [lkOf_of h1] at h0
        rw [h0] at h2
        cases h2
      · exact ⟨l, (e1 _ ek).trans h1, h2⟩
    · by_cases ek : k' = k
      · subst ek
        have hl2 : updF T0.lk k' none k' = some l := hl'
        rw [updF_same] at hl2
        cases hl2
      · exact ok0.hs k' l ((e1 _ ek).symm.trans hl')
    · by_cases ek : k' = k
      · subst ek
        have hl2 : updF T0.lk k' none k' = some l := hl'
        rw [updF_same] at hl2
        cases hl2
      · exact ok0.line k' l ((e1 _ ek).symm.trans hl')
  · exact ok0
/-- One goes away. -/
theorem left_ok (ok : T.Ok) (o : Nat) : (T.left o).Ok := by
  have ho : (T.left o).of o = Py.zero := by
    show (updF T.py o none o).getD Py.zero = _
    rw [updF_same]
    rfl
  have ho' : ∀ o', o' ≠ o → (T.left o).of o' = T.of o' := fun o' h => by
    show (updF T.py o none o').getD Py.zero = _
    rw [updF_other _ _ h]
    rfl
  have hlk : ∀ k, (T.left o).lk k = if k ∈ sortK (T.of o).ks then (T.lk k).map fun l => { l with hs := delK o l.hs } else T.lk k := fun k => rfl
  have hex : ∀ k l, (T.left o).lk k = some l → ∃ l0, T.lk k = some l0 ∧ l.hs.length ≤ l0.hs.length ∧ l.line = l0.line := fun k l h => by
    rw [hlk] at h
    split at h
    · cases e : T.lk k with
      | none => rw [e] at h; cases h
      | some l0 =>
        rw [e] at h
        cases h
        exact ⟨l0, rfl, delK_len _ _, rfl⟩
    · exact ⟨l, h, Nat.le_refl _, rfl⟩
  refine ⟨fun o' k' hk' => ?_, fun k' l hl' => ?_, fun k' l hl' => ?_, fun o' => ?_⟩
  · by_cases eo : o' = o
    · rw [eo, ho] at hk'
      cases hk'
    · rw [ho' _ eo] at hk'
      obtain ⟨l, h1, h2⟩ := ok.holds o' k' hk'
      rw [hlk, h1]
      split
      · exact ⟨_, rfl, mem_delK.2 ⟨h2, eo⟩⟩
      · exact ⟨_, rfl, h2⟩
  · obtain ⟨l0, h1, h2, h3⟩ := hex k' l hl'
    exact Nat.le_trans h2 (ok.hs k' l0 h1)
  · obtain ⟨l0, h1, h2, h3⟩ := hex k' l hl'
    rw [h3]
    exact ok.line k' l0 h1
  · by_cases eo : o' = o
    · rw [eo, ho]
      exact ⟨⟨by decide, by decide⟩, ⟨by decide, by decide⟩⟩
    · rw [ho' _ eo]
      exact ok.key o'
/-- A table without locks. -/
theorem new_ok : Tb.new.Ok :=
  ⟨fun o k hk => (by cases hk), fun k l hl => (by cases hl), fun k l hl => (by cases hl), fun o => (show KL.dom ((0 : Int), (0 : Int)) from ⟨⟨by decide, by decide⟩, ⟨by decide, by decide⟩⟩)⟩
end
end Go.Proofs.YtadopbpfnnpnaaaGreat

/-
  One owner that asks alone: what the table is then.
-/
namespace Go.Proofs.YtadopbpfnnpnaaaGreat
open Go.RowKit Go.Maps

theorem putK_new {α : Type} [DecidableEq α] {a : α} {ks : List α} (h : a ∉ ks) : putK a ks = a :: ks := by unfold putK; rw [if_neg h]
theorem putK_old {α : Type} [DecidableEq α] {a : α} {ks : List α} (h : a ∈ ks) : putK a ks = ks := by unfold putK; rw [if_pos h]
section
variable {T : Tb} {o n : Nat}
theorem ready_many (T : Tb) (o : Nat) (k : Key) : (T.ready o k).many = T.many := by
  unfold Tb.ready Tb.locked Tb.made
  cases T.py o <;> dsimp only <;> cases T.lk k <;> rfl
theorem ready_oo (T : Tb) (o : Nat) (k : Key) : (T.ready o k).oo.length ≤ T.oo.length + 1 := by
  unfold Tb.ready Tb.locked Tb.made
  cases T.py o <;> dsimp only <;> cases T.lk k <;> dsimp only <;> first | exact putK_len _ _ | omega
theorem ready_kk (T : Tb) (o : Nat) (k : Key) : (T.ready o k).kk.length ≤ T.kk.length + 1 := by
  unfold Tb.ready Tb.locked Tb.made
  cases T.py o <;> dsimp only <;> cases T.lk k <;> dsimp only <;> first | exact putK_len _ _ | omega
theorem give_many (T : Tb) (o : Nat) (k : Key) (m : Int) : (T.give o k m).many = if k ∈ (T.of o).ks then T.many else T.many + 1 := by
  unfold Tb.give
  show (if k ∈ ((T.ready o k).of o).ks then (T.ready o k).many else (T.ready o k).many + 1) = _
  rw [ready_of, ready_many]
end
end Go.Proofs.YtadopbpfnnpnaaaGreat

/-
  What is always right of a table of locks, and in the midst of letting go (X: the keys that are still to be gone through).
-/
namespace Go.Proofs.YtadopbpfnnpnaaaGreat
open Go.RowKit Go.Maps

theorem nodup_le {α : Type} [DecidableEq α] : ∀ (l1 l2 : List α), l1.Nodup → (∀ a, a ∈ l1 → a ∈ l2) → l1.length ≤ l2.length
  | [], _, _, _ => Nat.zero_le _
  | a :: r, l2, h, hs => by
    obtain ⟨h1, h2⟩ := List.nodup_cons.1 h
    have ha := hs a (by simp)
    have hr := nodup_le r (l2.erase a) h2 fun b hb => by
      have hne : b ≠ a := fun e => h1 (e ▸ hb)
      exact (List.mem_erase_of_ne hne).2 (hs b (by simp [hb]))
    have h3 := List.length_erase_of_mem ha
    have h4 : 0 < l2.length := List.length_pos_of_mem ha
    simp only [List.length_cons]
    omega
/-- How many locks an owner has, with the one that it waits for. -/
def Py.cnt (p : Py) : Nat := p.ks.length + if p.mode = 0 then 0 else 1
def Tb.cnt (T : Tb) (o : Nat) : Nat := (T.of o).cnt
def sumN (f : Nat → Nat) : List Nat → Nat
  | [] => 0
  | a :: r => f a + sumN f r
theorem sumN_same {f g : Nat → Nat} : ∀ {L : List Nat}, (∀ a, a ∈ L → f a = g a) → sumN f L = sumN g L
  | [], _ => rfl
  | a :: r, h => by
    unfold sumN
    rw [h a (by simp), sumN_same fun b hb => h b (by simp [hb])]
theorem sumN_turn {f g : Nat → Nat} {o : Nat} (hfg : ∀ a, a ≠ o → f a = g a) : ∀ {L : List Nat}, L.Nodup → o ∈ L → sumN f L + g o = sumN g L + f o
  | [], _, h => by cases h
  | a :: r, hn, h => by
    obtain ⟨h1, h2⟩ := List.nodup_cons.1 hn
    unfold sumN
    by_cases e : a = o
    · subst e
      rw [sumN_same (f := f) (g := g) (L := r) fun b hb => hfg b fun e2 => h1 (e2 ▸ hb)]
      omega
    · have h3 : o ∈ r := by
        rcases List.mem_cons.1 h with e2 | e2
        · exact absurd e2.symm e
        · exact e2
      have := sumN_turn hfg h2 h3
      rw [hfg a e]
      omega
theorem sumN_none {f : Nat → Nat} : ∀ {L : List Nat}, (∀ a, a ∈ L → f a = 0) → sumN f L = 0
  | [], _ => rfl
  | a :: r, h => by
    unfold sumN
    rw [h a (by simp), sumN_none fun b hb => h b (by simp [hb])]
theorem sumN_le {f : Nat → Nat} {n : Nat} : ∀ {L : List Nat}, (∀ a, a ∈ L → f a ≤ n) → sumN f L ≤ L.length * n
  | [], _ => Nat.zero_le _
  | a :: r, h => by
    unfold sumN
    have h1 := h a (by simp)
    have h2 := sumN_le (f := f) (n := n) (L := r) fun b hb => h b (by simp [hb])
    simp only [List.length_cons, Nat.add_mul, Nat.one_mul]
    omega

structure LkIn (T : Tb) (k : Key) (l : Lk) : Prop where
  hnd : l.hs.Nodup
  hk : ∀ o, o ∈ l.hs → k ∈ (T.of o).ks
  md : l.hs ≠ [] → l.mode = 1 ∨ l.mode = 2
  one : l.mode = 2 → l.hs.length ≤ 1
  lnd : (l.line.map Prod.fst).Nodup
  lw : ∀ o m, (o, m) ∈ l.line → (T.of o).key = k ∧ (T.of o).mode = m ∧ (m = 1 ∨ m = 2)
  up : ∀ x r, l.line = x :: r → ∀ y, y ∈ r → y.1 ∉ l.hs
/-- The first one of a line may not have it. -/
def Stuck (l : Lk) : Prop := ∀ o m r, l.line = (o, m) :: r → l.fits o m = false
structure InvX (X : Key → Prop) (T : Tb) : Prop where
  holds : ∀ o k, k ∈ (T.of o).ks → ∃ l, T.lk k = some l ∧ o ∈ l.hs
  key : ∀ o, KL.dom (T.of o).key
  lk : ∀ k l, T.lk k = some l → LkIn T k l
  full : ∀ k l, T.lk k = some l → ¬ X k → l.hs ≠ [] ∧ Stuck l
  wt : ∀ o, (T.of o).mode ≠ 0 → ∃ l, T.lk (T.of o).key = some l ∧ (o, (T.of o).mode) ∈ l.line
  w0 : ∀ o, (T.of o).mode = 0 → (T.of o).key = (0, 0)
  cnt : ∀ L : List Nat, L.Nodup → (∀ o, T.cnt o ≠ 0 → o ∈ L) → T.many = (sumN T.cnt L : Int)
  om : ∀ o, o ∈ T.oo ↔ (T.py o).isSome = true
  km : ∀ k, k ∈ T.kk ↔ (T.lk k).isSome = true
  ond : T.oo.Nodup
  knd : T.kk.Nodup
  pnd : ∀ o, (T.of o).ks.Nodup
  odm : ∀ o, o ∈ T.oo → KO.dom o
  kdm : ∀ k, k ∈ T.kk → KL.dom k
abbrev Inv (T : Tb) : Prop := InvX (fun _ => False) T
section
variable {X : Key → Prop} {T : Tb}
theorem InvX.wide (h : InvX X T) {Y : Key → Prop} (hy : ∀ k, X k → Y k) : InvX Y T := ⟨h.holds, h.key, h.lk, fun k l hl hn => h.full k l hl fun e => hn (hy k e), h.wt, h.w0, h.cnt, h.om, h.km, h.ond, h.knd, h.pnd, h.odm, h.kdm⟩
theorem py_none {T : Tb} {o : Nat} (h : T.py o = none) : T.of o = Py.zero := by unfold Tb.of; rw [h]; rfl
theorem InvX.some_py (h : InvX X T) {o : Nat} (hc : T.of o ≠ Py.zero) : o ∈ T.oo := by
  rw [h.om]
  cases e : T.py o with
  | none => exact absurd (py_none e) hc
  | some p => rfl
theorem InvX.in_oo (h : InvX X T) {k : Key} {l : Lk} (hl : T.lk k = some l) {o : Nat} (ho : o ∈ l.hs) : o ∈ T.oo := h.some_py fun e => by
  have := (h.lk k l hl).hk o ho
  rw [e] at this
  cases this
theorem InvX.line_oo (h : InvX X T) {k : Key} {l : Lk} (hl : T.lk k = some l) {o : Nat} {m : Int} (ho : (o, m) ∈ l.line) : o ∈ T.oo := h.some_py fun e => by
  obtain ⟨-, h2, h3⟩ := (h.lk k l hl).lw o m ho
  rw [e] at h2
  have : (0 : Int) = m := h2
  omega
theorem InvX.hs_le (h : InvX X T) {k : Key} {l : Lk} (hl : T.lk k = some l) : l.hs.length ≤ T.oo.length := nodup_le _ _ (h.lk k l hl).hnd fun _ ho => h.in_oo hl ho
theorem InvX.line_le (h : InvX X T) {k : Key} {l : Lk} (hl : T.lk k = some l) : l.line.length ≤ T.oo.length := by
  have := nodup_le _ T.oo (h.lk k l hl).lnd fun o ho => by
    obtain ⟨⟨o', m⟩, h1, rfl⟩ := List.mem_map.1 ho
    exact h.line_oo hl h1
  simpa using this
theorem InvX.ks_le (h : InvX X T) (o : Nat) : (T.of o).ks.length ≤ T.kk.length := nodup_le _ _ (h.pnd o) fun k hk => by
  obtain ⟨l, h1, _⟩ := h.holds o k hk
  rw [h.km, h1]
  rfl
theorem InvX.lkOf_hs (h : InvX X T) (k : Key) : (T.lkOf k).hs.length ≤ T.oo.length := by
  unfold Tb.lkOf
  cases e : T.lk k with
  | none => exact Nat.zero_le _
  | some l => exact h.hs_le e
theorem InvX.lkOf_line (h : InvX X T) (k : Key) : (T.lkOf k).line.length ≤ T.oo.length := by
  unfold Tb.lkOf
  cases e : T.lk k with
  | none => exact Nat.zero_le _
  | some l => exact h.line_le e
theorem InvX.ok (h : InvX X T) (hn : T.oo.length ≤ 1000000000) : T.Ok := ⟨h.holds, fun _ _ hl => Nat.le_trans (h.hs_le hl) hn, fun _ _ hl => Nat.le_trans (h.line_le hl) hn, h.key⟩
/-- What an owner has is at most all keys, and one. -/
theorem InvX.many (h : InvX X T) : 0 ≤ T.many ∧ T.many ≤ ((T.oo.length * (T.kk.length + 1) : Nat) : Int) := by
  have h1 := h.cnt T.oo h.ond fun o ho => h.some_py fun e => ho (by unfold Tb.cnt; rw [e]; rfl)
  have h2 : sumN T.cnt T.oo ≤ T.oo.length * (T.kk.length + 1) := sumN_le fun o _ => by
    have := h.ks_le o
    unfold Tb.cnt Py.cnt
    split <;> omega
  rw [h1]
  omega
theorem InvX.fit_one (h : InvX X T) {k : Key} {o : Nat} {m : Int} (hm : m = 1 ∨ m = 2) (hf : (T.lkOf k).fits o m = true) (hnd : (T.lkOf k).hs.Nodup) : (∀ q, q ∈ (T.lkOf k).hs → q = o) ∨ m = 1 ∧ (T.lkOf k).mode = 1 := by
  unfold Lk.fits at hf
  simp only [Bool.or_eq_true, decide_eq_true_eq] at hf
  rcases hf with hf | hf
  · refine .inl fun q hq => ?_
    by_cases ho : o ∈ (T.lkOf k).hs
    · rw [if_pos ho] at hf
      have h1 : (T.lkOf k).hs.length = 1 := by omega
      match he : (T.lkOf k).hs, h1 with
      | [a], _ =>
        rw [he] at hq ho
        simp at hq ho
        rw [hq, ho]
    · rw [if_neg ho] at hf
      have h1 : (T.lkOf k).hs.length = 0 := by omega
      rw [List.eq_nil_of_length_eq_zero h1] at hq
      cases hq
  · unfold tog at hf
    simp at hf
    exact .inr hf
/-- One comes to a key. -/
theorem give_inv (h : InvX X T) {o : Nat} {k : Key} {m : Int} (ho : KO.dom o) (hk : KL.dom k) (hw : (T.of o).mode = 0) (hm : m = 1 ∨ m = 2) (hf : (T.lkOf k).fits o m = true)
    (hx : ¬ X k → ∀ o' m' r, (T.lkOf k).line = (o', m') :: r → ({ T.lkOf k with mode := m, hs := putK o (T.lkOf k).hs } : Lk).fits o' m' = false) : InvX X (T.give o k m) := by
  have e0 := give_lkOf T o k m
  have eo := give_of_same T o k m
  have hlk : (T.lkOf k).hs.Nodup ∧ ((T.lkOf k).line.map Prod.fst).Nodup ∧ (∀ q, q ∈ (T.lkOf k).hs → k ∈ (T.of q).ks) ∧ (∀ q m', (q, m') ∈ (T.lkOf k).line → (T.of q).key = k ∧ (T.of q).mode = m' ∧ (m' = 1 ∨ m' = 2)) ∧ (∀ x r, (T.lkOf k).line = x :: r → ∀ y, y ∈ r → y.1 ∉ (T.lkOf k).hs) := by
    unfold Tb.lkOf
    cases e : T.lk k with
    | none => exact ⟨List.nodup_nil, List.nodup_nil, (fun _ h => by cases h), (fun _ _ h => by cases h), (fun _ _ h => by cases h)⟩
    | some l => exact ⟨(h.lk k l e).hnd, (h.lk k l e).lnd, (h.lk k l e).hk, (h.lk k l e).lw, (h.lk k l e).up⟩
  obtain ⟨a1, a2, a3, a4, a5⟩ := hlk
  have hks : ∀ q k', k' ∈ ((T.give o k m).of q).ks ↔ (q = o ∧ k' = k) ∨ k' ∈ (T.of q).ks := fun q k' => by
    by_cases e : q = o
    · subst e
      rw [eo, mem_putK]
      simp
    · rw [give_of_other _ _ _ e]
      simp [e]
  have hmd : ∀ q, ((T.give o k m).of q).mode = (T.of q).mode ∧ ((T.give o k m).of q).key = (T.of q).key := fun q => by
    by_cases e : q = o
    · subst e
      rw [eo]
      exact ⟨rfl, rfl⟩
    · rw [give_of_other _ _ _ e]
      exact ⟨rfl, rfl⟩
  have hone : m = 2 → (putK o (T.lkOf k).hs).length ≤ 1 := fun e2 => by
    rcases h.fit_one hm hf a1 with h1 | h1
    · have := nodup_le (putK o (T.lkOf k).hs) [o] (nodup_putK a1) fun q hq => by
        rcases mem_putK.1 hq with e | e
        · rw [e]; simp
        · rw [h1 q e]; simp
      simpa using this
    · omega
  have hnl : ∀ k' l m', T.lk k' = some l → (o, m') ∉ l.line := fun k' l m' hl hin => by
    obtain ⟨-, h2, h3⟩ := (h.lk k' l hl).lw o m' hin
    rw [hw] at h2
    omega
  refine ⟨fun q k' hq => ?_, fun q => by rw [(hmd q).2]; exact h.key q, fun k' l hl => ?_, fun k' l hl hn => ?_, fun q hq => ?_, fun q hq => ?_, fun L hL hc => ?_, fun q => ?_, fun k' => ?_, ?_, ?_, fun q => ?_, fun q hq => ?_, fun k' hk' => ?_⟩
  · by_cases ek : k' = k
    · subst ek
      refine ⟨_, e0, mem_putK.2 ?_⟩
      rcases (hks q k').1 hq with ⟨e, _⟩ | e
      · exact .inl e
      · obtain ⟨l, h1, h2⟩ := h.holds q k' e
        rw [lkOf_of h1]
        exact .inr h2
    · rw [give_lk_other _ _ _ ek]
      rcases (hks q k').1 hq with ⟨_, e⟩ | e
      · exact absurd e ek
      · exact h.holds q k' e
  · by_cases ek : k' = k
    · subst ek
      rw [e0] at hl
      cases hl
      refine ⟨nodup_putK a1, fun q hq => (hks q k').2 ?_, fun _ => hm, hone, a2, fun q m' hq => ?_, fun x r hx y hy hin => ?_⟩
      · rcases mem_putK.1 hq with e | e
        · exact .inl ⟨e, rfl⟩
        · exact .inr (a3 q e)
      · rw [(hmd q).1, (hmd q).2]
        exact a4 q m' hq
      · rcases mem_putK.1 hin with e | e
        · have hy2 : y ∈ (T.lkOf k').line := by rw [show (T.lkOf k').line = x :: r from hx]; simp [hy]
          obtain ⟨y1, y2⟩ := y
          obtain ⟨-, h2, h3⟩ := a4 y1 y2 hy2
          have e' : y1 = o := e
          subst e'
          rw [hw] at h2
          omega
        · exact a5 x r hx y hy e
    · rw [give_lk_other _ _ _ ek] at hl
      have := h.lk k' l hl
      exact ⟨this.hnd, fun q hq => (hks q k').2 (.inr (this.hk q hq)), this.md, this.one, this.lnd, fun q m' hq => by rw [(hmd q).1, (hmd q).2]; exact this.lw q m' hq, this.up⟩
  · by_cases ek : k' = k
    · subst ek
      rw [e0] at hl
      cases hl
      exact ⟨(fun e => by have h9 : o ∈ putK o (T.lkOf k').hs := mem_putK.2 (.inl rfl); rw [show putK o (T.lkOf k').hs = [] from e] at h9; cases h9), fun o' m' r hr => hx hn o' m' r hr⟩
    · rw [give_lk_other _ _ _ ek] at hl
      exact h.full k' l hl hn
  · rw [(hmd q).1] at hq
    rw [(hmd q).1, (hmd q).2]
    obtain ⟨l, h1, h2⟩ := h.wt q hq
    by_cases ek : (T.of q).key = k
    · rw [ek] at h1 ⊢
      refine ⟨_, e0, ?_⟩
      rw [lkOf_of h1]
      exact h2
    · exact ⟨l, by rw [give_lk_other _ _ _ ek]; exact h1, h2⟩
  · rw [(hmd q).1] at hq
    rw [(hmd q).2]
    exact h.w0 q hq
  · have hcz : ∀ q, q ≠ o → (T.give o k m).cnt q = T.cnt q := fun q e => by unfold Tb.cnt; rw [give_of_other _ _ _ e]
    have hco : (T.give o k m).cnt o = T.cnt o + if k ∈ (T.of o).ks then 0 else 1 := by
      unfold Tb.cnt Py.cnt
      rw [eo]
      show (putK k (T.of o).ks).length + _ = _
      by_cases e : k ∈ (T.of o).ks
      · rw [if_pos e, putK_old e]
        rfl
      · rw [if_neg e, putK_new e]
        show (T.of o).ks.length + 1 + (if (T.of o).mode = 0 then 0 else 1) = _
        omega
    have hoL : o ∈ L := hc o (by
      unfold Tb.cnt Py.cnt
      rw [eo]
      have : 0 < (putK k (T.of o).ks).length := List.length_pos_of_mem (mem_putK.2 (.inl rfl))
      show (putK k (T.of o).ks).length + _ ≠ 0
      omega)
    have hold := h.cnt L hL fun q hq => by
      by_cases e : q = o
      · rw [e]; exact hoL
      · exact hc q (by rw [hcz q e]; exact hq)
    have hs := sumN_turn (f := (T.give o k m).cnt) (g := T.cnt) hcz hL hoL
    rw [give_many, hold]
    rw [hco] at hs
    by_cases e : k ∈ (T.of o).ks
    · rw [if_pos e] at hs ⊢
      have : sumN (T.give o k m).cnt L = sumN T.cnt L := by omega
      rw [this]
    · rw [if_neg e] at hs ⊢
      have : sumN (T.give o k m).cnt L = sumN T.cnt L + 1 := by omega
      rw [this]
      simp
  · have e1 : (T.give o k m).oo = (T.made o).oo := by
      show ((T.made o).locked k).oo = _
      unfold Tb.locked
      cases (T.made o).lk k <;> rfl
    have e2 : (T.give o k m).py = updF ((T.ready o k).py) o (some { (T.ready o k).of o with ks := putK k ((T.ready o k).of o).ks }) := rfl
    have e3 : (T.ready o k).py = (T.made o).py := locked_py _ _
    rw [e1, e2, e3]
    unfold Tb.made
    cases e : T.py o with
    | none =>
      show q ∈ putK o T.oo ↔ _
      rw [mem_putK]
      by_cases eq : q = o
      · simp [eq, updF_same]
      · show q = o ∨ q ∈ T.oo ↔ (updF (updF T.py o (some Py.zero)) o _ q).isSome = true
        rw [updF_other _ _ eq, updF_other _ _ eq, ← h.om]
        simp [eq]
    | some p =>
      show q ∈ T.oo ↔ (updF T.py o _ q).isSome = true
      by_cases eq : q = o
      · rw [eq, updF_same, h.om, e]
        rfl
      · rw [updF_other _ _ eq]
        exact h.om q
  · have e1 : (T.give o k m).kk = (T.ready o k).kk := rfl
    have e3 : (T.ready o k).kk = if (T.lk k).isSome = true then T.kk else putK k T.kk := by
      unfold Tb.ready Tb.locked
      rw [made_lk]
      have : (T.made o).kk = T.kk := by unfold Tb.made; cases T.py o <;> rfl
      cases T.lk k with
      | none => show putK k (T.made o).kk = putK k T.kk; rw [this]
      | some l => exact this
    rw [e1, e3]
    by_cases ek : k' = k
    · subst ek
      rw [e0]
      by_cases e : (T.lk k').isSome = true
      · rw [if_pos e, h.km, e]; simp
      · rw [if_neg e]; simp [mem_putK]
    · rw [give_lk_other _ _ _ ek]
      by_cases e : (T.lk k).isSome = true
      · rw [if_pos e]
        exact h.km k'
      · rw [if_neg e, ← h.km]
        simp [mem_putK, ek]
  · show ((T.made o).locked k).oo.Nodup
    have : ((T.made o).locked k).oo = (T.made o).oo := by
      unfold Tb.locked
      cases (T.made o).lk k <;> rfl
    rw [this]
    unfold Tb.made
    cases T.py o with
    | none => exact nodup_putK h.ond
    | some p => exact h.ond
  · show ((T.made o).locked k).kk.Nodup
    have : (T.made o).kk = T.kk := by unfold Tb.made; cases T.py o <;> rfl
    unfold Tb.locked
    cases (T.made o).lk k with
    | none => show (putK k (T.made o).kk).Nodup; rw [this]; exact nodup_putK h.knd
    | some l => show (T.made o).kk.Nodup; rw [this]; exact h.knd
  · by_cases e : q = o
    · subst e
      rw [eo]
      exact nodup_putK (h.pnd q)
    · rw [give_of_other _ _ _ e]
      exact h.pnd q
  · have hq' : q ∈ (T.made o).oo := by
      have : ((T.made o).locked k).oo = (T.made o).oo := by
        unfold Tb.locked
        cases (T.made o).lk k <;> rfl
      rw [← this]
      exact hq
    unfold Tb.made at hq'
    cases e : T.py o with
    | none =>
      rw [e] at hq'
      rcases mem_putK.1 (show q ∈ putK o T.oo from hq') with e2 | e2
      · rw [e2]; exact ho
      · exact h.odm q e2
    | some p =>
      rw [e] at hq'
      exact h.odm q hq'
  · have hk2 : k' ∈ ((T.made o).locked k).kk := hk'
    have e5 : (T.made o).kk = T.kk := by unfold Tb.made; cases T.py o <;> rfl
    unfold Tb.locked at hk2
    cases e : (T.made o).lk k with
    | none =>
      rw [e] at hk2
      rcases mem_putK.1 (show k' ∈ putK k (T.made o).kk from hk2) with e2 | e2
      · rw [e2]; exact hk
      · rw [e5] at e2; exact h.kdm k' e2
    | some l =>
      rw [e] at hk2
      have : k' ∈ (T.made o).kk := hk2
      rw [e5] at this
      exact h.kdm k' this
end
end Go.Proofs.YtadopbpfnnpnaaaGreat

