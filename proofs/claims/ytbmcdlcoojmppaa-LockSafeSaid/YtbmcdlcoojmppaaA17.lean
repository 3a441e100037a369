/-
  Texts on locks, put together: LkAlone LkInv LkInv2 LkInv3 LkInv4.
-/
import Derived.Test.YtbmcdlcoojmppaaA16
/-
  One owner that asks alone: what the table is then.
-/
namespace Go.Proofs.Ytbmcdlcoojmppaa
open Go.RowKit Go.Maps

structure Alone (T : Tb) (o : Nat) (n : Nat) : Prop where
  ok : T.Ok
  md : (T.of o).mode = 0
  lk : ∀ k l, T.lk k = some l → l.hs = [o] ∧ l.line = [] ∧ (l.mode = 1 ∨ l.mode = 2) ∧ k ∈ (T.of o).ks
  many : T.many = ((T.of o).ks.length : Int)
  nd : (T.of o).ks.Nodup
  ln : (T.of o).ks.length ≤ n
  oo : T.oo.length ≤ n
  kk : T.kk.length ≤ n
theorem putK_new {α : Type} [DecidableEq α] {a : α} {ks : List α} (h : a ∉ ks) : putK a ks = a :: ks := by unfold putK; rw [if_neg h]
theorem putK_old {α : Type} [DecidableEq α] {a : α} {ks : List α} (h : a ∈ ks) : putK a ks = ks := by unfold putK; rw [if_pos h]
section
variable {T : Tb} {o n : Nat}
theorem alone_new (o : Nat) : Alone Tb.new o 0 := ⟨new_ok, rfl, (fun _ _ h => by cases h), rfl, List.nodup_nil, Nat.le_refl _, Nat.le_refl _, Nat.le_refl _⟩
theorem ready_many (T : Tb) (o : Nat) (k : Key) : (T.ready o k).many = T.many := by
  unfold Tb.ready Tb.locked Tb.made
  cases T.py o <;> dsimp only <;> cases T.lk k <;> rfl
theorem ready_oo (T : Tb) (o : Nat) (k : Key) : (T.ready o k).oo.length ≤ T.oo.length + 1 := by
  unfold Tb.ready Tb.locked Tb.made
  cases T.py o <;> dsimp only <;> cases T.lk k <;> dsimp only <;> first | exact putK_len _ _ | omega
theorem ready_kk (T : Tb) (o : Nat) (k : Key) : (T.ready o k).kk.length ≤ T.kk.length + 1 := by
  unfold Tb.ready Tb.locked Tb.made
  cases T.py o <;> dsimp only <;> cases T.lk k <;> dsimp only <;> first | exact putK_len _ _ | omega
theorem give_many (T : Tb) (o : Nat) (k : Key) (m : Int) : (T.give o k m).many = if k ∈ (T.of o).ks then T.many else T.many + 1 := by
  unfold Tb.give
  show (if k ∈ ((T.ready o k).of o).ks then (T.ready o k).many else (T.ready o k).many + 1) = _
  rw [ready_of, ready_many]
theorem Alone.more (h : Alone T o n) : Alone T o (n + 1) := ⟨h.ok, h.md, h.lk, h.many, h.nd, Nat.le_succ_of_le h.ln, Nat.le_succ_of_le h.oo, Nat.le_succ_of_le h.kk⟩
theorem Alone.lkOf (h : Alone T o n) {k : Key} (hk : k ∈ (T.of o).ks) : T.lk k = some (T.lkOf k) ∧ (T.lkOf k).hs = [o] ∧ (T.lkOf k).line = [] ∧ ((T.lkOf k).mode = 1 ∨ (T.lkOf k).mode = 2) := by
  obtain ⟨l, h1, _⟩ := h.ok.holds o k hk
  rw [lkOf_of h1]
  exact ⟨h1, (h.lk k l h1).1, (h.lk k l h1).2.1, (h.lk k l h1).2.2.1⟩
theorem Alone.none (h : Alone T o n) {k : Key} (hk : k ∉ (T.of o).ks) : T.lk k = none := by
  cases e : T.lk k with
  | none => rfl
  | some l => exact absurd (h.lk k l e).2.2.2 hk
theorem Alone.may (h : Alone T o n) (k : Key) (m : Int) : T.may o k m = true := by
  unfold Tb.may
  cases e : T.lk k with
  | none => rfl
  | some l =>
    obtain ⟨h1, h2, h3, h4⟩ := h.lk k l e
    unfold Lk.fits
    simp [h1, h4]
theorem Alone.line (h : Alone T o n) (k : Key) : (T.lkOf k).line = [] := by
  unfold Tb.lkOf
  cases e : T.lk k with
  | none => rfl
  | some l => exact (h.lk k l e).2.1
theorem Alone.hs (h : Alone T o n) (k : Key) : (T.lkOf k).hs.length ≤ 1 := by
  unfold Tb.lkOf
  cases e : T.lk k with
  | none => exact Nat.zero_le _
  | some l =>
    show l.hs.length ≤ 1
    rw [(h.lk k l e).1]
    exact Nat.le_refl _
theorem Alone.give (h : Alone T o n) {k : Key} {m : Int} (hm : m = 1 ∨ m = 2) : Alone (T.give o k m) o (n + 1) := by
  have hh : putK o (T.lkOf k).hs = [o] := by
    by_cases hk : k ∈ (T.of o).ks
    · rw [(h.lkOf hk).2.1]
      simp [putK]
    · have : T.lkOf k = Lk.zero := by unfold Tb.lkOf; rw [h.none hk]; rfl
      rw [this]
      rfl
  have e1 := give_of_same T o k m
  refine ⟨give_ok h.ok (by rw [hh]; show 1 ≤ 1000000000; omega), by rw [e1]; exact h.md, fun k' l hl => ?_, ?_, by rw [e1]; exact nodup_putK h.nd, by rw [e1]; exact Nat.le_trans (putK_len _ _) (by have := h.ln; omega), Nat.le_trans (ready_oo T o k) (by have := h.oo; omega), Nat.le_trans (ready_kk T o k) (by have := h.kk; omega)⟩
  · by_cases ek : k' = k
    · subst ek
      rw [give_lkOf] at hl
      cases hl
      exact ⟨hh, h.line _, hm, by rw [e1]; exact mem_putK.2 (.inl rfl)⟩
    · rw [give_lk_other _ _ _ ek] at hl
      obtain ⟨a, b, c, d⟩ := h.lk k' l hl
      exact ⟨a, b, c, by rw [e1]; exact mem_putK.2 (.inr d)⟩
  · rw [give_many, e1]
    by_cases hk : k ∈ (T.of o).ks
    · rw [if_pos hk]
      show T.many = ((putK k (T.of o).ks).length : Int)
      rw [putK_old hk]
      exact h.many
    · rw [if_neg hk]
      show T.many + 1 = ((putK k (T.of o).ks).length : Int)
      rw [putK_new hk, h.many]
      simp
/-- It asks, and has it. -/
theorem Alone.ask (h : Alone T o n) (hn : n ≤ 1000) {k : Key} {m : Int} (hm : m = 1 ∨ m = 2) :
    ∃ T', T.ask o k m false = (0, T') ∧ Alone T' o (n + 1) ∧ (T'.of o).ks = putK k (T.of o).ks ∧ T'.hold o k = max (T.hold o k) m ∧ (∀ k', k' ≠ k → T'.hold o k' = T.hold o k') := by
  have hm0 : m ≠ 0 := by omega
  have hlt : T.many ≤ 1000 := by rw [h.many]; have := h.ln; omega
  by_cases hh : T.hold o k = m ∨ T.hold o k = 2
  · have hk : k ∈ (T.of o).ks := by
      by_cases hk : k ∈ (T.of o).ks
      · exact hk
      · have : T.hold o k = 0 := by unfold Tb.hold; rw [if_neg hk]
        omega
    refine ⟨T, ?_, h.more, (putK_old hk).symm, by omega, fun _ _ => rfl⟩
    unfold Tb.ask
    rw [if_neg (by simp [hm]), h.md, if_neg (by omega), if_neg (by simp), if_pos hh]
  · have hh0 : T.hold o k = 0 ∨ T.hold o k = 1 := by
      unfold Tb.hold at hh ⊢
      by_cases hk : k ∈ (T.of o).ks
      · rw [if_pos hk] at hh ⊢
        have := (h.lkOf hk).2.2.2
        omega
      · rw [if_neg hk]
        exact .inl rfl
    have e1 := give_of_same T o k m
    refine ⟨T.give o k m, ?_, h.give hm, by rw [e1], ?_, fun k' hk' => ?_⟩
    · unfold Tb.ask
      rw [if_neg (by simp [hm]), h.md, if_neg (by omega), if_neg (by simp), if_neg hh, if_neg (by omega), if_pos (h.may k m)]
    · have : (T.give o k m).hold o k = m := by
        unfold Tb.hold
        rw [e1, if_pos (mem_putK.2 (.inl rfl)), lkOf_of (give_lkOf T o k m)]
      rw [this]
      omega
    · unfold Tb.hold Tb.lkOf
      rw [e1, give_lk_other _ _ _ hk']
      simp [mem_putK, hk']
end
/-- Where nobody stands in a line nobody comes. -/
def Quiet (T : Tb) : Prop := ∀ k l, T.lk k = some l → l.line = []
section
variable {T : Tb}
theorem Quiet.lkOf (h : Quiet T) (k : Key) : (T.lkOf k).line = [] := by
  unfold Tb.lkOf
  cases e : T.lk k with
  | none => rfl
  | some l => exact h k l e
theorem Quiet.nextN (h : Quiet T) (n : Nat) (k : Key) (c : List Nat) : Tb.nextN n T k c = (c, T) := nextN_nil (h.lkOf k)
theorem Quiet.nextC (h : Quiet T) (k : Key) : T.nextC k = [] := by unfold Tb.nextC; rw [h.nextN]
theorem Quiet.nextT0 (h : Quiet T) (k : Key) : T.nextT0 k = T := by unfold Tb.nextT0; rw [h.nextN]
theorem Quiet.nextT (h : Quiet T) (k : Key) : Quiet (T.nextT k) ∧ (T.nextT k).many = T.many ∧ (T.nextT k).oo = T.oo ∧ (T.nextT k).kk.length ≤ T.kk.length ∧ ∀ k', k' ≠ k → (T.nextT k).lk k' = T.lk k' := by
  unfold Tb.nextT
  rw [h.nextT0]
  split
  · refine ⟨fun k' l hl => ?_, rfl, rfl, delK_len _ _, fun k' hk' => updF_other _ _ hk'⟩
    by_cases ek : k' = k
    · subst ek
      have : updF T.lk k' none k' = some l := hl
      rw [updF_same] at this
      cases this
    · exact h k' l ((updF_other T.lk none ek).symm.trans hl)
  · exact ⟨h, rfl, rfl, Nat.le_refl _, fun _ _ => rfl⟩
theorem Quiet.nexts : ∀ (ks : List Key) (T : Tb), Quiet T → T.nextsC ks = [] ∧ (T.nextsT ks).many = T.many
  | [], T, h => ⟨rfl, rfl⟩
  | k :: r, T, h => by
    obtain ⟨h1, h2, -⟩ := h.nextT k
    obtain ⟨a, b⟩ := Quiet.nexts r (T.nextT k) h1
    exact ⟨by show T.nextC k ++ (T.nextT k).nextsC r = []; rw [h.nextC, a]; rfl, b.trans h2⟩
theorem Quiet.ng : ∀ (ks : List Key) (T : Tb), Quiet T → ks.Nodup → (∀ k, k ∈ ks → KL.dom k ∧ ∃ l, T.lk k = some l ∧ l.hs.length ≤ 1000000000) → T.oo.length ≤ 1000000000 → T.kk.length ≤ 1000000000 → 0 ≤ T.many → T.many ≤ 1000000000 → T.NG ks
  | [], T, _, _, _, _, _, _, _ => trivial
  | k :: r, T, h, hn, hk, ho, hkk, hm, hm2 => by
    obtain ⟨hd, l, hl, hs⟩ := hk k (by simp)
    obtain ⟨h1, h2, h3, h4, h5⟩ := h.nextT k
    have hn2 := List.nodup_cons.1 hn
    refine ⟨hd, by rw [hl]; rfl, fun n _ => ?_, Quiet.ng r (T.nextT k) h1 hn2.2 (fun k' hk' => ?_) (by rw [h3]; exact ho) (Nat.le_trans h4 hkk) (by rw [h2]; exact hm) (by rw [h2]; exact hm2)⟩
    · rw [h.nextN]
      refine ⟨by rw [lkOf_of hl]; exact hs, by rw [h.lkOf]; exact Nat.zero_le _, ho, hkk, Int.le_trans (by decide) hm, hm2, fun o m r e => ?_⟩
      rw [h.lkOf] at e
      cases e
    · have hne : k' ≠ k := fun e => hn2.1 (e ▸ hk')
      obtain ⟨d, l', e1, e2⟩ := hk k' (by simp [hk'])
      exact ⟨d, l', (h5 k' hne).trans e1, e2⟩
end
section
variable {T : Tb} {o n : Nat}
theorem Alone.left (h : Alone T o n) (hn : n ≤ 1000) (hd : ∀ k, k ∈ (T.of o).ks → KL.dom k) (hs : ∀ k, k ∈ sortK (T.of o).ks ↔ k ∈ (T.of o).ks) (hnd : (sortK (T.of o).ks).Nodup) :
    (T.left o).NG (sortK (T.of o).ks) ∧ (T.left o).nextsC (sortK (T.of o).ks) = [] ∧ ((T.left o).nextsT (sortK (T.of o).ks)).many = 0 := by
  have hlk : ∀ k, (T.left o).lk k = if k ∈ sortK (T.of o).ks then (T.lk k).map fun l => { l with hs := delK o l.hs } else T.lk k := fun k => rfl
  have hq : Quiet (T.left o) := fun k l hl => by
    rw [hlk] at hl
    split at hl
    · cases e : T.lk k with
      | none => rw [e] at hl; cases hl
      | some l0 =>
        rw [e] at hl
        cases hl
        exact (h.lk k l0 e).2.1
    · exact (h.lk k l hl).2.1
  have hm : (T.left o).many = 0 := by
    show T.many - ((T.of o).ks.length : Int) = 0
    rw [h.many]
    omega
  obtain ⟨a, b⟩ := Quiet.nexts (sortK (T.of o).ks) (T.left o) hq
  refine ⟨Quiet.ng _ _ hq hnd (fun k hk => ?_) ?_ ?_ (by rw [hm]; decide) (by rw [hm]; decide), a, b.trans hm⟩
  · have hk2 := (hs k).1 hk
    obtain ⟨e1, e2, -⟩ := h.lkOf hk2
    refine ⟨hd k hk2, _, by rw [hlk, if_pos hk, e1]; rfl, ?_⟩
    exact Nat.le_trans (delK_len _ _) (by rw [e2]; show 1 ≤ 1000000000; omega)
  · exact Nat.le_trans (delK_len _ _) (by have := h.oo; omega)
  · exact Nat.le_trans (show (T.left o).kk.length ≤ n from h.kk) (by omega)
end
end Go.Proofs.Ytbmcdlcoojmppaa

/-
  What is always right of a table of locks, and in the midst of letting go (X: the keys that are still to be gone through).
-/
namespace Go.Proofs.Ytbmcdlcoojmppaa
open Go.RowKit Go.Maps

theorem nodup_le {α : Type} [DecidableEq α] : ∀ (l1 l2 : List α), l1.Nodup → (∀ a, a ∈ l1 → a ∈ l2) → l1.length ≤ l2.length
  | [], _, _, _ => Nat.zero_le _
  | a :: r, l2, h, hs => by
    obtain ⟨h1, h2⟩ := List.nodup_cons.1 h
    have ha := hs a (by simp)
    have hr := nodup_le r (l2.erase a) h2 fun b hb => by
      have hne : b ≠ a := fun e => h1 (e ▸ hb)
      exact (List.mem_erase_of_ne hne).2 (hs b (by simp [hb]))
    have h3 := List.length_erase_of_mem ha
    have h4 : 0 < l2.length := List.length_pos_of_mem ha
    simp only [List.length_cons]
    omega
/-- How many locks an owner has, with the one that it waits for. -/
def Py.cnt (p : Py) : Nat := p.ks.length + if p.mode = 0 then 0 else 1
def Tb.cnt (T : Tb) (o : Nat) : Nat := (T.of o).cnt
def sumN (f : Nat → Nat) : List Nat → Nat
  | [] => 0
  | a :: r => f a + sumN f r
theorem sumN_same {f g : Nat → Nat} : ∀ {L : List Nat}, (∀ a, a ∈ L → f a = g a) → sumN f L = sumN g L
  | [], _ => rfl
  | a :: r, h => by
    unfold sumN
    rw [h a (by simp), sumN_same fun b hb => h b (by simp [hb])]
theorem sumN_turn {f g : Nat → Nat} {o : Nat} (hfg : ∀ a, a ≠ o → f a = g a) : ∀ {L : List Nat}, L.Nodup → o ∈ L → sumN f L + g o = sumN g L + f o
  | [], _, h => by cases h
  | a :: r, hn, h => by
    obtain ⟨h1, h2⟩ := List.nodup_cons.1 hn
    unfold sumN
    by_cases e : a = o
    · subst e
      rw [sumN_same (f := f) (g := g) (L := r) fun b hb => hfg b fun e2 => h1 (e2 ▸ hb)]
      omega
    · have h3 : o ∈ r := by
        rcases List.mem_cons.1 h with e2 | e2
        · exact absurd e2.symm e
        · exact e2
      have := sumN_turn hfg h2 h3
      rw [hfg a e]
      omega
theorem sumN_none {f : Nat → Nat} : ∀ {L : List Nat}, (∀ a, a ∈ L → f a = 0) → sumN f L = 0
  | [], _ => rfl
  | a :: r, h => by
    unfold sumN
    rw [h a (by simp), sumN_none fun b hb => h b (by simp [hb])]
theorem sumN_le {f : Nat → Nat} {n : Nat} : ∀ {L : List Nat}, (∀ a, a ∈ L → f a ≤ n) → sumN f L ≤ L.length * n
  | [], _ => Nat.zero_le _
  | a :: r, h => by
    unfold sumN
    have h1 := h a (by simp)
    have h2 := sumN_le (f := f) (n := n) (L := r) fun b hb => h b (by simp [hb])
    simp only [List.length_cons, Nat.add_mul, Nat.one_mul]
    omega

structure LkIn (T : Tb) (k : Key) (l : Lk) : Prop where
  hnd : l.hs.Nodup
  hk : ∀ o, o ∈ l.hs → k ∈ (T.of o).ks
  md : l.hs ≠ [] → l.mode = 1 ∨ l.mode = 2
  one : l.mode = 2 → l.hs.length ≤ 1
  lnd : (l.line.map Prod.fst).Nodup
  lw : ∀ o m, (o, m) ∈ l.line → (T.of o).key = k ∧ (T.of o).mode = m ∧ (m = 1 ∨ m = 2)
  up : ∀ x r, l.line = x :: r → ∀ y, y ∈ r → y.1 ∉ l.hs
/-- The first one of a line may not have it. -/
def Stuck (l : Lk) : Prop := ∀ o m r, l.line = (o, m) :: r → l.fits o m = false
structure InvX (X : Key → Prop) (T : Tb) : Prop where
  holds : ∀ o k, k ∈ (T.of o).ks → ∃ l, T.lk k = some l ∧ o ∈ l.hs
  key : ∀ o, KL.dom (T.of o).key
  lk : ∀ k l, T.lk k = some l → LkIn T k l
  full : ∀ k l, T.lk k = some l → ¬ X k → l.hs ≠ [] ∧ Stuck l
  wt : ∀ o, (T.of o).mode ≠ 0 → ∃ l, T.lk (T.of o).key = some l ∧ (o, (T.of o).mode) ∈ l.line
  w0 : ∀ o, (T.of o).mode = 0 → (T.of o).key = (0, 0)
  cnt : ∀ L : List Nat, L.Nodup → (∀ o, T.cnt o ≠ 0 → o ∈ L) → T.many = (sumN T.cnt L : Int)
  om : ∀ o, o ∈ T.oo ↔ (T.py o).isSome = true
  km : ∀ k, k ∈ T.kk ↔ (T.lk k).isSome = true
  ond : T.oo.Nodup
  knd : T.kk.Nodup
  pnd : ∀ o, (T.of o).ks.Nodup
  odm : ∀ o, o ∈ T.oo → KO.dom o
  kdm : ∀ k, k ∈ T.kk → KL.dom k
abbrev Inv (T : Tb) : Prop := InvX (fun _ => False) T
section
variable {X : Key → Prop} {T : Tb}
theorem InvX.wide (h : InvX X T) {Y : Key → Prop} (hy : ∀ k, X k → Y k) : InvX Y T := ⟨h.holds, h.key, h.lk, fun k l hl hn => h.full k l hl fun e => hn (hy k e), h.wt, h.w0, h.cnt, h.om, h.km, h.ond, h.knd, h.pnd, h.odm, h.kdm⟩
theorem py_none {T : Tb} {o : Nat} (h : T.py o = none) : T.of o = Py.zero := by unfold Tb.of; rw [h]; rfl
theorem InvX.some_py (h : InvX X T) {o : Nat} (hc : T.of o ≠ Py.zero) : o ∈ T.oo := by
  rw [h.om]
  cases e : T.py o with
  | none => exact absurd (py_none e) hc
  | some p => rfl
theorem InvX.in_oo (h : InvX X T) {k : Key} {l : Lk} (hl : T.lk k = some l) {o : Nat} (ho : o ∈ l.hs) : o ∈ T.oo := h.some_py fun e => by
  have := (h.lk k l hl).hk o ho
  rw [e] at this
  cases this
theorem InvX.line_oo (h : InvX X T) {k : Key} {l : Lk} (hl : T.lk k = some l) {o : Nat} {m : Int} (ho : (o, m) ∈ l.line) : o ∈ T.oo := h.some_py fun e => by
  obtain ⟨-, h2, h3⟩ := (h.lk k l hl).lw o m ho
  rw [e] at h2
  have : (0 : Int) = m := h2
  omega
theorem InvX.hs_le (h : InvX X T) {k : Key} {l : Lk} (hl : T.lk k = some l) : l.hs.length ≤ T.oo.length := nodup_le _ _ (h.lk k l hl).hnd fun _ ho => h.in_oo hl ho
theorem InvX.line_le (h : InvX X T) {k : Key} {l : Lk} (hl : T.lk k = some l) : l.line.length ≤ T.oo.length := by
  have := nodup_le _ T.oo (h.lk k l hl).lnd fun o ho => by
    obtain ⟨⟨o', m⟩, h1, rfl⟩ := List.mem_map.1 ho
    exact h.line_oo hl h1
  simpa using this
theorem InvX.ks_le (h : InvX X T) (o : Nat) : (T.of o).ks.length ≤ T.kk.length := nodup_le _ _ (h.pnd o) fun k hk => by
  obtain ⟨l, h1, _⟩ := h.holds o k hk
  rw [h.km, h1]
  rfl
theorem InvX.lkOf_hs (h : InvX X T) (k : Key) : (T.lkOf k).hs.length ≤ T.oo.length := by
  unfold Tb.lkOf
  cases e : T.lk k with
  | none => exact Nat.zero_le _
  | some l => exact h.hs_le e
theorem InvX.lkOf_line (h : InvX X T) (k : Key) : (T.lkOf k).line.length ≤ T.oo.length := by
  unfold Tb.lkOf
  cases e : T.lk k with
  | none => exact Nat.zero_le _
  | some l => exact h.line_le e
theorem InvX.ok (h : InvX X T) (hn : T.oo.length ≤ 1000000000) : T.Ok := ⟨h.holds, fun _ _ hl => Nat.le_trans (h.hs_le hl) hn, fun _ _ hl => Nat.le_trans (h.line_le hl) hn, h.key⟩
/-- What an owner has is at most all keys, and one. -/
theorem InvX.many (h : InvX X T) : 0 ≤ T.many ∧ T.many ≤ ((T.oo.length * (T.kk.length + 1) : Nat) : Int) := by
  have h1 := h.cnt T.oo h.ond fun o ho => h.some_py fun e => ho (by unfold Tb.cnt; rw [e]; rfl)
  have h2 : sumN T.cnt T.oo ≤ T.oo.length * (T.kk.length + 1) := sumN_le fun o _ => by
    have := h.ks_le o
    unfold Tb.cnt Py.cnt
    split <;> omega
  rw [h1]
  omega
theorem InvX.lkOf_in (h : InvX X T) {k : Key} (hl : (T.lk k).isSome = true) : LkIn T k (T.lkOf k) := by
  obtain ⟨l, e⟩ := Option.isSome_iff_exists.1 hl
  rw [lkOf_of e]
  exact h.lk k l e
theorem InvX.fit_one (h : InvX X T) {k : Key} {o : Nat} {m : Int} (hm : m = 1 ∨ m = 2) (hf : (T.lkOf k).fits o m = true) (hnd : (T.lkOf k).hs.Nodup) : (∀ q, q ∈ (T.lkOf k).hs → q = o) ∨ m = 1 ∧ (T.lkOf k).mode = 1 := by
  unfold Lk.fits at hf
  simp only [Bool.or_eq_true, decide_eq_true_eq] at hf
  rcases hf with hf | hf
  · refine .inl fun q hq => ?_
    by_cases ho : o ∈ (T.lkOf k).hs
    · rw [if_pos ho] at hf
      have h1 : (T.lkOf k).hs.length = 1 := by omega
      match he : (T.lkOf k).hs, h1 with
      | [a], _ =>
        rw [he] at hq ho
        simp at hq ho
        rw [hq, ho]
    · rw [if_neg ho] at hf
      have h1 : (T.lkOf k).hs.length = 0 := by omega
      rw [List.eq_nil_of_length_eq_zero h1] at hq
      cases hq
  · unfold tog at hf
    simp at hf
    exact .inr hf
/-- One comes to a key. -/
theorem give_inv (h : InvX X T) {o : Nat} {k : Key} {m : Int} (ho : KO.dom o) (hk : KL.dom k) (hw : (T.of o).mode = 0) (hm : m = 1 ∨ m = 2) (hf : (T.lkOf k).fits o m = true)
    (hx : ¬ X k → ∀ o' m' r, (T.lkOf k).line = (o', m') :: r → ({ T.lkOf k with mode := m, hs := putK o (T.lkOf k).hs } : Lk).fits o' m' = false) : InvX X (T.give o k m) := by
  have e0 := give_lkOf T o k m
  have eo := give_of_same T o k m
  have hlk : (T.lkOf k).hs.Nodup ∧ ((T.lkOf k).line.map Prod.fst).Nodup ∧ (∀ q, q ∈ (T.lkOf k).hs → k ∈ (T.of q).ks) ∧ (∀ q m', (q, m') ∈ (T.lkOf k).line → (T.of q).key = k ∧ (T.of q).mode = m' ∧ (m' = 1 ∨ m' = 2)) ∧ (∀ x r, (T.lkOf k).line = x :: r → ∀ y, y ∈ r → y.1 ∉ (T.lkOf k).hs) := by
    unfold Tb.lkOf
    cases e : T.lk k with
    | none => exact ⟨List.nodup_nil, List.nodup_nil, (fun _ h => by cases h), (fun _ _ h => by cases h), (fun _ _ h => by cases h)⟩
    | some l => exact ⟨(h.lk k l e).hnd, (h.lk k l e).lnd, (h.lk k l e).hk, (h.lk k l e).lw, (h.lk k l e).up⟩
  obtain ⟨a1, a2, a3, a4, a5⟩ := hlk
  have hks : ∀ q k', k' ∈ ((T.give o k m).of q).ks ↔ (q = o ∧ k' = k) ∨ k' ∈ (T.of q).ks := fun q k' => by
    by_cases e : q = o
    · subst e
      rw [eo, mem_putK]
      simp
    · rw [give_of_other _ _ _ e]
      simp [e]
  have hmd : ∀ q, ((T.give o k m).of q).mode = (T.of q).mode ∧ ((T.give o k m).of q).key = (T.of q).key := fun q => by
    by_cases e : q = o
    · subst e
      rw [eo]
      exact ⟨rfl, rfl⟩
    · rw [give_of_other _ _ _ e]
      exact ⟨rfl, rfl⟩
  have hone : m = 2 → (putK o (T.lkOf k).hs).length ≤ 1 := fun e2 => by
    rcases h.fit_one hm hf a1 with h1 | h1
    · have := nodup_le (putK o (T.lkOf k).hs) [o] (nodup_putK a1) fun q hq => by
        rcases mem_putK.1 hq with e | e
        · rw [e]; simp
        · rw [h1 q e]; simp
      simpa using this
    · omega
  have hnl : ∀ k' l m', T.lk k' = some l → (o, m') ∉ l.line := fun k' l m' hl hin => by
    obtain ⟨-, h2, h3⟩ := (h.lk k' l hl).lw o m' hin
    rw [hw] at h2
    omega
  refine ⟨fun q k' hq => ?_, fun q => by rw [(hmd q).2]; exact h.key q, fun k' l hl => ?_, fun k' l hl hn => ?_, fun q hq => ?_, fun q hq => ?_, fun L hL hc => ?_, fun q => ?_, fun k' => ?_, ?_, ?_, fun q => ?_, fun q hq => ?_, fun k' hk' => ?_⟩
  · by_cases ek : k' = k
    · subst ek
      refine ⟨_, e0, mem_putK.2 ?_⟩
      rcases (hks q k').1 hq with ⟨e, _⟩ | e
      · exact .inl e
      · obtain ⟨l, h1, h2⟩ := h.holds q k' e
        rw [lkOf_of h1]
        exact .inr h2
    · rw [give_lk_other _ _ _ ek]
      rcases (hks q k').1 hq with ⟨_, e⟩ | e
      · exact absurd e ek
      · exact h.holds q k' e
  · by_cases ek : k' = k
    · subst ek
      rw [e0] at hl
      cases hl
      refine ⟨nodup_putK a1, fun q hq => (hks q k').2 ?_, fun _ => hm, hone, a2, fun q m' hq => ?_, fun x r hx y hy hin => ?_⟩
      · rcases mem_putK.1 hq with e | e
        · exact .inl ⟨e, rfl⟩
        · exact .inr (a3 q e)
      · rw [(hmd q).1, (hmd q).2]
        exact a4 q m' hq
      · rcases mem_putK.1 hin with e | e
        · have hy2 : y ∈ (T.lkOf k').line := by rw [show (T.lkOf k').line = x :: r from hx]; simp [hy]
          obtain ⟨y1, y2⟩ := y
          obtain ⟨-, h2, h3⟩ := a4 y1 y2 hy2
          have e' : y1 = o := e
          subst e'
          rw [hw] at h2
          omega
        · exact a5 x r hx y hy e
    · rw [give_lk_other _ _ _ ek] at hl
      have := h.lk k' l hl
      exact ⟨this.hnd, fun q hq => (hks q k').2 (.inr (this.hk q hq)), this.md, this.one, this.lnd, fun q m' hq => by rw [(hmd q).1, (hmd q).2]; exact this.lw q m' hq, this.up⟩
  · by_cases ek : k' = k
    · subst ek
      rw [e0] at hl
      cases hl
      exact ⟨(fun e => by have h9 : o ∈ putK o (T.lkOf k').hs := mem_putK.2 (.inl rfl); rw [show putK o (T.lkOf k').hs = [] from e] at h9; cases h9), fun o' m' r hr => hx hn o' m' r hr⟩
    · rw [give_lk_other _ _ _ ek] at hl
      exact h.full k' l hl hn
  · rw [(hmd q).1] at hq
    rw [(hmd q).1, (hmd q).2]
    obtain ⟨l, h1, h2⟩ := h.wt q hq
    by_cases ek : (T.of q).key = k
    · rw [ek] at h1 ⊢
      refine ⟨_, e0, ?_⟩
      rw [lkOf_of h1]
      exact h2
    · exact ⟨l, by rw [give_lk_other _ _ _ ek]; exact h1, h2⟩
  · rw [(hmd q).1] at hq
    rw [(hmd q).2]
    exact h.w0 q hq
  · have hcz : ∀ q, q ≠ o → (T.give o k m).cnt q = T.cnt q := fun q e => by unfold Tb.cnt; rw [give_of_other _ _ _ e]
    have hco : (T.give o k m).cnt o = T.cnt o + if k ∈ (T.of o).ks then 0 else 1 := by
      unfold Tb.cnt Py.cnt
      rw [eo]
      show (putK k (T.of o).ks).length + _ = _
      by_cases e : k ∈ (T.of o).ks
      · rw [if_pos e, putK_old e]
        rfl
      · rw [if_neg e, putK_new e]
        show (T.of o).ks.length + 1 + (if (T.of o).mode = 0 then 0 else 1) = _
        omega
    have hoL : o ∈ L := hc o (by
      unfold Tb.cnt Py.cnt
      rw [eo]
      have : 0 < (putK k (T.of o).ks).length := List.length_pos_of_mem (mem_putK.2 (.inl rfl))
      show (putK k (T.of o).ks).length + _ ≠ 0
      omega)
    have hold := h.cnt L hL fun q hq => by
      by_cases e : q = o
      · rw [e]; exact hoL
      · exact hc q (by rw [hcz q e]; exact hq)
    have hs := sumN_turn (f := (T.give o k m).cnt) (g := T.cnt) hcz hL hoL
    rw [give_many, hold]
    rw [hco] at hs
    by_cases e : k ∈ (T.of o).ks
    · rw [if_pos e] at hs ⊢
      have : sumN (T.give o k m).cnt L = sumN T.cnt L := by omega
      rw [this]
    · rw [if_neg e] at hs ⊢
      have : sumN (T.give o k m).cnt L = sumN T.cnt L + 1 := by omega
      rw [this]
      simp
  · have e1 : (T.give o k m).oo = (T.made o).oo := by
      show ((T.made o).locked k).oo = _
      unfold Tb.locked
      cases (T.made o).lk k <;> rfl
    have e2 : (T.give o k m).py = updF ((T.ready o k).py) o (some { (T.ready o k).of o with ks := putK k ((T.ready o k).of o).ks }) := rfl
    have e3 : (T.ready o k).py = (T.made o).py := locked_py _ _
    rw [e1, e2, e3]
    unfold Tb.made
    cases e : T.py o with
    | none =>
      show q ∈ putK o T.oo ↔ _
      rw [mem_putK]
      by_cases eq : q = o
      · simp [eq, updF_same]
      · show q = o ∨ q ∈ T.oo ↔ (updF (updF T.py o (some Py.zero)) o _ q).isSome = true
        rw [updF_other _ _ eq, updF_other _ _ eq, ← h.om]
        simp [eq]
    | some p =>
      show q ∈ T.oo ↔ (updF T.py o _ q).isSome = true
      by_cases eq : q = o
      · rw [eq, updF_same, h.om, e]
        rfl
      · rw [updF_other _ _ eq]
        exact h.om q
  · have e1 : (T.give o k m).kk = (T.ready o k).kk := rfl
    have e3 : (T.ready o k).kk = if (T.lk k).isSome = true then T.kk else putK k T.kk := by
      unfold Tb.ready Tb.locked
      rw [made_lk]
      have : (T.made o).kk = T.kk := by unfold Tb.made; cases T.py o <;> rfl
      cases T.lk k with
      | none => show putK k (T.made o).kk = putK k T.kk; rw [this]
      | some l => exact this
    rw [e1, e3]
    by_cases ek : k' = k
    · subst ek
      rw [e0]
      by_cases e : (T.lk k').isSome = true
      · rw [if_pos e, h.km, e]; simp
      · rw [if_neg e]; simp [mem_putK]
    · rw [give_lk_other _ _ _ ek]
      by_cases e : (T.lk k).isSome = true
      · rw [if_pos e]
        exact h.km k'
      · rw [if_neg e, ← h.km]
        simp [mem_putK, ek]
  · show ((T.made o).locked k).oo.Nodup
    have : ((T.made o).locked k).oo = (T.made o).oo := by
      unfold Tb.locked
      cases (T.made o).lk k <;> rfl
    rw [this]
    unfold Tb.made
    cases T.py o with
    | none => exact nodup_putK h.ond
    | some p => exact h.ond
  · show ((T.made o).locked k).kk.Nodup
    have : (T.made o).kk = T.kk := by unfold Tb.made; cases T.py o <;> rfl
    unfold Tb.locked
    cases (T.made o).lk k with
    | none => show (putK k (T.made o).kk).Nodup; rw [this]; exact nodup_putK h.knd
    | some l => show (T.made o).kk.Nodup; rw [this]; exact h.knd
  · by_cases e : q = o
    · subst e
      rw [eo]
      exact nodup_putK (h.pnd q)
    · rw [give_of_other _ _ _ e]
      exact h.pnd q
  · have hq' : q ∈ (T.made o).oo := by
      have : ((T.made o).locked k).oo = (T.made o).oo := by
        unfold Tb.locked
        cases (T.made o).lk k <;> rfl
      rw [← this]
      exact hq
    unfold Tb.made at hq'
    cases e : T.py o with
    | none =>
      rw [e] at hq'
      rcases mem_putK.1 (show q ∈ putK o T.oo from hq') with e2 | e2
      · rw [e2]; exact ho
      · exact h.odm q e2
    | some p =>
      rw [e] at hq'
      exact h.odm q hq'
  · have hk2 : k' ∈ ((T.made o).locked k).kk := hk'
    have e5 : (T.made o).kk = T.kk := by unfold Tb.made; cases T.py o <;> rfl
    unfold Tb.locked at hk2
    cases e : (T.made o).lk k with
    | none =>
      rw [e] at hk2
      rcases mem_putK.1 (show k' ∈ putK k (T.made o).kk from hk2) with e2 | e2
      · rw [e2]; exact hk
      · rw [e5] at e2; exact h.kdm k' e2
    | some l =>
      rw [e] at hk2
      have : k' ∈ (T.made o).kk := hk2
      rw [e5] at this
      exact h.kdm k' this
end
end Go.Proofs.Ytbmcdlcoojmppaa

/-
  What is always right of a table of locks: as the first of a line comes to it, and as a key is gone through.
-/
namespace Go.Proofs.Ytbmcdlcoojmppaa
open Go.RowKit Go.Maps

section
variable {X : Key → Prop} {T : Tb}
theorem pop_of_same (T : Tb) (k : Key) (o : Nat) (r : List (Nat × Int)) : (T.pop k o r).of o = { T.of o with key := (0, 0), mode := 0 } := by
  show (updF T.py o (some { T.of o with key := (0, 0), mode := 0 }) o).getD Py.zero = _
  rw [updF_same]
  rfl
theorem pop_of_other (T : Tb) (k : Key) {o o' : Nat} (r : List (Nat × Int)) (h : o' ≠ o) : (T.pop k o r).of o' = T.of o' := by
  show (updF T.py o (some { T.of o with key := (0, 0), mode := 0 }) o').getD Py.zero = _
  rw [updF_other _ _ h]
  rfl
theorem pop_lk_other (T : Tb) {k k' : Key} (o : Nat) (r : List (Nat × Int)) (h : k' ≠ k) : (T.pop k o r).lk k' = T.lk k' := updF_other _ _ h
theorem dom0 : KL.dom ((0 : Int), (0 : Int)) := ⟨⟨by decide, by decide⟩, ⟨by decide, by decide⟩⟩
theorem lk_some_of_line {T : Tb} {k : Key} {x : Nat × Int} {r : List (Nat × Int)} (hl : (T.lkOf k).line = x :: r) : ∃ l, T.lk k = some l ∧ T.lkOf k = l := by
  cases e : T.lk k with
  | none => unfold Tb.lkOf at hl; rw [e] at hl; cases hl
  | some l => exact ⟨l, rfl, lkOf_of e⟩
/-- The first one of a line goes out of it. -/
theorem pop_inv (h : InvX X T) {k : Key} {o : Nat} {m : Int} {r : List (Nat × Int)} (hx : X k) (hl : (T.lkOf k).line = (o, m) :: r) : InvX X (T.pop k o r) := by
  obtain ⟨l, el, eo⟩ := lk_some_of_line hl
  rw [eo] at hl
  have e0 : (T.pop k o r).lk k = some { l with line := r, pop := true } := by rw [pop_lk, eo]
  have hin := h.lk k l el
  obtain ⟨w1, w2, w3⟩ := hin.lw o m (by rw [hl]; simp)
  have hnd : o ∉ r.map Prod.fst ∧ (r.map Prod.fst).Nodup := by
    have := hin.lnd
    rw [hl] at this
    exact List.nodup_cons.1 this
  have hks := pop_of_ks T k o r
  have hother : ∀ q m', (q, m') ∈ r → q ≠ o := fun q m' hq e => hnd.1 (List.mem_map.2 ⟨(q, m'), hq, e⟩)
  have hpy : (T.py o).isSome = true := by
    cases e : T.py o with
    | none =>
      rw [py_none e] at w2
      have : (0 : Int) = m := w2
      omega
    | some p => rfl
  refine ⟨fun q k' hq => ?_, fun q => ?_, fun k' l' hl' => ?_, fun k' l' hl' hn => ?_, fun q hq => ?_, fun q hq => ?_, fun L hL hc => ?_, fun q => ?_, fun k' => ?_, h.ond, h.knd, fun q => by rw [hks]; exact h.pnd q, h.odm, h.kdm⟩
  · rw [hks] at hq
    obtain ⟨l', h1, h2⟩ := h.holds q k' hq
    by_cases ek : k' = k
    · subst ek
      rw [el] at h1
      cases h1
      exact ⟨_, e0, h2⟩
    · exact ⟨l', by rw [pop_lk_other _ _ _ ek]; exact h1, h2⟩
  · by_cases e : q = o
    · subst e
      rw [pop_of_same]
      exact dom0
    · rw [pop_of_other _ _ _ e]
      exact h.key q
  · by_cases ek : k' = k
    · subst ek
      rw [e0] at hl'
      cases hl'
      refine ⟨hin.hnd, fun q hq => by rw [hks]; exact hin.hk q hq, hin.md, hin.one, hnd.2, fun q m' hq => ?_, fun x r' hr y hy => ?_⟩
      · have hq' : (q, m') ∈ r := hq
        rw [pop_of_other _ _ _ (hother q m' hq')]
        exact hin.lw q m' (by rw [hl]; simp [hq'])
      · have hr' : r = x :: r' := hr
        exact hin.up (o, m) r hl y (by rw [hr']; simp [hy])
    · rw [pop_lk_other _ _ _ ek] at hl'
      have := h.lk k' l' hl'
      refine ⟨this.hnd, fun q hq => by rw [hks]; exact this.hk q hq, this.md, this.one, this.lnd, fun q m' hq => ?_, this.up⟩
      have hne : q ≠ o := fun e => by
        have := (this.lw q m' hq).1
        rw [e, w1] at this
        exact ek this.symm
      rw [pop_of_other _ _ _ hne]
      exact this.lw q m' hq
  · have ek : k' ≠ k := fun e => hn (e ▸ hx)
    rw [pop_lk_other _ _ _ ek] at hl'
    exact h.full k' l' hl' hn
  · have hne : q ≠ o := fun e => by
      rw [e, pop_of_same] at hq
      exact hq rfl
    rw [pop_of_other _ _ _ hne] at hq ⊢
    obtain ⟨l', h1, h2⟩ := h.wt q hq
    by_cases ek : (T.of q).key = k
    · rw [ek] at h1 ⊢
      rw [el] at h1
      cases h1
      refine ⟨_, e0, ?_⟩
      rw [hl] at h2
      rcases List.mem_cons.1 h2 with e | e
      · exact absurd (congrArg Prod.fst e) hne
      · exact e
    · exact ⟨l', by rw [pop_lk_other _ _ _ ek]; exact h1, h2⟩
  · by_cases e : q = o
    · subst e
      rw [pop_of_same]
    · rw [pop_of_other _ _ _ e] at hq ⊢
      exact h.w0 q hq
  · have hcz : ∀ q, q ≠ o → (T.pop k o r).cnt q = T.cnt q := fun q e => by unfold Tb.cnt; rw [pop_of_other _ _ _ e]
    have hco : T.cnt o = (T.pop k o r).cnt o + 1 := by
      unfold Tb.cnt Py.cnt
      rw [pop_of_same]
      show _ = (T.of o).ks.length + (if (0 : Int) = 0 then 0 else 1) + 1
      rw [if_pos rfl, w2, if_neg (by omega)]
    by_cases hoL : o ∈ L
    · have hold := h.cnt L hL fun q hq => by
        by_cases e : q = o
        · rw [e]; exact hoL
        · exact hc q (by rw [hcz q e]; exact hq)
      have hs := sumN_turn (f := (T.pop k o r).cnt) (g := T.cnt) hcz hL hoL
      show T.many - 1 = _
      rw [hold]
      have : sumN T.cnt L = sumN (T.pop k o r).cnt L + 1 := by omega
      rw [this]
      simp
    · have hold := h.cnt (o :: L) (List.nodup_cons.2 ⟨hoL, hL⟩) fun q hq => by
        by_cases e : q = o
        · rw [e]; simp
        · have := hc q (by rw [hcz q e]; exact hq)
          simp [this]
      have hz : (T.pop k o r).cnt o = 0 := by
        by_cases e : (T.pop k o r).cnt o = 0
        · exact e
        · exact absurd (hc o e) hoL
      show T.many - 1 = _
      rw [hold]
      have h2 : sumN (T.pop k o r).cnt L = sumN T.cnt L := sumN_same fun q hq => hcz q fun e => hoL (e ▸ hq)
      have h3 : sumN T.cnt (o :: L) = T.cnt o + sumN T.cnt L := rfl
      rw [h3, h2, hco, hz]
      simp
      omega
  · show q ∈ T.oo ↔ (updF T.py o _ q).isSome = true
    by_cases e : q = o
    · rw [e, updF_same, h.om, hpy]
      rfl
    · rw [updF_other _ _ e]
      exact h.om q
  · show k' ∈ T.kk ↔ _
    by_cases ek : k' = k
    · rw [ek, e0, h.km, el]
      rfl
    · rw [pop_lk_other _ _ _ ek]
      exact h.km k'
theorem give_oo {T : Tb} {o : Nat} (k : Key) (m : Int) (h : (T.py o).isSome = true) : (T.give o k m).oo = T.oo := by
  have e1 : (T.give o k m).oo = (T.made o).oo := by
    show ((T.made o).locked k).oo = _
    unfold Tb.locked
    cases (T.made o).lk k <;> rfl
  rw [e1]
  unfold Tb.made
  cases e : T.py o with
  | none => rw [e] at h; cases h
  | some p => rfl
theorem give_kk {T : Tb} (o : Nat) {k : Key} (m : Int) (h : (T.lk k).isSome = true) : (T.give o k m).kk = T.kk := by
  show ((T.made o).locked k).kk = _
  have h5 : (T.made o).kk = T.kk := by unfold Tb.made; cases T.py o <;> rfl
  unfold Tb.locked
  rw [made_lk]
  cases e : T.lk k with
  | none => rw [e] at h; cases h
  | some l => exact h5
/-- One step of going through a line. -/
theorem step_inv (h : InvX X T) {k : Key} {o : Nat} {m : Int} {r : List (Nat × Int)} (hx : X k) (hk : KL.dom k) (hl : (T.lkOf k).line = (o, m) :: r) (hf : (T.lkOf k).fits o m = true) :
    InvX X ((T.pop k o r).give o k m) ∧ ((T.pop k o r).give o k m).oo = T.oo ∧ ((T.pop k o r).give o k m).kk = T.kk ∧ (((T.pop k o r).give o k m).lkOf k).line = r ∧ (((T.pop k o r).give o k m).lk k).isSome = true := by
  obtain ⟨l, el, eo⟩ := lk_some_of_line hl
  have h1 := pop_inv h hx hl
  have e0 := pop_lk T k o r
  have e1 : (T.pop k o r).lkOf k = { T.lkOf k with line := r, pop := true } := lkOf_of e0
  have hoo := h.line_oo el (o := o) (m := m) (by rw [← eo, hl]; simp)
  obtain ⟨w1, w2, w3⟩ := (h.lk k l el).lw o m (by rw [← eo, hl]; simp)
  have hpy : ((T.pop k o r).py o).isSome = true := by
    show (updF T.py o _ o).isSome = true
    rw [updF_same]
    rfl
  have hf1 : ((T.pop k o r).lkOf k).fits o m = true := by rw [e1]; exact hf
  refine ⟨give_inv h1 (h.odm o hoo) hk (by rw [pop_of_same]) w3 hf1 (fun hn => absurd hx hn), by rw [give_oo k m hpy]; rfl, by rw [give_kk o m (by rw [e0]; rfl)]; rfl, ?_, ?_⟩
  · rw [lkOf_of (give_lkOf _ _ _ _), e1]
  · rw [give_lkOf]; rfl
/-- A line is gone through. -/
theorem nextN_inv {k : Key} (hx : X k) (hk : KL.dom k) : ∀ (n : Nat) (T : Tb) (c : List Nat), InvX X T → (T.lk k).isSome = true →
    InvX X (Tb.nextN n T k c).2 ∧ (Tb.nextN n T k c).2.oo = T.oo ∧ (Tb.nextN n T k c).2.kk = T.kk ∧ ((Tb.nextN n T k c).2.lk k).isSome = true ∧ ((T.lkOf k).line.length ≤ n → Stuck ((Tb.nextN n T k c).2.lkOf k))
  | 0, T, c, h, hs => ⟨h, rfl, rfl, hs, fun hn o m r hl => by
    have e : (T.lkOf k).line = (o, m) :: r := hl
    rw [e] at hn
    simp at hn⟩
  | n + 1, T, c, h, hs => by
    cases hl : (T.lkOf k).line with
    | nil =>
      rw [nextN_nil hl]
      exact ⟨h, rfl, rfl, hs, fun _ o m r e => by rw [hl] at e; cases e⟩
    | cons om r =>
      obtain ⟨o, m⟩ := om
      cases hf : (T.lkOf k).fits o m with
      | false =>
        rw [nextN_no hl hf]
        refine ⟨h, rfl, rfl, hs, fun _ o' m' r' e => ?_⟩
        have e2 : (T.lkOf k).line = (o', m') :: r' := e
        rw [hl] at e2
        cases e2
        exact hf
      | true =>
        rw [nextN_yes hl hf]
        obtain ⟨a1, a2, a3, a4, a5⟩ := step_inv h hx hk hl hf
        obtain ⟨b1, b2, b3, b4, b5⟩ := nextN_inv hx hk n ((T.pop k o r).give o k m) (c ++ [o]) a1 a5
        exact ⟨b1, b2.trans a2, b3.trans a3, b4, fun hn => b5 (by rw [a4]; simp at hn; exact hn)⟩
/-- What next_any asks of the way. -/
theorem InvX.good (h : InvX X T) {k : Key} (hs : (T.lk k).isSome = true) (ho : T.oo.length ≤ 10000) (hk : T.kk.length ≤ 10000) : T.Good k := by
  have hm := h.many
  have h1 : T.oo.length * (T.kk.length + 1) ≤ 10000 * 10001 := Nat.mul_le_mul ho (by omega)
  have h2 := h.lkOf_hs k
  have h3 := h.lkOf_line k
  refine ⟨by omega, by omega, by omega, by omega, by omega, by omega, fun o m r hl => ?_⟩
  obtain ⟨l, el, eo⟩ := lk_some_of_line hl
  have hoo := h.line_oo el (o := o) (m := m) (by rw [← eo, hl]; simp)
  exact ⟨h.odm o hoo, (h.om o).1 hoo, Nat.le_trans (h.ks_le o) (by omega)⟩
theorem nextN_good (h : InvX X T) {k : Key} (hx : X k) (hk : KL.dom k) (hs : (T.lk k).isSome = true) (ho : T.oo.length ≤ 10000) (hkk : T.kk.length ≤ 10000) (n : Nat) (c : List Nat) : (Tb.nextN n T k c).2.Good k := by
  obtain ⟨a1, a2, a3, a4, -⟩ := nextN_inv hx hk n T c h hs
  exact a1.good a4 (by rw [a2]; exact ho) (by rw [a3]; exact hkk)
theorem fits_none {l : Lk} {o : Nat} {m : Int} (h : l.hs = []) : l.fits o m = true := by
  unfold Lk.fits
  rw [h]
  simp
/-- A key is gone through. -/
theorem nextT_inv (h : InvX X T) {k : Key} (hx : X k) (hk : KL.dom k) (hs : (T.lk k).isSome = true) : InvX (fun k' => X k' ∧ k' ≠ k) (T.nextT k) ∧ (T.nextT k).oo = T.oo ∧ (T.nextT k).kk.length ≤ T.kk.length := by
  obtain ⟨a1, a2, a3, a4, a5⟩ := nextN_inv hx hk (T.lkOf k).line.length T [] h hs
  have a6 := a5 (Nat.le_refl _)
  unfold Tb.nextT
  obtain ⟨T0, hT0⟩ : ∃ T0, T0 = T.nextT0 k := ⟨_, rfl⟩
  have hT1 : T0 = (Tb.nextN (T.lkOf k).line.length T k []).2 := hT0
  rw [← hT1] at a1 a2 a3 a4 a6
  rw [← hT0]
  obtain ⟨l, hl⟩ := Option.isSome_iff_exists.1 a4
  rw [lkOf_of hl] at a6 ⊢
  split
  · rename_i h0
    have hline : l.line = [] := by
      cases e : l.line with
      | nil => rfl
      | cons x r =>
        obtain ⟨o, m⟩ := x
        have := a6 o m r e
        rw [fits_none h0] at this
        cases this
    have e1 : ∀ k', k' ≠ k → updF T0.lk k none k' = T0.lk k' := fun k' hh => updF_other _ _ hh
    have e2 : ∀ k' l', updF T0.lk k none k' = some l' → k' ≠ k ∧ T0.lk k' = some l' := fun k' l' hh => by
      by_cases ek : k' = k
      · subst ek
        rw [updF_same] at hh
        cases hh
      · exact ⟨ek, (e1 k' ek).symm.trans hh⟩
    refine ⟨⟨fun q k' hq => ?_, a1.key, fun k' l' hh => ?_, fun k' l' hh hn => ?_, fun q hq => ?_, a1.w0, a1.cnt, a1.om, fun k' => ?_, a1.ond, nodup_delK a1.knd, a1.pnd, a1.odm, fun k' hk' => a1.kdm k' (mem_delK.1 hk').1⟩, a2, Nat.le_trans (delK_len _ _) (by rw [a3]; exact Nat.le_refl _)⟩
    · obtain ⟨l', h1, h2⟩ := a1.holds q k' hq
      by_cases ek : k' = k
      · subst ek
        rw [hl] at h1
        cases h1
        rw [h0] at h2
        cases h2
      · exact ⟨l', (e1 k' ek).trans h1, h2⟩
    · have := a1.lk k' l' (e2 k' l' hh).2
      exact ⟨this.hnd, this.hk, this.md, this.one, this.lnd, this.lw, this.up⟩
    · exact a1.full k' l' (e2 k' l' hh).2 fun hX => hn ⟨hX, (e2 k' l' hh).1⟩
    · obtain ⟨l', h1, h2⟩ := a1.wt q hq
      by_cases ek : (T0.of q).key = k
      · rw [ek, hl] at h1
        cases h1
        rw [hline] at h2
        cases h2
      · exact ⟨l', (e1 _ ek).trans h1, h2⟩
    · show k' ∈ delK k T0.kk ↔ (updF T0.lk k none k').isSome = true
      rw [mem_delK, a1.km]
      by_cases ek : k' = k
      · rw [ek, updF_same]
        simp
      · rw [e1 k' ek]
        simp [ek]
  · rename_i h0
    refine ⟨⟨a1.holds, a1.key, a1.lk, fun k' l' hh hn => ?_, a1.wt, a1.w0, a1.cnt, a1.om, a1.km, a1.ond, a1.knd, a1.pnd, a1.odm, a1.kdm⟩, a2, by rw [a3]; exact Nat.le_refl _⟩
    by_cases ek : k' = k
    · subst ek
      rw [hl] at hh
      cases hh
      exact ⟨h0, a6⟩
    · exact a1.full k' l' hh fun hX => hn ⟨hX, ek⟩
end
end Go.Proofs.Ytbmcdlcoojmppaa

/-
  What is always right of a table of locks: as an owner leaves, and as one stands in a line.
-/
namespace Go.Proofs.Ytbmcdlcoojmppaa
open Go.RowKit Go.Maps

/-- A line without an owner. -/
def offLine (o : Nat) (ws : List (Nat × Int)) : List (Nat × Int) := ws.filter fun x => decide (x.1 ≠ o)
/-- What an owner leaves. -/
def Tb.lv (T : Tb) (o : Nat) : Tb :=
  if (T.of o).mode = 0 then T.left o else
    { T.left o with many := (T.left o).many - 1, lk := updF (T.left o).lk (T.of o).key (((T.left o).lk (T.of o).key).map fun l => { l with line := offLine o l.line }) }
/-- The keys that are gone through then. -/
def Tb.fks (T : Tb) (o : Nat) : List Key := if (T.of o).mode = 0 then sortK (T.of o).ks else sortK (putK (T.of o).key (T.of o).ks)
def Lk.off (l : Lk) (o : Nat) : Lk := { l with hs := delK o l.hs, line := offLine o l.line }
theorem delK_no {α : Type} [DecidableEq α] {a : α} {ks : List α} (h : a ∉ ks) : delK a ks = ks := by
  unfold delK
  rw [List.filter_eq_self]
  intro b hb
  simp
  intro e
  exact h (e ▸ hb)
theorem offLine_no {o : Nat} {ws : List (Nat × Int)} (h : ∀ m, (o, m) ∉ ws) : offLine o ws = ws := by
  unfold offLine
  rw [List.filter_eq_self]
  rintro ⟨a, b⟩ hb
  simp
  intro e
  exact h b (e ▸ hb)
theorem mem_offLine {o : Nat} {ws : List (Nat × Int)} {x : Nat × Int} : x ∈ offLine o ws ↔ x ∈ ws ∧ x.1 ≠ o := by
  unfold offLine
  rw [List.mem_filter]
  simp
section
variable {T : Tb} {o : Nat}
theorem mem_fks (T : Tb) (o : Nat) (k : Key) : k ∈ T.fks o ↔ k ∈ (T.of o).ks ∨ ((T.of o).mode ≠ 0 ∧ k = (T.of o).key) := by
  unfold Tb.fks
  split
  · rename_i h
    rw [(sortK_perm _).mem_iff]
    simp [h]
  · rename_i h
    rw [(sortK_perm _).mem_iff, mem_putK]
    constructor
    · rintro (e | e)
      · exact .inr ⟨h, e⟩
      · exact .inl e
    · rintro (e | ⟨_, e⟩)
      · exact .inr e
      · exact .inl e
theorem Inv.not_hs (h : Inv T) {k : Key} {l : Lk} (hl : T.lk k = some l) (hk : k ∉ (T.of o).ks) : o ∉ l.hs := fun e => hk ((h.lk k l hl).hk o e)
theorem Inv.not_line (h : Inv T) {k : Key} {l : Lk} (hl : T.lk k = some l) (hk : ¬ ((T.of o).mode ≠ 0 ∧ k = (T.of o).key)) (m : Int) : (o, m) ∉ l.line := fun e => by
  obtain ⟨h1, h2, h3⟩ := (h.lk k l hl).lw o m e
  exact hk ⟨by omega, h1.symm⟩
theorem lv_lk (h : Inv T) (o : Nat) (k : Key) : (T.lv o).lk k = (T.lk k).map fun l => l.off o := by
  have hlk : (T.left o).lk k = (T.lk k).map fun l => { l with hs := delK o l.hs } := by
    show (if k ∈ sortK (T.of o).ks then (T.lk k).map fun l => { l with hs := delK o l.hs } else T.lk k) = _
    split
    · rfl
    · rename_i hk
      rw [(sortK_perm _).mem_iff] at hk
      cases e : T.lk k with
      | none => rfl
      | some l =>
        show some l = some { l with hs := delK o l.hs }
        rw [delK_no (Inv.not_hs h e hk)]
  unfold Tb.lv
  split
  · rename_i hm
    rw [hlk]
    cases e : T.lk k with
    | none => rfl
    | some l =>
      show some _ = some (l.off o)
      unfold Lk.off
      rw [offLine_no (Inv.not_line h e (by simp [hm]))]
  · rename_i hm
    show updF (T.left o).lk (T.of o).key _ k = _
    by_cases ek : k = (T.of o).key
    · rw [← ek, updF_same, hlk]
      cases e : T.lk k with
      | none => rfl
      | some l => rfl
    · rw [updF_other _ _ ek, hlk]
      cases e : T.lk k with
      | none => rfl
      | some l =>
        show some _ = some (l.off o)
        unfold Lk.off
        rw [offLine_no (Inv.not_line h e (by simp [ek]))]
theorem lv_py (T : Tb) (o : Nat) : (T.lv o).py = updF T.py o none := by
  unfold Tb.lv
  split <;> rfl
theorem lv_of_same (T : Tb) (o : Nat) : (T.lv o).of o = Py.zero := by
  unfold Tb.of
  rw [lv_py, updF_same]
  rfl
theorem lv_of_other (T : Tb) (o : Nat) {q : Nat} (e : q ≠ o) : (T.lv o).of q = T.of q := by
  unfold Tb.of
  rw [lv_py, updF_other _ _ e]
theorem lv_many (T : Tb) (o : Nat) : (T.lv o).many = T.many - (T.cnt o : Int) := by
  unfold Tb.lv Tb.cnt Py.cnt
  split
  · show T.many - ((T.of o).ks.length : Int) = _
    simp
  · show T.many - ((T.of o).ks.length : Int) - 1 = _
    simp
    omega
theorem lv_oo (T : Tb) (o : Nat) : (T.lv o).oo = delK o T.oo := by
  unfold Tb.lv
  split <;> rfl
theorem lv_kk (T : Tb) (o : Nat) : (T.lv o).kk = T.kk := by
  unfold Tb.lv
  split <;> rfl
/-- An owner leaves. -/
theorem lv_inv (h : Inv T) (o : Nat) : InvX (fun k => k ∈ T.fks o) (T.lv o) := by
  have hlk := lv_lk h o
  have hsome : ∀ k l, (T.lv o).lk k = some l → ∃ l0, T.lk k = some l0 ∧ l = l0.off o := fun k l hl => by
    rw [hlk] at hl
    cases e : T.lk k with
    | none => rw [e] at hl; cases hl
    | some l0 => rw [e] at hl; cases hl; exact ⟨l0, rfl, rfl⟩
  refine ⟨fun q k hq => ?_, fun q => ?_, fun k l hl => ?_, fun k l hl hn => ?_, fun q hq => ?_, fun q hq => ?_, fun L hL hc => ?_, fun q => ?_, fun k => ?_, ?_, ?_, fun q => ?_, fun q hq => ?_, fun k hk => ?_⟩
  · by_cases e : q = o
    · subst e
      rw [lv_of_same] at hq
      cases hq
    · rw [lv_of_other _ _ e] at hq
      obtain ⟨l, h1, h2⟩ := h.holds q k hq
      exact ⟨l.off o, by rw [hlk, h1]; rfl, mem_delK.2 ⟨h2, e⟩⟩
  · by_cases e : q = o
    · subst e
      rw [lv_of_same]
      exact dom0
    · rw [lv_of_other _ _ e]
      exact h.key q
  · obtain ⟨l0, h1, rfl⟩ := hsome k l hl
    have hi := h.lk k l0 h1
    refine ⟨nodup_delK hi.hnd, fun q hq => ?_, fun e => hi.md fun e2 => e ?_, fun e => Nat.le_trans (delK_len _ _) (hi.one e), ?_, fun q m hq => ?_, fun x r hr y hy hin => ?_⟩
    · obtain ⟨a, b⟩ := mem_delK.1 hq
      rw [lv_of_other _ _ b]
      exact hi.hk q a
    · show delK o l0.hs = []
      rw [e2]
      rfl
    · exact List.Sublist.nodup (List.Sublist.map _ List.filter_sublist) hi.lnd
    · obtain ⟨a, b⟩ := mem_offLine.1 hq
      rw [lv_of_other _ _ b]
      exact hi.lw q m a
    · have hr' : offLine o l0.line = x :: r := hr
      have hin' := (mem_delK.1 hin).1
      cases e : l0.line with
      | nil => rw [e] at hr'; cases hr'
      | cons z s =>
        have hy2 : y ∈ s := by
          rw [e] at hr'
          unfold offLine at hr'
          by_cases hz : z.1 ≠ o
          · rw [List.filter_cons_of_pos (by simpa using hz)] at hr'
            cases hr'
            exact (List.mem_filter.1 hy).1
          · rw [List.filter_cons_of_neg (by simpa using hz)] at hr'
            have : y ∈ s.filter fun x => decide (x.1 ≠ o) := by rw [hr']; simp [hy]
            exact (List.mem_filter.1 this).1
        exact hi.up z s e y hy2 hin'
  · obtain ⟨l0, h1, rfl⟩ := hsome k l hl
    rw [mem_fks] at hn
    have e1 : delK o l0.hs = l0.hs := delK_no (Inv.not_hs h h1 fun e => hn (.inl e))
    have e2 : offLine o l0.line = l0.line := offLine_no (Inv.not_line h h1 fun e => hn (.inr e))
    have e3 : l0.off o = l0 := by
      unfold Lk.off
      rw [e1, e2]
    rw [e3]
    exact h.full k l0 h1 (fun e => e)
  · by_cases e : q = o
    · subst e
      rw [lv_of_same] at hq
      exact absurd rfl hq
    · rw [lv_of_other _ _ e] at hq ⊢
      obtain ⟨l, h1, h2⟩ := h.wt q hq
      exact ⟨l.off o, by rw [hlk, h1]; rfl, mem_offLine.2 ⟨h2, e⟩⟩
  · by_cases e : q = o
    · subst e
      rw [lv_of_same]
      rfl
    · rw [lv_of_other _ _ e] at hq ⊢
      exact h.w0 q hq
  · have hcz : ∀ q, q ≠ o → (T.lv o).cnt q = T.cnt q := fun q e => by unfold Tb.cnt; rw [lv_of_other _ _ e]
    have hco : (T.lv o).cnt o = 0 := by unfold Tb.cnt; rw [lv_of_same]; rfl
    rw [lv_many]
    by_cases hoL : o ∈ L
    · have hold := h.cnt L hL fun q hq => by
        by_cases e : q = o
        · rw [e]; exact hoL
        · exact hc q (by rw [hcz q e]; exact hq)
      have hs := sumN_turn (f := (T.lv o).cnt) (g := T.cnt) hcz hL hoL
      rw [hold]
      omega
    · have hold := h.cnt (o :: L) (List.nodup_cons.2 ⟨hoL, hL⟩) fun q hq => by
        by_cases e : q = o
        · rw [e]; simp
        · have := hc q (by rw [hcz q e]; exact hq)
          simp [this]
      have h2 : sumN (T.lv o).cnt L = sumN T.cnt L := sumN_same fun q hq => hcz q fun e => hoL (e ▸ hq)
      have h3 : sumN T.cnt (o :: L) = T.cnt o + sumN T.cnt L := rfl
      rw [hold, h2, h3]
      simp
      omega
  · rw [lv_oo, lv_py, mem_delK]
    by_cases e : q = o
    · rw [e, updF_same]
      simp
    · rw [updF_other _ _ e, ← h.om]
      simp [e]
  · rw [lv_kk, hlk, h.km]
    cases T.lk k <;> rfl
  · rw [lv_oo]
    exact nodup_delK h.ond
  · rw [lv_kk]
    exact h.knd
  · by_cases e : q = o
    · subst e
      rw [lv_of_same]
      exact List.nodup_nil
    · rw [lv_of_other _ _ e]
      exact h.pnd q
  · rw [lv_oo] at hq
    exact h.odm q (mem_delK.1 hq).1
  · rw [lv_kk] at hk
    exact h.kdm k hk
theorem nextN_lk_other {k k' : Key} (hk : k' ≠ k) : ∀ (n : Nat) (T : Tb) (c : List Nat), (Tb.nextN n T k c).2.lk k' = T.lk k'
  | 0, _, _ => rfl
  | n + 1, T, c => by
    cases hl : (T.lkOf k).line with
    | nil => rw [nextN_nil hl]
    | cons om r =>
      obtain ⟨o, m⟩ := om
      cases hf : (T.lkOf k).fits o m with
      | false => rw [nextN_no hl hf]
      | true => rw [nextN_yes hl hf, nextN_lk_other hk, give_lk_other _ _ _ hk, pop_lk_other _ _ _ hk]
theorem nextT_lk_other {T : Tb} {k k' : Key} (hk : k' ≠ k) : (T.nextT k).lk k' = T.lk k' := by
  have h1 : (T.nextT0 k).lk k' = T.lk k' := nextN_lk_other hk _ T []
  unfold Tb.nextT
  split
  · show updF (T.nextT0 k).lk k none k' = _
    rw [updF_other _ _ hk, h1]
  · exact h1
/-- All keys are gone through. -/
theorem nexts_inv : ∀ (ks : List Key) (X : Key → Prop) (T : Tb), InvX X T → ks.Nodup → (∀ k, X k → k ∈ ks) → (∀ k, k ∈ ks → X k ∧ KL.dom k ∧ (T.lk k).isSome = true) → T.oo.length ≤ 10000 → T.kk.length ≤ 10000 →
    T.NG ks ∧ Inv (T.nextsT ks) ∧ (T.nextsT ks).oo = T.oo ∧ (T.nextsT ks).kk.length ≤ T.kk.length
  | [], X, T, h, _, hx, _, _, _ => ⟨trivial, h.wide (fun k e => absurd (hx k e) (by simp)), rfl, Nat.le_refl _⟩
  | k :: r, X, T, h, hn, hx, hk, ho, hkk => by
    obtain ⟨n1, n2⟩ := List.nodup_cons.1 hn
    obtain ⟨x1, x2, x3⟩ := hk k (by simp)
    obtain ⟨a1, a2, a3⟩ := nextT_inv h x1 x2 x3
    obtain ⟨b1, b2, b3, b4⟩ := nexts_inv r (fun k' => X k' ∧ k' ≠ k) (T.nextT k) a1 n2 (fun k' e => by
      rcases List.mem_cons.1 (hx k' e.1) with e2 | e2
      · exact absurd e2 e.2
      · exact e2) (fun k' e => by
      have hne : k' ≠ k := fun e2 => n1 (e2 ▸ e)
      obtain ⟨y1, y2, y3⟩ := hk k' (by simp [e])
      exact ⟨⟨y1, hne⟩, y2, by rw [nextT_lk_other hne]; exact y3⟩) (by rw [a2]; exact ho) (by omega)
    exact ⟨⟨x2, x3, fun n _ => nextN_good h x1 x2 x3 ho hkk n [], b1⟩, b2, b3.trans a2, by show ((T.nextT k).nextsT r).kk.length ≤ _; omega⟩
theorem fks_nodup (h : Inv T) (o : Nat) : (T.fks o).Nodup := by
  unfold Tb.fks
  split
  · exact (sortK_perm _).nodup_iff.2 (h.pnd o)
  · exact (sortK_perm _).nodup_iff.2 (nodup_putK (h.pnd o))
theorem fks_some (h : Inv T) (o : Nat) {k : Key} (hk : k ∈ T.fks o) : KL.dom k ∧ ((T.lv o).lk k).isSome = true := by
  have hs : (T.lk k).isSome = true := by
    rcases (mem_fks T o k).1 hk with e | ⟨e1, e2⟩
    · obtain ⟨l, h1, _⟩ := h.holds o k e
      rw [h1]; rfl
    · obtain ⟨l, h1, _⟩ := h.wt o e1
      rw [e2, h1]; rfl
  refine ⟨h.kdm k ((h.km k).2 hs), ?_⟩
  rw [lv_lk h]
  cases e : T.lk k with
  | none => rw [e] at hs; cases hs
  | some l => rfl
/-- Free, whole: what its way wants, and what is right behind it. -/
theorem free_inv (h : Inv T) (o : Nat) (ho : T.oo.length ≤ 10000) (hk : T.kk.length ≤ 10000) :
    (T.lv o).NG (T.fks o) ∧ Inv ((T.lv o).nextsT (T.fks o)) ∧ ((T.lv o).nextsT (T.fks o)).oo.length ≤ T.oo.length ∧ ((T.lv o).nextsT (T.fks o)).kk.length ≤ T.kk.length := by
  obtain ⟨a, b, c, d⟩ := nexts_inv (T.fks o) (fun k => k ∈ T.fks o) (T.lv o) (lv_inv h o) (fks_nodup h o) (fun _ e => e) (fun k e => ⟨e, (fks_some h o e).1, (fks_some h o e).2⟩)
    (by rw [lv_oo]; exact Nat.le_trans (delK_len _ _) ho) (by rw [lv_kk]; exact hk)
  exact ⟨a, b, by rw [c, lv_oo]; exact delK_len _ _, by rw [lv_kk] at d; exact d⟩
theorem new_inv : Inv Tb.new :=
  ⟨fun o k hk => (by cases hk), fun o => dom0, fun k l hl => (by cases hl), fun k l hl => (by cases hl), fun o hq => absurd rfl hq, fun _ _ => rfl, fun L hL hc => (by rw [sumN_none (f := Tb.new.cnt) fun a _ => rfl]; rfl), fun o => (by constructor <;> intro e <;> cases e), fun k => (by constructor <;> intro e <;> cases e), List.nodup_nil, List.nodup_nil, fun _ => List.nodup_nil, fun _ hq => (by cases hq), fun _ hk => (by cases hk)⟩
end
end Go.Proofs.Ytbmcdlcoojmppaa

/-
  What is always right of a table of locks: as one stands in a line, and as one asks.
-/
namespace Go.Proofs.Ytbmcdlcoojmppaa
open Go.RowKit Go.Maps

/-- From a key one comes, by those who hold it and wait, to one of some keys. -/
inductive Tb.Leads (T : Tb) (ks : List Key) : Key → Prop
  | hit {k : Key} {q : Nat} : q ∈ (T.lkOf k).hs → (T.of q).mode ≠ 0 → (T.of q).key ∈ ks → Tb.Leads T ks k
  | via {k : Key} {q : Nat} : q ∈ (T.lkOf k).hs → (T.of q).mode ≠ 0 → Tb.Leads T ks (T.of q).key → Tb.Leads T ks k
theorem may_false {T : Tb} {o : Nat} {k : Key} {m : Int} (h : T.may o k m = false) : ∃ l, T.lk k = some l ∧ (l.fits o m = false ∨ k ∉ (T.of o).ks ∧ l.line ≠ []) := by
  unfold Tb.may at h
  cases e : T.lk k with
  | none => rw [e] at h; cases h
  | some l =>
    rw [e] at h
    refine ⟨l, rfl, ?_⟩
    cases hf : l.fits o m with
    | false => exact .inl rfl
    | true =>
      simp only [hf, Bool.true_and, Bool.or_eq_false_iff, decide_eq_false_iff_not] at h
      refine .inr ⟨h.1, fun e2 => h.2 ?_⟩
      rw [e2]
      rfl
section
variable {T : Tb} {o : Nat}
theorem made_oo_mem {X : Key → Prop} (h : InvX X T) (o q : Nat) : q ∈ (T.made o).oo ↔ q = o ∨ q ∈ T.oo := by
  unfold Tb.made
  cases e : T.py o with
  | none =>
    show q ∈ putK o T.oo ↔ _
    rw [mem_putK]
  | some p =>
    show q ∈ T.oo ↔ _
    constructor
    · exact .inr
    · rintro (rfl | e2)
      · rw [h.om, e]; rfl
      · exact e2
theorem made_oo_len (T : Tb) (o : Nat) : (T.made o).oo.length ≤ T.oo.length + 1 := by
  unfold Tb.made
  cases T.py o with
  | none => exact putK_len _ _
  | some p => exact Nat.le_succ _
theorem made_kk (T : Tb) (o : Nat) : (T.made o).kk = T.kk := by unfold Tb.made; cases T.py o <;> rfl
theorem made_py_other (T : Tb) {o q : Nat} (e : q ≠ o) : (T.made o).py q = T.py q := by
  unfold Tb.made
  cases T.py o with
  | none => exact updF_other _ _ e
  | some p => rfl
/-- One stands in a line. -/
theorem stand_inv (h : Inv T) {k : Key} {m : Int} (ho : KO.dom o) (hk : KL.dom k) (hw : (T.of o).mode = 0) (hm : m = 1 ∨ m = 2) (hmay : T.may o k m = false) (hR : k ∈ (T.of o).ks → ∀ x r, (T.lkOf k).line = x :: r → x.1 ∉ (T.lkOf k).hs) :
    Inv (T.stand o k m) ∧ (T.stand o k m).oo.length ≤ T.oo.length + 1 ∧ (T.stand o k m).kk = T.kk := by
  obtain ⟨l, hl, hmy⟩ := may_false hmay
  have hlo : T.lkOf k = l := lkOf_of hl
  rw [hlo] at hR
  have hin := h.lk k l hl
  have e0 : (T.stand o k m).lk k = some { l with line := lineIn (decide (k ∈ (T.of o).ks)) o m l.line } := by rw [stand_lk_same, hlo]
  have eo := stand_of_same T o k m
  have hks : ∀ q, ((T.stand o k m).of q).ks = (T.of q).ks := fun q => by
    by_cases e : q = o
    · subst e; rw [eo]
    · rw [stand_of_other _ _ _ e]
  have hnl : ∀ k' l' m', T.lk k' = some l' → (o, m') ∉ l'.line := fun k' l' m' hl' hi => by
    obtain ⟨-, h2, h3⟩ := (h.lk k' l' hl').lw o m' hi
    rw [hw] at h2
    omega
  have hne : ∀ k' l' q m', T.lk k' = some l' → (q, m') ∈ l'.line → q ≠ o := fun k' l' q m' hl' hi e => hnl k' l' m' hl' (e ▸ hi)
  refine ⟨⟨fun q k' hq => ?_, fun q => ?_, fun k' l' hl' => ?_, fun k' l' hl' _ => ?_, fun q hq => ?_, fun q hq => ?_, fun L hL hc => ?_, fun q => ?_, fun k' => ?_, ?_, ?_, fun q => by rw [hks]; exact h.pnd q, fun q hq => ?_, fun k' hk' => ?_⟩, made_oo_len T o, made_kk T o⟩
  · rw [hks] at hq
    obtain ⟨l', h1, h2⟩ := h.holds q k' hq
    by_cases ek : k' = k
    · subst ek
      rw [hl] at h1
      cases h1
      exact ⟨_, e0, h2⟩
    · exact ⟨l', by rw [stand_lk_other _ _ _ ek]; exact h1, h2⟩
  · by_cases e : q = o
    · subst e; rw [eo]; exact hk
    · rw [stand_of_other _ _ _ e]; exact h.key q
  · by_cases ek : k' = k
    · subst ek
      rw [e0] at hl'
      cases hl'
      refine ⟨hin.hnd, fun q hq => by rw [hks]; exact hin.hk q hq, hin.md, hin.one, ?_, fun q m' hq => ?_, fun x r hx y hy => ?_⟩
      · have hno : o ∉ l.line.map Prod.fst := fun e => by
          obtain ⟨⟨a, b⟩, h1, h2⟩ := List.mem_map.1 e
          have : a = o := h2
          subst this
          exact hnl k' l b hl h1
        show ((lineIn _ o m l.line).map Prod.fst).Nodup
        unfold lineIn
        split
        · exact List.nodup_cons.2 ⟨hno, hin.lnd⟩
        · rw [List.map_append, List.nodup_append]
          refine ⟨hin.lnd, by simp, fun a ha b hb e => ?_⟩
          simp at hb
          rw [← e] at hb
          exact hno (hb ▸ ha)
      · rcases mem_lineIn.1 hq with e | e
        · cases e
          rw [eo]
          exact ⟨rfl, rfl, hm⟩
        · rw [stand_of_other _ _ _ (hne k' l q m' hl e)]
          exact hin.lw q m' e
      · have hx' : lineIn (decide (k' ∈ (T.of o).ks)) o m l.line = x :: r := hx
        unfold lineIn at hx'
        by_cases hY : k' ∈ (T.of o).ks
        · rw [if_pos (by simpa using hY)] at hx'
          cases hx'
          cases e : l.line with
          | nil => rw [e] at hy; cases hy
          | cons z s =>
            rw [e] at hy
            rcases List.mem_cons.1 hy with e2 | e2
            · rw [e2]; exact hR hY z s e
            · exact hin.up z s e y e2
        · rw [if_neg (by simpa using hY)] at hx'
          cases e : l.line with
          | nil =>
            rw [e] at hx'
            cases hx'
            cases hy
          | cons z s =>
            rw [e] at hx'
            have hx2 : x = z ∧ r = s ++ [(o, m)] := by
              rw [List.cons_append] at hx'
              injection hx' with a b
              exact ⟨a.symm, b.symm⟩
            rw [hx2.2] at hy
            rcases List.mem_append.1 hy with e2 | e2
            · exact hin.up z s e y e2
            · simp at e2
              rw [e2]
              exact fun e3 => hY (hin.hk o e3)
    · rw [stand_lk_other _ _ _ ek] at hl'
      have := h.lk k' l' hl'
      exact ⟨this.hnd, fun q hq => by rw [hks]; exact this.hk q hq, this.md, this.one, this.lnd, fun q m' hq => by rw [stand_of_other _ _ _ (hne k' l' q m' hl' hq)]; exact this.lw q m' hq, this.up⟩
  · by_cases ek : k' = k
    · subst ek
      rw [e0] at hl'
      cases hl'
      obtain ⟨f1, f2⟩ := h.full k' l hl (fun e => e)
      refine ⟨f1, fun q m' r hr => ?_⟩
      have hr' : lineIn (decide (k' ∈ (T.of o).ks)) o m l.line = (q, m') :: r := hr
      show l.fits q m' = false
      unfold lineIn at hr'
      by_cases hY : k' ∈ (T.of o).ks
      · rw [if_pos (by simpa using hY)] at hr'
        cases hr'
        rcases hmy with e | ⟨e, _⟩
        · exact e
        · exact absurd hY e
      · rw [if_neg (by simpa using hY)] at hr'
        cases e : l.line with
        | nil =>
          rw [e] at hr'
          cases hr'
          rcases hmy with e2 | ⟨_, e2⟩
          · exact e2
          · exact absurd e e2
        | cons z s =>
          rw [e, List.cons_append] at hr'
          injection hr' with a b
          exact f2 q m' s (by rw [e, a])
    · rw [stand_lk_other _ _ _ ek] at hl'
      exact h.full k' l' hl' (fun e => e)
  · by_cases e : q = o
    · subst e
      rw [eo]
      exact ⟨_, e0, mem_lineIn.2 (.inl rfl)⟩
    · rw [stand_of_other _ _ _ e] at hq ⊢
      obtain ⟨l', h1, h2⟩ := h.wt q hq
      by_cases ek : (T.of q).key = k
      · rw [ek] at h1 ⊢
        rw [hl] at h1
        cases h1
        exact ⟨_, e0, mem_lineIn.2 (.inr h2)⟩
      · exact ⟨l', by rw [stand_lk_other _ _ _ ek]; exact h1, h2⟩
  · by_cases e : q = o
    · subst e
      rw [eo] at hq
      have : m = 0 := hq
      omega
    · rw [stand_of_other _ _ _ e] at hq ⊢
      exact h.w0 q hq
  · have hcz : ∀ q, q ≠ o → (T.stand o k m).cnt q = T.cnt q := fun q e => by unfold Tb.cnt; rw [stand_of_other _ _ _ e]
    have hco : (T.stand o k m).cnt o = T.cnt o + 1 := by
      unfold Tb.cnt Py.cnt
      rw [eo]
      show (T.of o).ks.length + (if m = 0 then 0 else 1) = (T.of o).ks.length + (if (T.of o).mode = 0 then 0 else 1) + 1
      rw [if_pos hw, if_neg (by omega)]
    have hoL : o ∈ L := hc o (by rw [hco]; omega)
    have hold := h.cnt L hL fun q hq => by
      by_cases e : q = o
      · rw [e]; exact hoL
      · exact hc q (by rw [hcz q e]; exact hq)
    have hs := sumN_turn (f := (T.stand o k m).cnt) (g := T.cnt) hcz hL hoL
    show T.many + 1 = _
    rw [hold]
    omega
  · show q ∈ (T.made o).oo ↔ (updF (T.made o).py o _ q).isSome = true
    rw [made_oo_mem h]
    by_cases e : q = o
    · rw [e, updF_same]; simp
    · rw [updF_other _ _ e, made_py_other T e, ← h.om]; simp [e]
  · show k' ∈ (T.made o).kk ↔ _
    rw [made_kk, h.km]
    by_cases ek : k' = k
    · subst ek
      rw [e0, hl]; rfl
    · rw [stand_lk_other _ _ _ ek]
  · show (T.made o).oo.Nodup
    unfold Tb.made
    cases T.py o with
    | none => exact nodup_putK h.ond
    | some p => exact h.ond
  · show (T.made o).kk.Nodup
    rw [made_kk]
    exact h.knd
  · rcases (made_oo_mem h o q).1 hq with e | e
    · rw [e]; exact ho
    · exact h.odm q e
  · have : k' ∈ (T.made o).kk := hk'
    rw [made_kk] at this
    exact h.kdm k' this
theorem made_give_oo (T : Tb) (o : Nat) (k : Key) (m : Int) : (T.give o k m).oo.length ≤ T.oo.length + 1 := ready_oo T o k
theorem made_give_kk (T : Tb) (o : Nat) (k : Key) (m : Int) : (T.give o k m).kk.length ≤ T.kk.length + 1 := ready_kk T o k
/-- One that may have it has it. -/
theorem give_ask_inv (h : Inv T) {k : Key} {m : Int} (ho : KO.dom o) (hk : KL.dom k) (hw : (T.of o).mode = 0) (hm : m = 1 ∨ m = 2) (hmay : T.may o k m = true) (hh : ¬ (T.hold o k = m ∨ T.hold o k = 2)) : Inv (T.give o k m) := by
  have hf : (T.lkOf k).fits o m = true := by
    unfold Tb.may at hmay
    cases e : T.lk k with
    | none => unfold Tb.lkOf; rw [e]; exact fits_none rfl
    | some l =>
      rw [e] at hmay
      simp only [Bool.and_eq_true] at hmay
      rw [lkOf_of e]
      exact hmay.1
  refine give_inv h ho hk hw hm hf fun _ o' m' r hr => ?_
  obtain ⟨l, el, eo⟩ := lk_some_of_line hr
  rw [eo] at hr hf
  have hin := h.lk k l el
  unfold Tb.may at hmay
  rw [el] at hmay
  simp only [Bool.and_eq_true, Bool.or_eq_true, decide_eq_true_eq] at hmay
  have hkk : k ∈ (T.of o).ks := by
    rcases hmay.2 with e | e
    · exact e
    · rw [hr] at e
      simp at e
      omega
  have hoh : o ∈ l.hs := by
    obtain ⟨l', h1, h2⟩ := h.holds o k hkk
    rw [el] at h1
    cases h1
    exact h2
  have hmode : T.hold o k = l.mode := by
    unfold Tb.hold
    rw [if_pos hkk, eo]
  rw [hmode] at hh
  have hm2 : m = 2 := by
    rcases hm with e | e
    · have := hin.md (fun e2 => by rw [e2] at hoh; cases hoh)
      omega
    · exact e
  have hall : ∀ q, q ∈ l.hs → q = o := by
    rcases h.fit_one hm (by rw [eo]; exact hf) (by rw [eo]; exact hin.hnd) with h1 | h1
    · rw [eo] at h1; exact h1
    · omega
  have ho' : o' ≠ o := fun e => by
    obtain ⟨-, h2, h3⟩ := hin.lw o' m' (by rw [hr]; simp)
    rw [e, hw] at h2
    omega
  have hput : putK o l.hs = l.hs := putK_old hoh
  rw [eo]
  unfold Lk.fits tog
  show (decide (((putK o l.hs).length : Int) - (if o' ∈ putK o l.hs then 1 else 0) = 0) || (decide (m' = 1) && decide (m = 1))) = false
  rw [hput]
  have hno : o' ∉ l.hs := fun e => ho' (hall o' e)
  have hlen : 0 < l.hs.length := List.length_pos_of_mem hoh
  rw [if_neg hno, hm2]
  simp
  intro e
  rw [e] at hlen
  exact absurd hlen (by simp)
/-- One asks. -/
theorem ask_inv (h : Inv T) {k : Key} {m : Int} {R : Bool} (ho : KO.dom o) (hk : KL.dom k) (hR : T.may o k m = false → R = false → ¬ T.Leads (T.of o).ks k) :
    Inv (T.ask o k m R).2 ∧ (T.ask o k m R).2.oo.length ≤ T.oo.length + 1 ∧ (T.ask o k m R).2.kk.length ≤ T.kk.length + 1 := by
  unfold Tb.ask
  split
  · exact ⟨h, Nat.le_succ _, Nat.le_succ _⟩
  rename_i hm
  split
  · exact ⟨h, Nat.le_succ _, Nat.le_succ _⟩
  split
  · exact ⟨h, Nat.le_succ _, Nat.le_succ _⟩
  rename_i hw
  split
  · exact ⟨h, Nat.le_succ _, Nat.le_succ _⟩
  rename_i hh
  split
  · exact ⟨h, Nat.le_succ _, Nat.le_succ _⟩
  have hm' : m = 1 ∨ m = 2 := Decidable.byContradiction fun e => hm e
  have hw' : (T.of o).mode = 0 := Decidable.byContradiction fun e => hw e
  split
  · rename_i hmay
    exact ⟨give_ask_inv h ho hk hw' hm' hmay hh, made_give_oo T o k m, made_give_kk T o k m⟩
  rename_i hmay
  split
  · exact ⟨h, Nat.le_succ _, Nat.le_succ _⟩
  rename_i hr
  have hmay' : T.may o k m = false := by simpa using hmay
  have hr' : R = false := by simpa using hr
  obtain ⟨a, b, c⟩ := stand_inv h ho hk hw' hm' hmay' fun hkk x r hl hx => hR hmay' hr' (by
    obtain ⟨l, el, eo⟩ := lk_some_of_line hl
    rw [eo] at hl hx
    obtain ⟨w1, w2, w3⟩ := (h.lk k l el).lw x.1 x.2 (by rw [hl]; simp)
    exact Tb.Leads.hit (q := x.1) (by rw [eo]; exact hx) (by omega) (by rw [w1]; exact hkk))
  exact ⟨a, b, by rw [c]; exact Nat.le_succ _⟩
end
end Go.Proofs.Ytbmcdlcoojmppaa

