/-
  Texts on locks, put together: LkDoc1 LkDoc2.
-/
import Derived.Test.YtadopbpfnnpnaaaGreatL24
set_option linter.unusedVariables false
set_option linter.unusedSimpArgs false
/-
  The document's table of locks, as lists; that it is the code's (no memory here).
-/
namespace Go.Proofs.YtadopbpfnnpnaaaGreat
open Go.RowKit Go.Maps

structure DL where
  o : Nat
  k : Key
  m : Int
  up : Bool
structure DT where
  held : List DL
  line : List DL
def isOf (o : Nat) (k : Key) (x : DL) : Bool := decide (x.o = o) && decide (x.k = k)
def DT.holds (D : DT) (o : Nat) (k : Key) : Int := match D.held.find? (isOf o k) with
  | some x => x.m
  | none => 0
def ofO (o : Nat) (x : DL) : Bool := decide (x.o = o)
def ofK (k : Key) (x : DL) : Bool := decide (x.k = k)
def DT.may (D : DT) (x : DL) : Bool := D.held.all fun y => !(decide (y.k = x.k) && !decide (y.o = x.o) && !tog y.m x.m)
/-- The first one that is meant has the mode now. -/
def setM (o : Nat) (k : Key) (m : Int) : List DL → List DL
  | [] => []
  | y :: r => if isOf o k y = true then { y with m := m } :: r else y :: setM o k m r
def DT.give (D : DT) (x : DL) : DT := if D.held.any (isOf x.o x.k) = true then { D with held := setM x.o x.k x.m D.held } else { D with held := D.held ++ [⟨x.o, x.k, x.m, false⟩] }
def DT.lineOf (D : DT) (k : Key) : List Nat := (D.line.filter (ofK k)).map DL.o
/-- What the two tables have in common. -/
structure Rel (T : Tb) (D : DT) : Prop where
  hk : ∀ x, x ∈ D.held → x.k ∈ (T.of x.o).ks ∧ x.m = (T.lkOf x.k).mode
  hx : ∀ o k, k ∈ (T.of o).ks → ∃ x, x ∈ D.held ∧ x.o = o ∧ x.k = k
  hn : (D.held.map fun x => (x.o, x.k)).Nodup
  ln : ∀ k, (D.line.filter (ofK k)).map (fun x => (x.o, x.m)) = (T.lkOf k).line
  up : ∀ x, x ∈ D.line → x.up = decide (x.k ∈ (T.of x.o).ks)
  on : (D.line.map DL.o).Nodup
theorem setM_map (o : Nat) (k : Key) (m : Int) : ∀ l, (setM o k m l).map (fun x => (x.o, x.k)) = l.map fun x => (x.o, x.k)
  | [] => rfl
  | y :: r => by
    unfold setM
    split
    · rfl
    · rw [List.map_cons, List.map_cons, setM_map o k m r]
theorem isOf_iff {o : Nat} {k : Key} {x : DL} : isOf o k x = true ↔ x.o = o ∧ x.k = k := by unfold isOf; simp
theorem mem_setM {o : Nat} {k : Key} {m : Int} : ∀ {l : List DL}, (l.map fun x => (x.o, x.k)).Nodup → ∀ {y : DL}, y ∈ setM o k m l → (isOf o k y = false ∧ y ∈ l) ∨ (isOf o k y = true ∧ y.m = m)
  | [], _, y, h => by cases h
  | z :: r, hn, y, h => by
    rw [List.map_cons, List.nodup_cons] at hn
    unfold setM at h
    split at h
    · rename_i hz
      rcases List.mem_cons.1 h with e | e
      · right
        rw [e]
        exact ⟨hz, rfl⟩
      · left
        refine ⟨?_, by simp [e]⟩
        cases hy : isOf o k y with
        | false => rfl
        | true =>
          exfalso
          obtain ⟨a1, a2⟩ := isOf_iff.1 hy
          obtain ⟨b1, b2⟩ := isOf_iff.1 hz
          exact hn.1 (List.mem_map.2 ⟨y, e, by rw [a1, a2, b1, b2]⟩)
    · rename_i hz
      rcases List.mem_cons.1 h with e | e
      · left
        rw [e]
        exact ⟨by simpa using hz, by simp⟩
      · rcases mem_setM hn.2 e with ⟨e1, e2⟩ | e1
        · exact .inl ⟨e1, by simp [e2]⟩
        · exact .inr e1
section
variable {X : Key → Prop} {T : Tb} {D : DT}
theorem Rel.holds (h : Rel T D) (hi : Inv T) (o : Nat) (k : Key) : D.holds o k = T.hold o k := by
  unfold DT.holds Tb.hold
  cases e : D.held.find? (isOf o k) with
  | none =>
    by_cases hk : k ∈ (T.of o).ks
    · obtain ⟨x, h1, h2, h3⟩ := h.hx o k hk
      have := List.find?_eq_none.1 e x h1
      exact absurd (isOf_iff.2 ⟨h2, h3⟩) this
    · rw [if_neg hk]
  | some x =>
    have h1 := List.mem_of_find?_eq_some e
    have h2 := isOf_iff.1 (List.find?_some e)
    have h3 := h.hk x h1
    rw [h2.1, h2.2] at h3
    rw [if_pos h3.1]
    exact h3.2
theorem Rel.waits (h : Rel T D) (hi : Inv T) {o : Nat} (hw : (T.of o).mode ≠ 0) : ∃ x, x ∈ D.line ∧ x.o = o ∧ x.k = (T.of o).key ∧ x.m = (T.of o).mode := by
  obtain ⟨l, h1, h2⟩ := hi.wt o hw
  have h3 := h.ln (T.of o).key
  rw [lkOf_of h1] at h3
  rw [← h3] at h2
  obtain ⟨x, h4, h5⟩ := List.mem_map.1 h2
  obtain ⟨h6, h7⟩ := List.mem_filter.1 h4
  injection h5 with h8 h9
  exact ⟨x, h6, h8, by unfold ofK at h7; simpa using h7, h9⟩
theorem tog_comm (a b : Int) : tog a b = tog b a := by unfold tog; rw [Bool.and_comm]
theorem Rel.holders (h : Rel T D) (hi : InvX X T) (k : Key) (q : Nat) : q ∈ (T.lkOf k).hs ↔ ∃ y, y ∈ D.held ∧ y.o = q ∧ y.k = k := by
  constructor
  · intro hq
    cases e : T.lk k with
    | none => unfold Tb.lkOf at hq; rw [e] at hq; cases hq
    | some l =>
      rw [lkOf_of e] at hq
      exact h.hx q k ((hi.lk k l e).hk q hq)
  · rintro ⟨y, h1, rfl, rfl⟩
    obtain ⟨l, e, h2⟩ := hi.holds y.o y.k (h.hk y h1).1
    rw [lkOf_of e]
    exact h2
theorem Rel.may (h : Rel T D) (hi : InvX X T) (x : DL) : D.may x = (T.lkOf x.k).fits x.o x.m := by
  have hnd : (T.lkOf x.k).hs.Nodup := by
    unfold Tb.lkOf
    cases e : T.lk x.k with
    | none => exact List.nodup_nil
    | some l => exact (hi.lk x.k l e).hnd
  rw [Bool.eq_iff_iff]
  unfold DT.may
  rw [List.all_eq_true]
  constructor
  · intro hall
    by_cases ht : tog x.m (T.lkOf x.k).mode = true
    · unfold Lk.fits
      rw [ht, Bool.or_true]
    · have hone : ∀ q, q ∈ (T.lkOf x.k).hs → q = x.o := fun q hq => by
        obtain ⟨y, h1, h2, h3⟩ := (h.holders hi x.k q).1 hq
        have h4 := hall y h1
        have h5 := (h.hk y h1).2
        rw [h3] at h5
        rw [h3, h2, h5, tog_comm] at h4
        simp only [decide_true, Bool.true_and] at h4
        cases hd : decide (q = x.o) with
        | true => exact of_decide_eq_true hd
        | false =>
          rw [hd] at h4
          cases hg : tog x.m (T.lkOf x.k).mode with
          | true => exact absurd hg ht
          | false => rw [hg] at h4; cases h4
      unfold Lk.fits
      rw [Bool.or_eq_true]
      left
      have h1 := nodup_le (T.lkOf x.k).hs [x.o] hnd fun q hq => by rw [hone q hq]; simp
      have h2 : (T.lkOf x.k).hs.length ≤ 1 := by simpa using h1
      rw [decide_eq_true_eq]
      split
      · rename_i hin
        have := List.length_pos_of_mem hin
        omega
      · rename_i hin
        cases e : (T.lkOf x.k).hs with
        | nil => rfl
        | cons a r => exact absurd (by rw [← hone a (by rw [e]; simp), e]; simp) hin
  · intro hf y hy
    by_cases hk : y.k = x.k
    · by_cases ho : y.o = x.o
      · simp [ho]
      · have h1 := (h.hk y hy).2
        rw [hk] at h1
        have hin : y.o ∈ (T.lkOf x.k).hs := (h.holders hi x.k y.o).2 ⟨y, hy, rfl, hk⟩
        have ht : tog x.m (T.lkOf x.k).mode = true := by
          unfold Lk.fits at hf
          rw [Bool.or_eq_true] at hf
          rcases hf with h2 | h2
          · exfalso
            rw [decide_eq_true_eq] at h2
            split at h2
            · rename_i hxo
              have := nodup_le [y.o, x.o] (T.lkOf x.k).hs (by simp [ho]) fun q hq => by
                simp at hq
                rcases hq with rfl | rfl
                · exact hin
                · exact hxo
              simp at this
              omega
            · have := List.length_pos_of_mem hin
              omega
          · exact h2
        rw [h1, tog_comm, ht]
        simp
    · simp [hk]
/-- One comes to a key, in both tables. -/
theorem Rel.give (h : Rel T D) (hi : InvX X T) {o : Nat} {k : Key} {m : Int} (up : Bool) (hw : ∀ x, x ∈ D.line → x.o ≠ o) (hm : m = 1 ∨ m = 2) (hf : (T.lkOf k).fits o m = true) : Rel (T.give o k m) (D.give ⟨o, k, m, up⟩) := by
  have e0 : (T.give o k m).lkOf k = { T.lkOf k with mode := m, hs := putK o (T.lkOf k).hs } := lkOf_of (give_lkOf T o k m)
  have e1 : ∀ k', k' ≠ k → (T.give o k m).lkOf k' = T.lkOf k' := fun k' hk => by
    unfold Tb.lkOf
    rw [give_lk_other _ _ _ hk]
  have hnd : (T.lkOf k).hs.Nodup := by
    unfold Tb.lkOf
    cases e : T.lk k with
    | none => exact List.nodup_nil
    | some l => exact (hi.lk k l e).hnd
  have hks : ∀ q k', k' ∈ ((T.give o k m).of q).ks ↔ (q = o ∧ k' = k) ∨ k' ∈ (T.of q).ks := fun q k' => by
    by_cases e : q = o
    · subst e
      rw [give_of_same, mem_putK]
      simp
    · rw [give_of_other _ _ _ e]
      simp [e]
  have hln : (D.give ⟨o, k, m, up⟩).line = D.line := by unfold DT.give; split <;> rfl
  -- every other holder of that key holds it in the mode m
  have hoth : ∀ y, y ∈ D.held → y.k = k → y.o ≠ o → y.m = m := fun y hy h1 h2 => by
    have hin := (h.holders hi k y.o).2 ⟨y, hy, rfl, h1⟩
    rcases hi.fit_one hm hf hnd with e | ⟨e1, e2⟩
    · exact absurd (e y.o hin) h2
    · have := (h.hk y hy).2
      rw [h1, e2] at this
      rw [this, e1]
  have key : (∀ y, y ∈ (D.give ⟨o, k, m, up⟩).held → (isOf o k y = false ∧ y ∈ D.held) ∨ (isOf o k y = true ∧ y.m = m)) ∧ ((D.give ⟨o, k, m, up⟩).held.map fun x => (x.o, x.k)).Nodup ∧ (∃ y, y ∈ (D.give ⟨o, k, m, up⟩).held ∧ y.o = o ∧ y.k = k) ∧ ∀ y, y ∈ D.held → isOf o k y = false → y ∈ (D.give ⟨o, k, m, up⟩).held := by
    unfold DT.give
    split
    · rename_i hany
      obtain ⟨z, hz1, hz2⟩ := List.any_eq_true.1 hany
      have hmem : ∀ l : List DL, z ∈ l → ∃ y, y ∈ setM o k m l ∧ y.o = o ∧ y.k = k := by
        intro l
        induction l with
        | nil => intro hz; cases hz
        | cons a r ih =>
          intro hz
          unfold setM
          split
          · rename_i ha
            obtain ⟨a1, a2⟩ := isOf_iff.1 ha
            exact ⟨{ a with m := m }, by simp, a1, a2⟩
          · rename_i ha
            rcases List.mem_cons.1 hz with e | e
            · rw [e] at hz2; exact absurd hz2 ha
            · obtain ⟨y, y1, y2⟩ := ih e
              exact ⟨y, by simp [y1], y2⟩
      have hkeep : ∀ l : List DL, ∀ y, y ∈ l → isOf o k y = false → y ∈ setM o k m l := by
        intro l
        induction l with
        | nil => intro y hy; cases hy
        | cons a r ih =>
          intro y hy hf
          unfold setM
          split
          · rename_i ha
            rcases List.mem_cons.1 hy with e | e
            · rw [e, ha] at hf; cases hf
            · simp [e]
          · rcases List.mem_cons.1 hy with e | e
            · simp [e]
            · simp [ih y e hf]
      exact ⟨fun y hy => mem_setM h.hn hy, by rw [setM_map]; exact h.hn, hmem D.held hz1, hkeep D.held⟩
    · rename_i hany
      have hno : ∀ y, y ∈ D.held → isOf o k y = false := fun y hy => by
        cases e : isOf o k y with
        | false => rfl
        | true => exact absurd (List.any_eq_true.2 ⟨y, hy, e⟩) hany
      refine ⟨fun y hy => ?_, ?_, ⟨_, List.mem_append.2 (.inr (by simp; rfl)), rfl, rfl⟩, fun y hy _ => List.mem_append.2 (.inl hy)⟩
      · rcases List.mem_append.1 hy with e | e
        · exact .inl ⟨hno y e, e⟩
        · simp at e
          rw [e]
          exact .inr ⟨isOf_iff.2 ⟨rfl, rfl⟩, rfl⟩
      · rw [List.map_append, List.nodup_append]
        refine ⟨h.hn, by simp, fun a ha b hb e => ?_⟩
        simp at hb
        obtain ⟨y, hy, e2⟩ := List.mem_map.1 ha
        rw [e, hb] at e2
        injection e2 with e3 e4
        have := hno y hy
        rw [isOf_iff.2 ⟨e3, e4⟩] at this
        cases this
  obtain ⟨k1, k2, k3, k4⟩ := key
  refine ⟨fun y hy => ?_, fun q k' hq => ?_, k2, fun k' => ?_, fun x hx => ?_, by rw [hln]; exact h.on⟩
  · rcases k1 y hy with ⟨e2, e3⟩ | ⟨e2, e3⟩
    · have h1 := h.hk y e3
      refine ⟨(hks _ _).2 (.inr h1.1), ?_⟩
      by_cases ek : y.k = k
      · rw [ek, e0]
        have hne : y.o ≠ o := fun e4 => by rw [isOf_iff.2 ⟨e4, ek⟩] at e2; cases e2
        exact hoth y e3 ek hne
      · rw [e1 _ ek]; exact h1.2
    · obtain ⟨a1, a2⟩ := isOf_iff.1 e2
      rw [a1, a2, e0]
      exact ⟨(hks _ _).2 (.inl ⟨rfl, rfl⟩), e3⟩
  · rcases (hks q k').1 hq with ⟨rfl, rfl⟩ | e
    · exact k3
    · obtain ⟨y, y1, y2, y3⟩ := h.hx q k' e
      cases ey : isOf o k y with
      | true =>
        obtain ⟨a1, a2⟩ := isOf_iff.1 ey
        obtain ⟨z, z1, z2, z3⟩ := k3
        exact ⟨z, z1, by rw [z2, ← a1, y2], by rw [z3, ← a2, y3]⟩
      | false => exact ⟨y, k4 y y1 ey, y2, y3⟩
  · rw [hln]
    by_cases ek : k' = k
    · rw [ek, e0]; exact h.ln k
    · rw [e1 _ ek]; exact h.ln k'
  · rw [hln] at hx
    rw [h.up x hx]
    have := hw x hx
    have e2 : (x.k ∈ ((T.give o k m).of x.o).ks) = (x.k ∈ (T.of x.o).ks) := by rw [give_of_other _ _ _ this]
    simp only [e2]
end
end Go.Proofs.YtadopbpfnnpnaaaGreat

/-
  The document's table and the code's: one leaves a line, lets all go, what comes to a key.
-/
namespace Go.Proofs.YtadopbpfnnpnaaaGreat
open Go.RowKit Go.Maps

def DT.off (D : DT) (o : Nat) : DT := { D with line := D.line.filter fun x => !ofO o x }
/-- An owner is in the table no more. -/
def DT.lv (D : DT) (o : Nat) : DT := ⟨D.held.filter fun x => !ofO o x, D.line.filter fun x => !ofO o x⟩
def DL.zero : DL := ⟨0, (0, 0), 0, false⟩
/-- The one of an owner that stands in a line. -/
def DT.at (D : DT) (o : Nat) : DL := (D.line.find? (ofO o)).getD DL.zero
def DT.nextN : Nat → DT → Key → List Nat → List Nat × DT
  | 0, D, _, c => (c, D)
  | n + 1, D, k, c => match D.lineOf k with
    | [] => (c, D)
    | q :: _ => if D.may (D.at q) = true then DT.nextN n ((D.off q).give (D.at q)) k (c ++ [(D.at q).o]) else (c, D)
theorem ofO_iff {o : Nat} {x : DL} : ofO o x = true ↔ x.o = o := by unfold ofO; simp
theorem ofK_iff {k : Key} {x : DL} : ofK k x = true ↔ x.k = k := by unfold ofK; simp
theorem off_map (o : Nat) : ∀ l : List DL, ((l.filter fun x => !ofO o x).map fun x => (x.o, x.m)) = offLine o (l.map fun x => (x.o, x.m))
  | [] => rfl
  | x :: r => by
    have ih := off_map o r
    unfold offLine at ih ⊢
    by_cases h : x.o = o
    · simp only [List.filter_cons, List.map_cons, ofO_iff.2 h, h]
      simpa using ih
    · have : ofO o x = false := by unfold ofO; simp [h]
      rw [List.filter_cons, if_pos (by simp [this]), List.map_cons, List.map_cons, List.filter_cons, if_pos (by simpa using h), ih]
theorem nodup_find {f : DL → Nat} : ∀ {l : List DL}, (l.map f).Nodup → ∀ {x : DL}, x ∈ l → l.find? (fun y => decide (f y = f x)) = some x
  | [], _, x, h => by cases h
  | z :: r, hn, x, h => by
    rw [List.map_cons, List.nodup_cons] at hn
    rw [List.find?_cons]
    rcases List.mem_cons.1 h with e | e
    · rw [e]; simp
    · have : f z ≠ f x := fun e2 => hn.1 (by rw [e2]; exact List.mem_map.2 ⟨x, e, rfl⟩)
      simp only [this, decide_false]
      exact nodup_find hn.2 e
section
variable {X : Key → Prop} {T : Tb} {D : DT}
theorem Rel.at (h : Rel T D) {x : DL} (hx : x ∈ D.line) : D.at x.o = x := by
  unfold DT.at
  rw [show ofO x.o = fun y => decide (DL.o y = DL.o x) from rfl, nodup_find h.on hx]
  rfl
theorem Rel.line_of (h : Rel T D) (hi : InvX X T) {x : DL} (hx : x ∈ D.line) : (x.o, x.m) ∈ (T.lkOf x.k).line ∧ (T.of x.o).key = x.k ∧ (T.of x.o).mode = x.m ∧ (x.m = 1 ∨ x.m = 2) := by
  have h1 : (x.o, x.m) ∈ (T.lkOf x.k).line := by
    rw [← h.ln x.k]
    exact List.mem_map.2 ⟨x, List.mem_filter.2 ⟨hx, by unfold ofK; simp⟩, rfl⟩
  refine ⟨h1, ?_⟩
  cases e : T.lk x.k with
  | none => unfold Tb.lkOf at h1; rw [e] at h1; cases h1
  | some l =>
    rw [lkOf_of e] at h1
    exact (hi.lk x.k l e).lw x.o x.m h1
theorem Rel.pop (h : Rel T D) (hi : InvX X T) {o : Nat} {k : Key} {m : Int} {r : List (Nat × Int)} (hl : (T.lkOf k).line = (o, m) :: r) : Rel (T.pop k o r) (D.off o) := by
  have e0 : (T.pop k o r).lkOf k = { T.lkOf k with line := r, pop := true } := lkOf_of (pop_lk T k o r)
  have e1 : ∀ k', k' ≠ k → (T.pop k o r).lkOf k' = T.lkOf k' := fun k' hk => by
    unfold Tb.lkOf
    rw [pop_lk_other _ _ _ hk]
  have em : ∀ k', ((T.pop k o r).lkOf k').mode = (T.lkOf k').mode := fun k' => by
    by_cases e : k' = k
    · rw [e, e0]
    · rw [e1 _ e]
  obtain ⟨l, el, eo⟩ := lk_some_of_line hl
  have hin := hi.lk k l el
  have hol : (o, m) ∈ l.line := by rw [← eo, hl]; simp
  refine ⟨fun x hx => ?_, fun q k' hq => ?_, h.hn, fun k' => ?_, fun x hx => ?_, ?_⟩
  · rw [pop_of_ks, em]; exact h.hk x hx
  · rw [pop_of_ks] at hq; exact h.hx q k' hq
  · show (((D.line.filter fun x => !ofO o x).filter (ofK k')).map fun x => (x.o, x.m)) = _
    rw [List.filter_filter, show (fun a => ofK k' a && !ofO o a) = fun a => (!ofO o a) && ofK k' a from funext fun a => Bool.and_comm _ _, ← List.filter_filter, off_map, h.ln k']
    by_cases e : k' = k
    · rw [e, e0, hl]
      show offLine o ((o, m) :: r) = r
      unfold offLine
      rw [List.filter_cons]
      simp only [ne_eq, not_true_eq_false, decide_false, Bool.false_eq_true, if_false]
      refine offLine_no fun m' hm' => ?_
      have hnd := hin.lnd
      rw [← eo, hl, List.map_cons, List.nodup_cons] at hnd
      exact hnd.1 (List.mem_map.2 ⟨(o, m'), hm', rfl⟩)
    · rw [e1 _ e]
      refine offLine_no fun m' hm' => ?_
      cases e2 : T.lk k' with
      | none => unfold Tb.lkOf at hm'; rw [e2] at hm'; cases hm'
      | some l' =>
        rw [lkOf_of e2] at hm'
        have h1 := ((hi.lk k' l' e2).lw o m' hm').1
        rw [(hin.lw o m hol).1] at h1
        exact e h1.symm
  · rw [h.up x (List.mem_filter.1 hx).1]
    simp only [pop_of_ks]
  · exact h.on.sublist (List.filter_sublist.map _)
theorem Rel.lv (h : Rel T D) (hi : Inv T) (o : Nat) : Rel (T.lv o) (D.lv o) := by
  have e0 : ∀ k, ((T.lv o).lkOf k).mode = (T.lkOf k).mode ∧ ((T.lv o).lkOf k).line = offLine o (T.lkOf k).line := fun k => by
    unfold Tb.lkOf
    rw [lv_lk hi]
    cases T.lk k with
    | none => exact ⟨rfl, rfl⟩
    | some l => exact ⟨rfl, rfl⟩
  have hne : ∀ x : DL, (!ofO o x) = true → x.o ≠ o := fun x hx e => by rw [ofO_iff.2 e] at hx; cases hx
  refine ⟨fun x hx => ?_, fun q k' hq => ?_, h.hn.sublist (List.filter_sublist.map _), fun k' => ?_, fun x hx => ?_, h.on.sublist (List.filter_sublist.map _)⟩
  · obtain ⟨h1, h2⟩ := List.mem_filter.1 hx
    rw [lv_of_other _ _ (hne x h2), (e0 _).1]
    exact h.hk x h1
  · by_cases e : q = o
    · rw [e, lv_of_same] at hq; cases hq
    · rw [lv_of_other _ _ e] at hq
      obtain ⟨x, h1, h2, h3⟩ := h.hx q k' hq
      refine ⟨x, List.mem_filter.2 ⟨h1, ?_⟩, h2, h3⟩
      unfold ofO
      rw [h2]
      simp [e]
  · show (((D.line.filter fun x => !ofO o x).filter (ofK k')).map fun x => (x.o, x.m)) = _
    rw [List.filter_filter, show (fun a => ofK k' a && !ofO o a) = fun a => (!ofO o a) && ofK k' a from funext fun a => Bool.and_comm _ _, ← List.filter_filter, off_map, h.ln k', (e0 k').2]
  · obtain ⟨h1, h2⟩ := List.mem_filter.1 hx
    rw [lv_of_other _ _ (hne x h2)]
    exact h.up x h1
/-- A key that nobody has, and for which nobody waits, is forgotten. -/
theorem Rel.del (h : Rel T D) {k : Key} {kk : List Key} (hl : (T.lkOf k).line = []) (hh : ∀ q, k ∉ (T.of q).ks) : Rel { T with lk := updF T.lk k none, kk := kk } D := by
  have e0 : ({ T with lk := updF T.lk k none, kk := kk } : Tb).lkOf k = Lk.zero := by
    show (updF T.lk k none k).getD Lk.zero = _
    rw [updF_same]
    rfl
  have e1 : ∀ k', k' ≠ k → ({ T with lk := updF T.lk k none, kk := kk } : Tb).lkOf k' = T.lkOf k' := fun k' hk => by
    show (updF T.lk k none k').getD Lk.zero = _
    rw [updF_other _ _ hk]
    rfl
  refine ⟨fun x hx => ?_, h.hx, h.hn, fun k' => ?_, h.up, h.on⟩
  · have h1 := h.hk x hx
    have hne : x.k ≠ k := fun e => hh x.o (by rw [← e]; exact h1.1)
    refine ⟨h1.1, ?_⟩
    rw [e1 _ hne]
    exact h1.2
  · by_cases e : k' = k
    · rw [e, e0, h.ln k, hl]
      rfl
    · rw [e1 _ e]; exact h.ln k'
/-- The first one in a key's line. -/
theorem Rel.first (h : Rel T D) {o : Nat} {k : Key} {m : Int} {r : List (Nat × Int)} (hl : (T.lkOf k).line = (o, m) :: r) : ∃ x, x ∈ D.line ∧ x.o = o ∧ x.k = k ∧ x.m = m ∧ ∃ q, D.lineOf k = o :: q := by
  have h1 := h.ln k
  rw [hl] at h1
  unfold DT.lineOf
  cases e : D.line.filter (ofK k) with
  | nil => rw [e] at h1; cases h1
  | cons x q =>
    rw [e, List.map_cons] at h1
    injection h1 with h2 h3
    injection h2 with h4 h5
    have h6 : x ∈ D.line.filter (ofK k) := by rw [e]; simp
    obtain ⟨h7, h8⟩ := List.mem_filter.1 h6
    exact ⟨x, h7, h4, ofK_iff.1 h8, h5, q.map DL.o, by rw [List.map_cons, h4]⟩
theorem Rel.lineOf (h : Rel T D) (k : Key) : D.lineOf k = (T.lkOf k).line.map Prod.fst := by
  rw [← h.ln k, List.map_map]
  rfl
theorem Rel.nextN {k : Key} (hx : X k) (hk : KL.dom k) : ∀ (n : Nat) (T : Tb) (D : DT) (c : List Nat), InvX X T → Rel T D → (DT.nextN n D k c).1 = (Tb.nextN n T k c).1 ∧ Rel (Tb.nextN n T k c).2 (DT.nextN n D k c).2
  | 0, T, D, c, hi, h => ⟨rfl, h⟩
  | n + 1, T, D, c, hi, h => by
    cases hl : (T.lkOf k).line with
    | nil =>
      rw [nextN_nil hl]
      have e : D.lineOf k = [] := by rw [h.lineOf, hl]; rfl
      unfold DT.nextN
      rw [e]
      exact ⟨rfl, h⟩
    | cons om r =>
      obtain ⟨o, m⟩ := om
      obtain ⟨x, x1, x2, x3, x4, q, x5⟩ := h.first hl
      have ea : D.at o = x := by rw [← x2]; exact h.at x1
      have em : D.may x = (T.lkOf k).fits o m := by rw [h.may hi, x3, x2, x4]
      unfold DT.nextN
      rw [x5]
      show (if D.may (D.at o) = true then _ else _ : List Nat × DT).1 = _ ∧ Rel _ (if D.may (D.at o) = true then _ else _ : List Nat × DT).2
      rw [ea, em]
      cases hf : (T.lkOf k).fits o m with
      | false =>
        rw [nextN_no hl hf]
        exact ⟨rfl, h⟩
      | true =>
        rw [nextN_yes hl hf, if_pos rfl, x2]
        obtain ⟨l, el, eo⟩ := lk_some_of_line hl
        obtain ⟨w1, w2, w3⟩ := (hi.lk k l el).lw o m (by rw [← eo, hl]; simp)
        have h1 := (step_inv hi hx hk hl hf).1
        have h2 := pop_inv hi hx hl
        have h3 := h.pop hi hl
        have hw : ∀ y, y ∈ (D.off o).line → y.o ≠ o := fun y hy e => by
          have := (List.mem_filter.1 hy).2
          rw [ofO_iff.2 e] at this
          cases this
        have h4 := Rel.give h3 h2 (o := o) (k := k) (m := m) x.up hw w3 (by rw [lkOf_of (pop_lk T k o r)]; exact hf)
        rw [show (⟨o, k, m, x.up⟩ : DL) = x by cases x; cases x2; cases x3; cases x4; rfl] at h4
        exact Rel.nextN hx hk n _ _ _ h1 h4
def DT.next (D : DT) (k : Key) : List Nat × DT := DT.nextN (D.lineOf k).length D k []
theorem Rel.nextT (h : Rel T D) (hi : InvX X T) {k : Key} (hx : X k) (hk : KL.dom k) (hs : (T.lk k).isSome = true) : (D.next k).1 = T.nextC k ∧ Rel (T.nextT k) (D.next k).2 := by
  have hlen : (D.lineOf k).length = (T.lkOf k).line.length := by rw [h.lineOf, List.length_map]
  unfold DT.next
  rw [hlen]
  obtain ⟨h1, h2⟩ := Rel.nextN hx hk (T.lkOf k).line.length T D [] hi h
  refine ⟨h1, ?_⟩
  obtain ⟨a1, a2, a3, a4, a5⟩ := nextN_inv hx hk (T.lkOf k).line.length T [] hi hs
  have a6 := a5 (Nat.le_refl _)
  unfold Tb.nextT
  split
  · rename_i h0
    refine Rel.del h2 ?_ fun q hq => ?_
    · cases e : ((Tb.nextN (T.lkOf k).line.length T k []).2.lkOf k).line with
      | nil => rfl
      | cons x r =>
        obtain ⟨o, m⟩ := x
        have := a6 o m r e
        rw [fits_none (show ((Tb.nextN (T.lkOf k).line.length T k []).2.lkOf k).hs = [] from h0)] at this
        cases this
    · obtain ⟨l, e1, e2⟩ := a1.holds q k hq
      have h0' : ((Tb.nextN (T.lkOf k).line.length T k []).2.lkOf k).hs = [] := h0
      rw [lkOf_of e1] at h0'
      rw [h0'] at e2
      cases e2
  · exact h2
def DT.nexts : DT → List Key → List Nat × DT
  | D, [] => ([], D)
  | D, k :: r => ((D.next k).1 ++ (DT.nexts (D.next k).2 r).1, (DT.nexts (D.next k).2 r).2)
theorem Rel.nexts : ∀ (ks : List Key) (X : Key → Prop) (T : Tb) (D : DT), InvX X T → Rel T D → ks.Nodup → (∀ k, k ∈ ks → X k ∧ KL.dom k ∧ (T.lk k).isSome = true) → (DT.nexts D ks).1 = T.nextsC ks ∧ Rel (T.nextsT ks) (DT.nexts D ks).2
  | [], X, T, D, _, h, _, _ => ⟨rfl, h⟩
  | k :: r, X, T, D, hi, h, hn, hk => by
    obtain ⟨n1, n2⟩ := List.nodup_cons.1 hn
    obtain ⟨x1, x2, x3⟩ := hk k (by simp)
    obtain ⟨a1, a2, a3⟩ := nextT_inv hi x1 x2 x3
    obtain ⟨b1, b2⟩ := h.nextT hi x1 x2 x3
    obtain ⟨c1, c2⟩ := Rel.nexts r (fun k' => X k' ∧ k' ≠ k) (T.nextT k) (D.next k).2 a1 b2 n2 (fun k' e => by
      have hne : k' ≠ k := fun e2 => n1 (e2 ▸ e)
      obtain ⟨y1, y2, y3⟩ := hk k' (by simp [e])
      exact ⟨⟨y1, hne⟩, y2, by rw [nextT_lk_other hne]; exact y3⟩)
    unfold DT.nexts Tb.nextsC
    exact ⟨by rw [b1, c1], c2⟩
/-- An owner lets go, in both tables. -/
theorem Rel.freed (h : Rel T D) (hi : Inv T) (o : Nat) : (DT.nexts (D.lv o) (T.fks o)).1 = T.came o ∧ Rel (T.freed o) (DT.nexts (D.lv o) (T.fks o)).2 :=
  Rel.nexts (T.fks o) (fun k => k ∈ T.fks o) (T.lv o) (D.lv o) (lv_inv hi o) (h.lv hi o) (fks_nodup hi o) fun _ e => ⟨e, (fks_some hi o e).1, (fks_some hi o e).2⟩
theorem rel_new : Rel Tb.new ⟨[], []⟩ := ⟨fun _ h => (nomatch h), fun _ _ h => (nomatch h), List.nodup_nil, fun _ => rfl, fun _ h => (nomatch h), List.nodup_nil⟩
end
end Go.Proofs.YtadopbpfnnpnaaaGreat

