/-
  Texts on locks, put together: LkDoc3.
-/
import Derived.Test.YtadopbpfnnpnaaaGreatL25
set_option linter.unusedVariables false
set_option linter.unusedSimpArgs false
/-
  Whom an owner waits for, by the document; its Ring: the closure is whole.
-/
namespace Go.Proofs.YtadopbpfnnpnaaaGreat
open Go.RowKit Go.Maps

/-- A number comes to a rising list, once. -/
def addN (o : Nat) : List Nat → List Nat
  | [] => [o]
  | a :: r => if a < o then a :: addN o r else if a = o then a :: r else o :: a :: r
theorem mem_addN {o b : Nat} : ∀ {l : List Nat}, b ∈ addN o l ↔ b = o ∨ b ∈ l
  | [] => by unfold addN; simp
  | a :: r => by
    unfold addN
    split
    · rw [List.mem_cons, mem_addN, List.mem_cons]
      constructor
      · rintro (h | h | h) <;> simp [h]
      · rintro (h | h | h) <;> simp [h]
    · split
      · rename_i h
        subst h
        simp
      · simp
theorem addN_rise {o : Nat} : ∀ {l : List Nat}, l.Pairwise (· < ·) → (addN o l).Pairwise (· < ·)
  | [], _ => by unfold addN; simp
  | a :: r, h => by
    obtain ⟨h1, h2⟩ := List.pairwise_cons.1 h
    unfold addN
    split
    · rename_i ha
      refine List.pairwise_cons.2 ⟨fun b hb => ?_, addN_rise h2⟩
      rcases mem_addN.1 hb with e | e
      · rw [e]; exact ha
      · exact h1 b e
    · split
      · exact h
      · rename_i ha hb
        refine List.pairwise_cons.2 ⟨fun b hb => ?_, h⟩
        rcases List.mem_cons.1 hb with e | e
        · omega
        · have := h1 b e
          omega
theorem addN_in {o : Nat} : ∀ {l : List Nat}, l.Pairwise (· < ·) → o ∈ l → addN o l = l
  | [], _, h => by cases h
  | a :: r, hp, h => by
    obtain ⟨h1, h2⟩ := List.pairwise_cons.1 hp
    unfold addN
    rcases List.mem_cons.1 h with e | e
    · rw [if_neg (by omega), if_pos e.symm]
    · have := h1 o e
      rw [if_pos this, addN_in h2 e]
theorem addN_len {o : Nat} : ∀ {l : List Nat}, l.length ≤ (addN o l).length ∧ (addN o l).length ≤ l.length + 1
  | [] => by unfold addN; simp
  | a :: r => by
    have := addN_len (o := o) (l := r)
    unfold addN
    split
    · simp only [List.length_cons]; omega
    · split
      · simp
      · simp
def adds (more : List Nat) (l : List Nat) : List Nat := more.foldl (fun s b => addN b s) l
theorem mem_adds {b : Nat} : ∀ {more l : List Nat}, b ∈ adds more l ↔ b ∈ more ∨ b ∈ l
  | [], l => by unfold adds; simp
  | a :: r, l => by
    show b ∈ adds r (addN a l) ↔ _
    rw [mem_adds, mem_addN, List.mem_cons]
    constructor
    · rintro (h | h | h) <;> simp [h]
    · rintro ((h | h) | h) <;> simp [h]
theorem adds_rise : ∀ {more l : List Nat}, l.Pairwise (· < ·) → (adds more l).Pairwise (· < ·)
  | [], _, h => h
  | a :: r, l, h => by
    show (adds r (addN a l)).Pairwise _
    exact adds_rise (addN_rise h)
theorem adds_in : ∀ {more l : List Nat}, l.Pairwise (· < ·) → (∀ b, b ∈ more → b ∈ l) → adds more l = l
  | [], _, _, _ => rfl
  | a :: r, l, hp, h => by
    show adds r (addN a l) = l
    rw [addN_in hp (h a (by simp))]
    exact adds_in hp fun b hb => h b (by simp [hb])
theorem adds_len : ∀ {more l : List Nat}, l.length ≤ (adds more l).length
  | [], _ => Nat.le_refl _
  | a :: r, l => by
    show _ ≤ (adds r (addN a l)).length
    exact Nat.le_trans addN_len.1 adds_len

/-- Those ahead of an owner in the lines. -/
def DT.ahd (D : DT) (o : Nat) : List DL := D.line.takeWhile fun x => !ofO o x
def DT.unlike (x y : DL) : Bool := ofK x.k y && !tog y.m x.m
def DT.forL (D : DT) (o : Nat) : List Nat :=
  if D.line.any (ofO o) = true then
    adds (((D.ahd o).filter (DT.unlike (D.at o))).map DL.o) (adds ((D.held.filter fun y => DT.unlike (D.at o) y && !ofO o y).map DL.o) [])
  else []
def oneRound (F : Nat → List Nat) : Nat → Nat → List Nat → List Nat
  | 0, _, S => S
  | c + 1, i, S => oneRound F c (i + 1) (adds (F (S.getD i 0)) S)
def manyRounds (F : Nat → List Nat) : Nat → List Nat → List Nat
  | 0, S => S
  | c + 1, S => manyRounds F c (oneRound F S.length 0 S)
def DT.ring (D : DT) (o : Nat) : Bool := decide (o ∈ manyRounds D.forL (D.line.length + 1) (D.forL o))
theorem mem_forL {D : DT} {o b : Nat} : b ∈ D.forL o ↔ (∃ x, x ∈ D.line ∧ x.o = o) ∧ ((∃ y, y ∈ D.held ∧ y.k = (D.at o).k ∧ tog y.m (D.at o).m = false ∧ y.o ≠ o ∧ y.o = b) ∨ ∃ y, y ∈ D.ahd o ∧ y.k = (D.at o).k ∧ tog y.m (D.at o).m = false ∧ y.o = b) := by
  unfold DT.forL
  split
  · rename_i h
    obtain ⟨x, h1, h2⟩ := List.any_eq_true.1 h
    rw [mem_adds, mem_adds]
    simp only [List.mem_map, List.mem_filter, DT.unlike, ofK_iff, Bool.and_eq_true, Bool.not_eq_true', List.not_mem_nil, or_false]
    constructor
    · rintro (⟨y, ⟨y1, y2, y3⟩, y4⟩ | ⟨y, ⟨y1, ⟨y2, y3⟩, y4⟩, y5⟩)
      · exact ⟨⟨x, h1, ofO_iff.1 h2⟩, .inr ⟨y, y1, y2, y3, y4⟩⟩
      · have hne : y.o ≠ o := fun e => by rw [ofO_iff.2 e] at y4; cases y4
        exact ⟨⟨x, h1, ofO_iff.1 h2⟩, .inl ⟨y, y1, y2, y3, hne, y5⟩⟩
    · rintro ⟨-, ⟨y, y1, y2, y3, y4, y5⟩ | ⟨y, y1, y2, y3, y4⟩⟩
      · exact .inr ⟨y, ⟨y1, ⟨y2, y3⟩, by unfold ofO; simp [y4]⟩, y5⟩
      · exact .inl ⟨y, ⟨y1, y2, y3⟩, y4⟩
  · rename_i h
    simp only [List.not_mem_nil, false_iff, not_and]
    rintro ⟨x, h1, h2⟩
    exact absurd (List.any_eq_true.2 ⟨x, h1, ofO_iff.2 h2⟩) h
theorem forL_rise (D : DT) (o : Nat) : (D.forL o).Pairwise (· < ·) := by
  unfold DT.forL
  split
  · exact adds_rise (adds_rise List.Pairwise.nil)
  · exact List.Pairwise.nil

section
variable {F : Nat → List Nat}
theorem getD_nth {l : List Nat} {i : Nat} (h : i < l.length) : l.getD i 0 = l[i] := by simp [List.getD, List.getElem?_eq_getElem h]
abbrev Shut (F : Nat → List Nat) (S : List Nat) : Prop := ∀ x, x ∈ S → ∀ b, b ∈ F x → b ∈ S
theorem round_sub {a : Nat} : ∀ {c i : Nat} {S : List Nat}, a ∈ S → a ∈ oneRound F c i S
  | 0, _, _, h => h
  | c + 1, i, S, h => by
    unfold oneRound
    exact round_sub (mem_adds.2 (.inr h))
theorem round_rise : ∀ {c i : Nat} {S : List Nat}, S.Pairwise (· < ·) → (oneRound F c i S).Pairwise (· < ·)
  | 0, _, _, h => h
  | c + 1, i, S, h => by
    unfold oneRound
    exact round_rise (adds_rise h)
theorem round_P {P : Nat → Prop} (hP : ∀ a, P a → ∀ b, b ∈ F a → P b) : ∀ {c i : Nat} {S : List Nat}, i + c ≤ S.length → (∀ a, a ∈ S → P a) → ∀ a, a ∈ oneRound F c i S → P a
  | 0, _, _, _, h => h
  | c + 1, i, S, hi, h => by
    unfold oneRound
    refine round_P hP (Nat.le_trans (by omega) adds_len) fun a ha => ?_
    rcases mem_adds.1 ha with e | e
    · refine hP _ (h (S.getD i 0) ?_) a e
      rw [getD_nth (by omega)]
      exact List.getElem_mem _
    · exact h a e
theorem round_shut : ∀ {c i : Nat} {S : List Nat}, S.Pairwise (· < ·) → i + c ≤ S.length → Shut F S → oneRound F c i S = S
  | 0, _, _, _, _, _ => rfl
  | c + 1, i, S, hr, hi, h => by
    unfold oneRound
    rw [adds_in hr (h _ (by rw [getD_nth (by omega)]; exact List.getElem_mem _))]
    exact round_shut hr (by omega) h
/-- A round over a list that is not whole makes one of it whole. -/
theorem round_more : ∀ {c i : Nat} {S : List Nat}, S.Pairwise (· < ·) → i + c = S.length → (∀ j, j < i → ∀ b, b ∈ F (S.getD j 0) → b ∈ S) → ¬ Shut F S → ∃ x, x ∈ S ∧ ¬ (∀ b, b ∈ F x → b ∈ S) ∧ ∀ b, b ∈ F x → b ∈ oneRound F c i S
  | 0, i, S, hr, hi, hj, hn => by
    refine absurd (fun x hx b hb => ?_) hn
    obtain ⟨j, h1, h2⟩ := List.getElem_of_mem hx
    refine hj j (by omega) b ?_
    rw [getD_nth h1, h2]
    exact hb
  | c + 1, i, S, hr, hi, hj, hn => by
    unfold oneRound
    have hin : S.getD i 0 ∈ S := by rw [getD_nth (by omega)]; exact List.getElem_mem _
    by_cases hw : ∀ b, b ∈ F (S.getD i 0) → b ∈ S
    · rw [adds_in hr hw]
      refine round_more hr (by omega) (fun j hji b hb => ?_) hn
      by_cases e : j = i
      · rw [e] at hb; exact hw b hb
      · exact hj j (by omega) b hb
    · exact ⟨S.getD i 0, hin, hw, fun b hb => round_sub (mem_adds.2 (.inl hb))⟩
theorem filter_le {p q : Nat → Bool} : ∀ (W : List Nat), (∀ x, p x = true → q x = true) → (W.filter p).length ≤ (W.filter q).length
  | [], _ => Nat.le_refl _
  | a :: r, h => by
    have ih := filter_le (p := p) (q := q) r h
    rw [List.filter_cons, List.filter_cons]
    cases ep : p a with
    | true => rw [h a ep]; simpa using ih
    | false =>
      cases q a with
      | true => simp; omega
      | false => simpa using ih
theorem filter_lt {p q : Nat → Bool} (x : Nat) (hx1 : p x = false) (hx2 : q x = true) : ∀ (W : List Nat), x ∈ W → (∀ x, p x = true → q x = true) → (W.filter p).length < (W.filter q).length
  | [], h, _ => by cases h
  | a :: r, hm, h => by
    have ih0 := filter_le (p := p) (q := q) r h
    rw [List.filter_cons, List.filter_cons]
    rcases List.mem_cons.1 hm with e | e
    · subst e
      rw [hx1, hx2]
      simp
      omega
    · have ih := filter_lt x hx1 hx2 r e h
      cases ep : p a with
      | true => rw [h a ep]; simpa using ih
      | false =>
        cases q a with
        | true => simp; omega
        | false => simpa using ih
def whole (F : Nat → List Nat) (S : List Nat) (x : Nat) : Bool := decide (x ∈ S) && (F x).all fun b => decide (b ∈ S)
theorem whole_iff {S : List Nat} {x : Nat} : whole F S x = true ↔ x ∈ S ∧ ∀ b, b ∈ F x → b ∈ S := by unfold whole; simp
theorem rounds_sub {a : Nat} : ∀ {c : Nat} {S : List Nat}, a ∈ S → a ∈ manyRounds F c S
  | 0, _, h => h
  | c + 1, S, h => by
    unfold manyRounds
    exact rounds_sub (round_sub h)
theorem rounds_P {P : Nat → Prop} (hP : ∀ a, P a → ∀ b, b ∈ F a → P b) : ∀ {c : Nat} {S : List Nat}, (∀ a, a ∈ S → P a) → ∀ a, a ∈ manyRounds F c S → P a
  | 0, _, h => h
  | c + 1, S, h => by
    unfold manyRounds
    exact rounds_P hP (round_P hP (by omega) h)
theorem rounds_same : ∀ {c : Nat} {S : List Nat}, S.Pairwise (· < ·) → Shut F S → manyRounds F c S = S
  | 0, _, _, _ => rfl
  | c + 1, S, hr, h => by
    unfold manyRounds
    rw [round_shut hr (by omega) h]
    exact rounds_same hr h
/-- So many rounds as there are that wait, and one more, make a list whole. -/
theorem rounds_shut (W : List Nat) (hW : ∀ x b, b ∈ F x → x ∈ W) : ∀ {c : Nat} {S : List Nat}, S.Pairwise (· < ·) → W.length < (W.filter (whole F S)).length + c → Shut F (manyRounds F c S)
  | 0, S, hr, h => by
    have := List.length_filter_le (whole F S) W
    omega
  | c + 1, S, hr, h => by
    by_cases hs : Shut F S
    · rw [rounds_same hr hs]; exact hs
    · unfold manyRounds
      obtain ⟨x, x1, x2, x3⟩ := round_more (F := F) (c := S.length) (i := 0) hr (by omega) (fun j hj => by omega) hs
      have hxW : x ∈ W := by
        refine Decidable.byContradiction fun e => x2 fun b hb => absurd (hW x b hb) e
      have h1 : whole F S x = false := by
        cases e : whole F S x with
        | false => rfl
        | true => exact absurd (whole_iff.1 e).2 x2
      have h2 : whole F (oneRound F S.length 0 S) x = true := whole_iff.2 ⟨round_sub x1, x3⟩
      have := filter_lt x h1 h2 W hxW fun y hy => by
        obtain ⟨a, b⟩ := whole_iff.1 hy
        exact whole_iff.2 ⟨round_sub a, fun q hq => round_sub (b q hq)⟩
      exact rounds_shut W hW (round_rise hr) (by omega)
end
/-- The document's Ring tells whether an owner waits for itself. -/
theorem DT.ring_iff (D : DT) (o : Nat) : D.ring o = true ↔ Way (fun a b => b ∈ D.forL a) o o := by
  unfold DT.ring
  rw [decide_eq_true_eq]
  constructor
  · intro h
    exact rounds_P (P := fun b => Way (fun a b => b ∈ D.forL a) o b) (fun a ha b hb => ha.more hb) (fun a ha => .one ha) o h
  · intro h
    have hs : Shut D.forL (manyRounds D.forL (D.line.length + 1) (D.forL o)) := by
      refine rounds_shut (D.line.map DL.o) (fun x b hb => ?_) (forL_rise D o) (by rw [List.length_map]; omega)
      obtain ⟨⟨y, y1, y2⟩, _⟩ := mem_forL.1 hb
      exact List.mem_map.2 ⟨y, y1, y2⟩
    have : ∀ b, Way (fun a b => b ∈ D.forL a) o b → b ∈ manyRounds D.forL (D.line.length + 1) (D.forL o) := fun b hw => by
      induction hw with
      | one e => exact rounds_sub e
      | more _ e ih => exact hs _ ih _ e
    exact this o h
theorem ahd_ahead {o : Nat} {k : Key} : ∀ {l : List DL}, (∀ x, x ∈ l → x.o = o → x.k = k) → (((l.takeWhile fun x => !ofO o x).filter (ofK k)).map fun x => (x.o, x.m)) = ahead o ((l.filter (ofK k)).map fun x => (x.o, x.m))
  | [], _ => rfl
  | z :: r, h => by
    have ih := ahd_ahead (o := o) (k := k) (l := r) fun x hx => h x (by simp [hx])
    rw [List.takeWhile_cons]
    by_cases ez : z.o = o
    · have hk : ofK k z = true := ofK_iff.2 (h z (by simp) ez)
      rw [ofO_iff.2 ez, List.filter_cons, hk]
      simp [ahead, ez]
    · have ho : ofO o z = false := by unfold ofO; simp [ez]
      rw [ho, List.filter_cons]
      cases hk : ofK k z with
      | true =>
        simp only [Bool.not_false, if_true, List.filter_cons, hk, List.map_cons, ahead]
        rw [if_neg ez, ih]
      | false =>
        simp only [Bool.not_false, if_true, List.filter_cons, hk, Bool.false_eq_true, if_false]
        exact ih
section
variable {X : Key → Prop} {T : Tb} {D : DT}
theorem Rel.forL (h : Rel T D) (hi : Inv T) {o b : Nat} : b ∈ D.forL o ↔ b ∈ T.whom o := by
  rw [mem_forL, mem_whom]
  constructor
  · rintro ⟨⟨x, x1, x2⟩, hb⟩
    have hx : D.at o = x := by rw [← x2]; exact h.at x1
    obtain ⟨a1, a2, a3, a4⟩ := h.line_of hi x1
    rw [x2] at a1 a2 a3
    refine ⟨by rw [a3]; omega, ?_⟩
    rw [a2, a3]
    rw [hx] at hb
    rcases hb with ⟨y, y1, y2, y3, y4, y5⟩ | ⟨y, y1, y2, y3, y4⟩
    · refine .inl ⟨(h.holders hi x.k b).2 ⟨y, y1, y5, y2⟩, by rw [← y5]; exact y4, ?_⟩
      have := (h.hk y y1).2
      rw [y2] at this
      rw [← this, tog_comm]
      exact y3
    · refine .inr ⟨y.m, ?_, by rw [tog_comm]; exact y3⟩
      rw [← h.ln x.k, ← ahd_ahead (o := o) (k := x.k) (l := D.line) fun z hz ez => by
        have e1 := h.at hz
        rw [ez, hx] at e1
        rw [e1]]
      exact List.mem_map.2 ⟨y, List.mem_filter.2 ⟨y1, ofK_iff.2 y2⟩, by rw [y4]⟩
  · rintro ⟨hw, hb⟩
    obtain ⟨x, x1, x2, x3, x4⟩ := h.waits hi hw
    have hx : D.at o = x := by rw [← x2]; exact h.at x1
    rw [hx]
    rw [← x3, ← x4] at hb
    refine ⟨⟨x, x1, x2⟩, ?_⟩
    rcases hb with ⟨h1, h2, h3⟩ | ⟨m', h1, h2⟩
    · obtain ⟨y, y1, y2, y3⟩ := (h.holders hi x.k b).1 h1
      have := (h.hk y y1).2
      rw [y3] at this
      exact .inl ⟨y, y1, y3, by rw [this, tog_comm]; exact h3, by rw [y2]; exact h2, y2⟩
    · rw [← h.ln x.k, ← ahd_ahead (o := o) (k := x.k) (l := D.line) fun z hz ez => by
        have e1 := h.at hz
        rw [ez, hx] at e1
        rw [e1]] at h1
      obtain ⟨y, y1, y2⟩ := List.mem_map.1 h1
      obtain ⟨y3, y4⟩ := List.mem_filter.1 y1
      injection y2 with y5 y6
      exact .inr ⟨y, y3, ofK_iff.1 y4, by rw [y6, tog_comm]; exact h2, y5⟩
/-- Two rising lists with the same members are one. -/
theorem rise_unique : ∀ {a b : List Nat}, a.Pairwise (· < ·) → b.Pairwise (· < ·) → (∀ q, q ∈ a ↔ q ∈ b) → a = b
  | [], [], _, _, _ => rfl
  | [], y :: s, _, _, h => by have := (h y).2 (by simp); cases this
  | x :: r, [], _, _, h => by have := (h x).1 (by simp); cases this
  | x :: r, y :: s, ha, hb, h => by
    obtain ⟨a1, a2⟩ := List.pairwise_cons.1 ha
    obtain ⟨b1, b2⟩ := List.pairwise_cons.1 hb
    have e : x = y := by
      have h1 := (h x).1 (by simp)
      have h2 := (h y).2 (by simp)
      rcases List.mem_cons.1 h1 with e1 | e1
      · exact e1
      · rcases List.mem_cons.1 h2 with e2 | e2
        · exact e2.symm
        · have := b1 x e1
          have := a1 y e2
          omega
    subst e
    rw [rise_unique a2 b2 fun q => by
      constructor
      · intro hq
        have h1 := (h q).1 (by simp [hq])
        rcases List.mem_cons.1 h1 with e1 | e1
        · have := a1 q hq; omega
        · exact e1
      · intro hq
        have h1 := (h q).2 (by simp [hq])
        rcases List.mem_cons.1 h1 with e1 | e1
        · have := b1 q hq; omega
        · exact e1]
end
end Go.Proofs.YtadopbpfnnpnaaaGreat

