/-
  Texts on locks, put together: LkDoc4 LkDoc5 Lk60.
-/
import Derived.Test.YtadopbpfnnpnaaaGreatL6
import Derived.Test.YtadopbpfnnpnaaaGreatL26
set_option linter.unusedVariables false
set_option linter.unusedSimpArgs false
/-
  One asks, by the document and by the code: the document's Ring is what ring answers.
-/
namespace Go.Proofs.YtadopbpfnnpnaaaGreat
open Go.RowKit Go.Maps

/-- Where one that upgrades stands: ahead of those of its key that do not. -/
def DT.past (x y : DL) : Bool := !(ofK x.k y && !y.up)
def DT.ins (D : DT) (x : DL) : DT :=
  { D with line := if x.up = true then D.line.takeWhile (DT.past x) ++ x :: D.line.dropWhile (DT.past x) else D.line ++ [x] }
def DT.ask (D : DT) (o : Nat) (k : Key) (m : Int) : Int × DT :=
  if ¬ (m = 1 ∨ m = 2) then (2, D)
  else if D.line.any (ofO o) = true then (if (D.at o).k = k ∧ (D.at o).m = m then (9, D) else (7, D))
  else if m ≤ D.holds o k then (0, D)
  else if D.may ⟨o, k, m, decide (D.holds o k ≠ 0)⟩ = true ∧ (D.holds o k ≠ 0 ∨ (D.lineOf k).length = 0) then (0, D.give ⟨o, k, m, decide (D.holds o k ≠ 0)⟩)
  else if (D.ins ⟨o, k, m, decide (D.holds o k ≠ 0)⟩).ring o = true then (10, D)
  else (9, D.ins ⟨o, k, m, decide (D.holds o k ≠ 0)⟩)
theorem take_all {p : DL → Bool} : ∀ {l : List DL} {y : DL}, y ∈ l.takeWhile p → p y = true
  | [], _, h => by cases h
  | a :: r, y, h => by
    rw [List.takeWhile_cons] at h
    split at h
    · rename_i ha
      rcases List.mem_cons.1 h with e | e
      · rw [e]; exact ha
      · exact take_all e
    · cases h
section
variable {T : Tb} {D : DT} {o : Nat}
/-- One that waits comes to each other holder of what it waits for. -/
theorem hold_way (hi : Inv T) {a q : Nat} (hw : (T.of a).mode ≠ 0) (hq : q ∈ (T.lkOf (T.of a).key).hs) (hne : q ≠ a) : Way T.edge a q := by
  obtain ⟨l, hl, hin⟩ := hi.wt a hw
  have hlk := lkOf_of hl
  rw [hlk] at hq
  have hk := hi.lk _ l hl
  obtain ⟨hn, hst⟩ := hi.full _ l hl (fun e => e)
  cases ht : tog (T.of a).mode l.mode with
  | false => exact .one (mem_whom.2 ⟨hw, .inl (by rw [hlk]; exact ⟨hq, hne, ht⟩)⟩)
  | true =>
    have ht' := ht
    unfold tog at ht'
    simp only [Bool.and_eq_true, decide_eq_true_eq] at ht'
    obtain ⟨t1, t2⟩ := ht'
    cases hline : l.line with
    | nil => rw [hline] at hin; cases hin
    | cons x r =>
      obtain ⟨f, mf⟩ := x
      have hfit := hst f mf r hline
      unfold Lk.fits at hfit
      rw [Bool.or_eq_false_iff] at hfit
      have hf2 := hfit.2
      obtain ⟨w1, w2, w3⟩ := hk.lw f mf (by rw [hline]; simp)
      have hm : mf = 2 := by
        rcases w3 with e | e
        · rw [e, t2] at hf2; cases hf2
        · exact e
      have hfa : f ≠ a := fun e => by rw [e, t1] at w2; omega
      have h1 : Way T.edge a f := .one (mem_whom.2 ⟨hw, .inr ⟨mf, by rw [hlk, hline]; exact ahead_head hfa, by rw [hm]; unfold tog; simp⟩⟩)
      by_cases hqf : q = f
      · rw [hqf]; exact h1
      · refine h1.more (mem_whom.2 ⟨by rw [w2]; omega, .inl ?_⟩)
        rw [w1, hlk, w2]
        exact ⟨hq, hqf, hf2⟩
theorem stand_hs (T : Tb) (o : Nat) (k : Key) (m : Int) (k' : Key) : ((T.stand o k m).lkOf k').hs = (T.lkOf k').hs ∧ ((T.stand o k m).lkOf k').mode = (T.lkOf k').mode := by
  by_cases ek : k' = k
  · subst ek
    unfold Tb.lkOf
    rw [stand_lk_same]
    exact ⟨rfl, rfl⟩
  · unfold Tb.lkOf
    rw [stand_lk_other _ _ _ ek]
    exact ⟨rfl, rfl⟩
theorem lead_way {k : Key} {m : Int} (hi' : Inv (T.stand o k m)) (hw : (T.of o).mode = 0) {c : Key} (h : T.Leads (T.of o).ks c) : ∀ a, ((T.stand o k m).of a).mode ≠ 0 → ((T.stand o k m).of a).key = c → Way (T.stand o k m).edge a o := by
  have go : ∀ {c : Key} {q : Nat}, q ∈ (T.lkOf c).hs → Way (T.stand o k m).edge q o → ∀ a, ((T.stand o k m).of a).mode ≠ 0 → ((T.stand o k m).of a).key = c → Way (T.stand o k m).edge a o := fun {c q} hq hway a ha hak => by
    by_cases e : q = a
    · rw [← e]; exact hway
    · refine (hold_way hi' ha ?_ e).trans hway
      rw [hak, (stand_hs T o k m c).1]
      exact hq
  have ne : ∀ {q : Nat}, (T.of q).mode ≠ 0 → q ≠ o := fun {q} hq e => by rw [e] at hq; exact hq hw
  induction h with
  | @hit c q hq hm hk =>
    refine go hq (hold_way hi' ?_ ?_ (ne hm).symm)
    · rw [stand_of_other _ _ _ (ne hm)]; exact hm
    · rw [stand_of_other _ _ _ (ne hm)]
      obtain ⟨l, e1, e2⟩ := hi'.holds o (T.of q).key (by rw [stand_of_same]; exact hk)
      rw [lkOf_of e1]
      exact e2
  | @via c q hq hm _ ih =>
    refine go hq (ih q ?_ ?_)
    · rw [stand_of_other _ _ _ (ne hm)]; exact hm
    · rw [stand_of_other _ _ _ (ne hm)]
theorem Rel.stand (h : Rel T D) (hi : Inv T) {k : Key} {m : Int} (hw : (T.of o).mode = 0) (hR : k ∈ (T.of o).ks → ∀ x r, (T.lkOf k).line = x :: r → x.1 ∉ (T.lkOf k).hs) : Rel (T.stand o k m) (D.ins ⟨o, k, m, decide (k ∈ (T.of o).ks)⟩) := by
  have hno : ∀ y, y ∈ D.line → y.o ≠ o := fun y hy e => by
    obtain ⟨-, -, h3, h4⟩ := h.line_of hi hy
    rw [e, hw] at h3
    omega
  have hks : ∀ q, ((T.stand o k m).of q).ks = (T.of q).ks := fun q => by
    by_cases e : q = o
    · rw [e, stand_of_same]
    · rw [stand_of_other _ _ _ e]
  have hsplit : ∃ A Z, D.line = A ++ Z ∧ (D.ins ⟨o, k, m, decide (k ∈ (T.of o).ks)⟩).line = A ++ ⟨o, k, m, decide (k ∈ (T.of o).ks)⟩ :: Z ∧ ((k ∈ (T.of o).ks → A.filter (ofK k) = []) ∧ (k ∉ (T.of o).ks → Z = [])) := by
    unfold DT.ins
    by_cases hk : k ∈ (T.of o).ks
    · have hd : decide (k ∈ (T.of o).ks) = true := by simp [hk]
      refine ⟨_, _, (List.takeWhile_append_dropWhile (p := DT.past ⟨o, k, m, decide (k ∈ (T.of o).ks)⟩)).symm, by rw [hd]; rfl, fun _ => ?_, fun e => absurd hk e⟩
      rw [List.filter_eq_nil_iff]
      intro y hy hyk
      have h1 := take_all hy
      have hyl : y ∈ D.line := List.takeWhile_subset _ hy
      have h2 : y.up = true := by
        unfold DT.past at h1
        have hyk' : ofK k y = true := hyk
        simp only [hyk'] at h1
        simpa using h1
      rw [h.up y hyl, decide_eq_true_eq] at h2
      have h3 := ofK_iff.1 hyk
      rw [h3] at h2
      obtain ⟨l, e1, e2⟩ := hi.holds y.o k h2
      have h4 := (h.line_of hi hyl).1
      rw [h3] at h4
      have hR' := hR hk
      rw [lkOf_of e1] at hR' h4
      cases hl : l.line with
      | nil => rw [hl] at h4; cases h4
      | cons x r =>
        rw [hl] at h4
        rcases List.mem_cons.1 h4 with e | e
        · exact hR' x r hl (by rw [← e]; exact e2)
        · exact (hi.lk k l e1).up x r hl _ e e2
    · have hd : decide (k ∈ (T.of o).ks) = false := by simp [hk]
      exact ⟨D.line, [], (List.append_nil _).symm, by rw [hd]; rfl, fun e => absurd e hk, fun _ => rfl⟩
  obtain ⟨A, Z, s1, s2, s3, s4⟩ := hsplit
  have hheld : (D.ins ⟨o, k, m, decide (k ∈ (T.of o).ks)⟩).held = D.held := rfl
  refine ⟨fun x hx => ?_, fun q k' hq => ?_, h.hn, fun k' => ?_, fun x hx => ?_, ?_⟩
  · rw [hks, (stand_hs T o k m _).2]; exact h.hk x hx
  · rw [hks] at hq; exact h.hx q k' hq
  · rw [s2, List.filter_append, List.filter_cons]
    have hl := h.ln k'
    rw [s1, List.filter_append] at hl
    by_cases e : k' = k
    · subst e
      rw [if_pos (show ofK k' ⟨o, k', m, decide (k' ∈ (T.of o).ks)⟩ = true from ofK_iff.2 rfl), lkOf_of (stand_lk_same T o k' m)]
      show _ = lineIn (decide (k' ∈ (T.of o).ks)) o m (T.lkOf k').line
      rw [← hl]
      unfold lineIn
      by_cases hk : k' ∈ (T.of o).ks
      · rw [if_pos (by simp [hk]), s3 hk]
        rfl
      · rw [if_neg (by simp [hk]), s4 hk]
        simp
    · rw [if_neg (show ¬ ofK k' ⟨o, k, m, decide (k ∈ (T.of o).ks)⟩ = true from fun h => e (ofK_iff.1 h).symm)]
      rw [show (T.stand o k m).lkOf k' = T.lkOf k' by unfold Tb.lkOf; rw [stand_lk_other _ _ _ e]]
      exact hl
  · rw [hks]
    rw [s2] at hx
    rcases List.mem_append.1 hx with e | e
    · exact h.up x (by rw [s1]; simp [e])
    · rcases List.mem_cons.1 e with e | e
      · rw [e]
      · exact h.up x (by rw [s1]; simp [e])
  · rw [s2, List.map_append, List.map_cons]
    refine (List.perm_middle.nodup_iff).2 (List.nodup_cons.2 ⟨fun e => ?_, ?_⟩)
    · rw [← List.map_append, ← s1] at e
      obtain ⟨y, y1, y2⟩ := List.mem_map.1 e
      exact hno y y1 y2
    · rw [← List.map_append, ← s1]; exact h.on
theorem way_iff {r s : Nat → Nat → Prop} (h : ∀ a b, r a b ↔ s a b) {a b : Nat} : Way r a b ↔ Way s a b := by
  have : r = s := by
    funext a b
    exact propext (h a b)
  rw [this]
theorem Rel.any (h : Rel T D) (hi : Inv T) : D.line.any (ofO o) = true ↔ (T.of o).mode ≠ 0 := by
  rw [List.any_eq_true]
  constructor
  · rintro ⟨x, h1, h2⟩
    obtain ⟨-, -, h3, h4⟩ := h.line_of hi h1
    rw [ofO_iff.1 h2] at h3
    omega
  · intro hw
    obtain ⟨x, x1, x2, -, -⟩ := h.waits hi hw
    exact ⟨x, x1, ofO_iff.2 x2⟩
theorem hold_is (hi : Inv T) (k : Key) : (k ∈ (T.of o).ks ∧ (T.hold o k = 1 ∨ T.hold o k = 2)) ∨ (k ∉ (T.of o).ks ∧ T.hold o k = 0) := by
  unfold Tb.hold
  by_cases hk : k ∈ (T.of o).ks
  · left
    rw [if_pos hk]
    obtain ⟨l, e1, e2⟩ := hi.holds o k hk
    rw [lkOf_of e1]
    exact ⟨hk, (hi.lk k l e1).md fun e => by rw [e] at e2; cases e2⟩
  · right
    rw [if_neg hk]
    exact ⟨hk, rfl⟩
/-- What the document's Ring tells of one that stands in the line. -/
theorem Rel.ring (h : Rel T D) (hi : Inv T) (ha : Acyc T) {k : Key} {m : Int} (ho : KO.dom o) (hk : KL.dom k) (hw : (T.of o).mode = 0) (hm : m = 1 ∨ m = 2) (hmay : T.may o k m = false) (hh : ¬ (T.hold o k = m ∨ T.hold o k = 2)) :
    ((D.ins ⟨o, k, m, decide (k ∈ (T.of o).ks)⟩).ring o = true ↔ T.Leads (T.of o).ks k) ∧ (¬ T.Leads (T.of o).ks k → Rel (T.stand o k m) (D.ins ⟨o, k, m, decide (k ∈ (T.of o).ks)⟩)) := by
  by_cases hR : k ∈ (T.of o).ks → ∀ x r, (T.lkOf k).line = x :: r → x.1 ∉ (T.lkOf k).hs
  · have hrel := h.stand hi (m := m) hw hR
    have hi' := (stand_inv hi ho hk hw hm hmay hR).1
    refine ⟨?_, fun _ => hrel⟩
    rw [DT.ring_iff, way_iff (s := (T.stand o k m).edge) fun a b => hrel.forL hi']
    constructor
    · intro hW
      refine Classical.byContradiction fun e => stand_acyc hi ha (m := m) hw e o hW
    · intro hL
      refine lead_way hi' hw hL o ?_ ?_
      · rw [stand_of_same]
        show m ≠ 0
        omega
      · rw [stand_of_same]
  · have hR' : k ∈ (T.of o).ks ∧ ∃ x r, (T.lkOf k).line = x :: r ∧ x.1 ∈ (T.lkOf k).hs := by
      refine Classical.byContradiction fun e => hR fun hk x r hl hx => e ⟨hk, x, r, hl, hx⟩
    obtain ⟨hks, ⟨f, mf⟩, r, hl, hf⟩ := hR'
    have hf : f ∈ (T.lkOf k).hs := hf
    obtain ⟨l, el, eo⟩ := lk_some_of_line hl
    have hin := hi.lk k l el
    obtain ⟨w1, w2, w3⟩ := hin.lw f mf (by rw [← eo, hl]; simp)
    have hfm : (T.of f).mode ≠ 0 := by rw [w2]; omega
    have hfo : f ≠ o := fun e => by rw [e] at hfm; exact hfm hw
    have hL : T.Leads (T.of o).ks k := .hit hf hfm (by rw [w1]; exact hks)
    refine ⟨?_, fun e => absurd hL e⟩
    refine ⟨fun _ => hL, fun _ => ?_⟩
    rw [DT.ring_iff]
    obtain ⟨l2, el2, ho2⟩ := hi.holds o k hks
    rw [el] at el2
    cases el2
    rw [eo] at hf
    have hmode : l.mode = 1 := by
      rcases hin.md (fun e => by rw [e] at hf; cases hf) with e | e
      · exact e
      · have h1 := hin.one e
        have h2 := nodup_le [f, o] l.hs (by simp [hfo]) fun q hq => by
          simp at hq
          rcases hq with rfl | rfl
          · exact hf
          · exact ho2
        simp at h2
        omega
    have hhold : T.hold o k = 1 := by
      unfold Tb.hold
      rw [if_pos hks, eo, hmode]
    have hm2 : m = 2 := by
      rcases hm with e | e
      · exact absurd (.inl (by rw [hhold, e])) hh
      · exact e
    have hmf : mf = 2 := by
      have h1 := (hi.full k l el (fun e => e)).2 f mf r (by rw [← eo, hl])
      unfold Lk.fits at h1
      rw [Bool.or_eq_false_iff] at h1
      rcases w3 with e | e
      · rw [e, hmode] at h1; exact absurd h1.2 (by unfold tog; simp)
      · exact e
    have hno : ∀ y, y ∈ D.line → y.o ≠ o := fun y hy e => by
      obtain ⟨-, -, h3, h4⟩ := h.line_of hi hy
      rw [e, hw] at h3
      omega
    obtain ⟨A, Z, s1, s2⟩ : ∃ A Z, D.line = A ++ Z ∧ (D.ins ⟨o, k, m, decide (k ∈ (T.of o).ks)⟩).line = A ++ ⟨o, k, m, decide (k ∈ (T.of o).ks)⟩ :: Z := by
      unfold DT.ins
      have hd : decide (k ∈ (T.of o).ks) = true := by simp [hks]
      exact ⟨_, _, (List.takeWhile_append_dropWhile (p := DT.past ⟨o, k, m, decide (k ∈ (T.of o).ks)⟩)).symm, by rw [hd]; rfl⟩
    have hnd : ((D.ins ⟨o, k, m, decide (k ∈ (T.of o).ks)⟩).line.map DL.o).Nodup := by
      rw [s2, List.map_append, List.map_cons]
      refine (List.perm_middle.nodup_iff).2 (List.nodup_cons.2 ⟨fun e => ?_, ?_⟩)
      · rw [← List.map_append, ← s1] at e
        obtain ⟨y, y1, y2⟩ := List.mem_map.1 e
        exact hno y y1 y2
      · rw [← List.map_append, ← s1]; exact h.on
    have hat : ∀ y, y ∈ (D.ins ⟨o, k, m, decide (k ∈ (T.of o).ks)⟩).line → (D.ins ⟨o, k, m, decide (k ∈ (T.of o).ks)⟩).at y.o = y := fun y hy => by
      unfold DT.at
      rw [show ofO y.o = fun z => decide (DL.o z = DL.o y) from rfl, nodup_find hnd hy]
      rfl
    have hxin : (⟨o, k, m, decide (k ∈ (T.of o).ks)⟩ : DL) ∈ (D.ins ⟨o, k, m, decide (k ∈ (T.of o).ks)⟩).line := by rw [s2]; simp
    obtain ⟨z, z1, z2, z3, z4, -⟩ := h.first hl
    have hzin : z ∈ (D.ins ⟨o, k, m, decide (k ∈ (T.of o).ks)⟩).line := by
      rw [s2]
      rw [s1] at z1
      rcases List.mem_append.1 z1 with e | e
      · simp [e]
      · simp [e]
    obtain ⟨y1, q1, q2, q3⟩ := (h.holders hi k f).1 (by rw [eo]; exact hf)
    obtain ⟨y2, p1, p2, p3⟩ := (h.holders hi k o).1 (by rw [eo]; exact ho2)
    have g1 := hat _ hxin
    have g2 := hat _ hzin
    rw [z2] at g2
    have e1 : f ∈ (D.ins ⟨o, k, m, decide (k ∈ (T.of o).ks)⟩).forL o := by
      rw [mem_forL]
      refine ⟨⟨_, hxin, rfl⟩, .inl ⟨y1, q1, ?_, ?_, by rw [q2]; exact hfo, q2⟩⟩
      · rw [g1]; exact q3
      · rw [g1]
        show tog y1.m m = false
        rw [hm2]
        unfold tog
        simp
    have e2 : o ∈ (D.ins ⟨o, k, m, decide (k ∈ (T.of o).ks)⟩).forL f := by
      rw [mem_forL]
      refine ⟨⟨_, hzin, z2⟩, .inl ⟨y2, p1, ?_, ?_, by rw [p2]; exact hfo.symm, p2⟩⟩
      · rw [g2, z3]; exact p3
      · rw [g2, z4, hmf]
        unfold tog
        simp
    exact (Way.one e1).more e2
/-- One asks: both answer alike, and go on alike. -/
theorem Rel.ask (h : Rel T D) (hi : Inv T) (ha : Acyc T) {k : Key} {m : Int} {R : Bool} (ho : KO.dom o) (hk : KL.dom k) (hmany : T.many < 65536) (hR : T.may o k m = false → RingOk T o k R) :
    (D.ask o k m).1 = (T.ask o k m R).1 ∧ Rel (T.ask o k m R).2 (D.ask o k m).2 := by
  have hup : decide (D.holds o k ≠ 0) = decide (k ∈ (T.of o).ks) := by
    rw [h.holds hi]
    rcases hold_is hi (o := o) k with ⟨e1, e2⟩ | ⟨e1, e2⟩
    · simp only [e1, decide_true, decide_eq_true_eq]
      omega
    · simp [e1, e2]
  unfold DT.ask
  rw [hup]
  unfold Tb.ask
  by_cases hm : m = 1 ∨ m = 2
  · rw [if_neg (show ¬ ¬ (m = 1 ∨ m = 2) from fun e => e hm), if_neg (show ¬ ¬ (m = 1 ∨ m = 2) from fun e => e hm)]
    by_cases hw : (T.of o).mode = 0
    · have hno : ¬ D.line.any (ofO o) = true := fun e => (h.any hi).1 e hw
      rw [if_neg hno, if_neg (show ¬ ((T.of o).mode = m ∧ (T.of o).key = k) from fun e => by omega), if_neg (show ¬ (T.of o).mode ≠ 0 from fun e => e hw)]
      rw [h.holds hi]
      by_cases hh : T.hold o k = m ∨ T.hold o k = 2
      · rw [if_pos hh, if_pos (show m ≤ T.hold o k by rcases hh with e | e <;> omega)]
        exact ⟨rfl, h⟩
      · have h01 := hold_is hi (o := o) k
        rw [if_neg hh, if_neg (show ¬ m ≤ T.hold o k by
          intro e
          rcases h01 with ⟨_, e1 | e1⟩ | ⟨_, e1⟩ <;> omega), if_neg (show ¬ ((T.hold o k = 0 ∨ T.may o k m = false) ∧ T.many = 65536) from fun e => by omega)]
        have hmayeq : (D.may ⟨o, k, m, decide (k ∈ (T.of o).ks)⟩ = true ∧ (T.hold o k ≠ 0 ∨ (D.lineOf k).length = 0)) ↔ T.may o k m = true := by
          rw [h.may hi, h.lineOf, List.length_map]
          show (T.lkOf k).fits o m = true ∧ _ ↔ _
          unfold Tb.may
          cases e : T.lk k with
          | none =>
            have e2 : T.lkOf k = Lk.zero := by unfold Tb.lkOf; rw [e]; rfl
            rw [e2, fits_none (show Lk.zero.hs = [] from rfl)]
            simp [Lk.zero]
          | some l =>
            rw [lkOf_of e]
            simp only [Bool.and_eq_true, Bool.or_eq_true, decide_eq_true_eq]
            have h1 : T.hold o k ≠ 0 ↔ k ∈ (T.of o).ks := by
              rcases h01 with ⟨a1, a2⟩ | ⟨a1, a2⟩
              · simp only [a1, iff_true]; omega
              · simp [a1, a2]
            have h2 : (l.line.length : Int) = 0 ↔ l.line.length = 0 := by omega
            rw [h1, h2]
        by_cases hmay : T.may o k m = true
        · rw [if_pos hmay, if_pos (hmayeq.2 hmay)]
          refine ⟨rfl, Rel.give h hi _ (fun x hx e => ?_) hm ?_⟩
          · exact hno (List.any_eq_true.2 ⟨x, hx, ofO_iff.2 e⟩)
          · have := (hmayeq.2 hmay).1
            rw [h.may hi] at this
            exact this
        · have hmayf : T.may o k m = false := by simpa using hmay
          rw [if_neg hmay, if_neg (fun e => hmay (hmayeq.1 e))]
          obtain ⟨r1, r2⟩ := h.ring hi ha ho hk hw hm hmayf hh
          have r3 := hR hmayf
          unfold RingOk at r3
          by_cases hL : T.Leads (T.of o).ks k
          · rw [if_pos (r1.2 hL), if_pos (r3.2 hL)]
            exact ⟨rfl, h⟩
          · rw [if_neg (fun e => hL (r1.1 e)), if_neg (fun e => hL (r3.1 e))]
            exact ⟨rfl, r2 hL⟩
    · have hyes := (h.any hi).2 hw
      rw [if_pos hyes]
      obtain ⟨x, x1, x2, x3, x4⟩ := h.waits hi hw
      have hx : D.at o = x := by rw [← x2]; exact h.at x1
      rw [hx, x3, x4]
      by_cases e : (T.of o).mode = m ∧ (T.of o).key = k
      · rw [if_pos e, if_pos ⟨e.2, e.1⟩]
        exact ⟨rfl, h⟩
      · rw [if_neg e, if_pos hw, if_neg (fun e2 => e ⟨e2.2, e2.1⟩)]
        exact ⟨rfl, h⟩
  · rw [if_pos hm, if_pos hm]
    exact ⟨rfl, h⟩
end
end Go.Proofs.YtadopbpfnnpnaaaGreat

/-
  The keys that an owner leaves, by the document; Free, by the document and by the code.
-/
namespace Go.Proofs.YtadopbpfnnpnaaaGreat
open Go.RowKit Go.Maps

def lessK (a b : Key) : Bool := decide (a.1 < b.1) || (decide (a.1 = b.1) && decide (a.2 < b.2))
theorem lessK_iff {a b : Key} : lessK a b = true ↔ a.1 < b.1 ∨ (a.1 = b.1 ∧ a.2 < b.2) := by unfold lessK; simp
theorem key_ext {a b : Key} (h1 : a.1 = b.1) (h2 : a.2 = b.2) : a = b := Prod.ext h1 h2
theorem lessK_trans {a b c : Key} (h1 : lessK a b = true) (h2 : lessK b c = true) : lessK a c = true := by
  rw [lessK_iff] at *
  omega
theorem lessK_irr (a : Key) : lessK a a = false := by
  cases e : lessK a a with
  | false => rfl
  | true => rw [lessK_iff] at e; omega
/-- A key comes to a rising list, once. -/
def insK (k : Key) : List Key → List Key
  | [] => [k]
  | a :: r => if lessK a k = true then a :: insK k r else if a = k then a :: r else k :: a :: r
theorem mem_insK {k b : Key} : ∀ {l : List Key}, b ∈ insK k l ↔ b = k ∨ b ∈ l
  | [] => by unfold insK; simp
  | a :: r => by
    unfold insK
    split
    · rw [List.mem_cons, mem_insK, List.mem_cons]
      constructor
      · rintro (h | h | h) <;> simp [h]
      · rintro (h | h | h) <;> simp [h]
    · split
      · rename_i h
        subst h
        simp
      · simp
theorem insK_rise {k : Key} : ∀ {l : List Key}, l.Pairwise (fun a b => lessK a b = true) → (insK k l).Pairwise fun a b => lessK a b = true
  | [], _ => by unfold insK; simp
  | a :: r, h => by
    obtain ⟨h1, h2⟩ := List.pairwise_cons.1 h
    unfold insK
    split
    · rename_i ha
      refine List.pairwise_cons.2 ⟨fun b hb => ?_, insK_rise h2⟩
      rcases mem_insK.1 hb with e | e
      · rw [e]; exact ha
      · exact h1 b e
    · split
      · exact h
      · rename_i ha hb
        have hka : lessK k a = true := by
          rw [lessK_iff] at ha ⊢
          have : ¬ (a.1 = k.1 ∧ a.2 = k.2) := fun e => hb (key_ext e.1 e.2)
          omega
        refine List.pairwise_cons.2 ⟨fun b hb => ?_, h⟩
        rcases List.mem_cons.1 hb with e | e
        · rw [e]; exact hka
        · exact lessK_trans hka (h1 b e)
theorem riseK_unique : ∀ {a b : List Key}, a.Pairwise (fun a b => lessK a b = true) → b.Pairwise (fun a b => lessK a b = true) → (∀ q, q ∈ a ↔ q ∈ b) → a = b
  | [], [], _, _, _ => rfl
  | [], y :: s, _, _, h => by have := (h y).2 (by simp); cases this
  | x :: r, [], _, _, h => by have := (h x).1 (by simp); cases this
  | x :: r, y :: s, ha, hb, h => by
    obtain ⟨a1, a2⟩ := List.pairwise_cons.1 ha
    obtain ⟨b1, b2⟩ := List.pairwise_cons.1 hb
    have irr : ∀ q : Key, ¬ lessK q q = true := fun q e => by rw [lessK_irr] at e; cases e
    have e : x = y := by
      have h1 := (h x).1 (by simp)
      have h2 := (h y).2 (by simp)
      rcases List.mem_cons.1 h1 with e1 | e1
      · exact e1
      · rcases List.mem_cons.1 h2 with e2 | e2
        · exact e2.symm
        · exact absurd (lessK_trans (b1 x e1) (a1 y e2)) (irr y)
    subst e
    rw [riseK_unique a2 b2 fun q => by
      constructor
      · intro hq
        have h1 := (h q).1 (by simp [hq])
        rcases List.mem_cons.1 h1 with e1 | e1
        · exact absurd (show lessK x x = true by have := a1 q hq; rw [e1] at this; exact this) (irr x)
        · exact e1
      · intro hq
        have h1 := (h q).2 (by simp [hq])
        rcases List.mem_cons.1 h1 with e1 | e1
        · exact absurd (show lessK x x = true by have := b1 q hq; rw [e1] at this; exact this) (irr x)
        · exact e1]
theorem leK_less {a b : Key} (h : leK a b = true) (hne : a ≠ b) : lessK a b = true := by
  have hne' : ¬ (a.1 = b.1 ∧ a.2 = b.2) := fun e => hne (key_ext e.1 e.2)
  rw [lessK_iff]
  unfold leK ltOf cmpK Lib.compareInt at h
  simp at h
  split at h <;> omega
theorem sortK_rise {ks : List Key} (hn : ks.Nodup) : (sortK ks).Pairwise fun a b => lessK a b = true := by
  have h1 := sortK_pw ks
  have h2 : (sortK ks).Nodup := (sortK_perm ks).nodup_iff.2 hn
  exact List.Pairwise.imp₂ (fun a b hle hne => leK_less hle hne) h1 h2
def keysOf (o : Nat) : List DL → List Key → List Key
  | [], l => l
  | x :: r, l => keysOf o r (if x.o = o then insK x.k l else l)
def DT.keysL (D : DT) (o : Nat) : List Key := keysOf o D.held []
def DT.freeKs (D : DT) (o : Nat) : List Key := if D.line.any (ofO o) = true then insK (D.at o).k (D.keysL o) else D.keysL o
def DT.free (D : DT) (o : Nat) : List Nat × DT := DT.nexts (D.lv o) (D.freeKs o)
theorem mem_keysOf {o : Nat} {b : Key} : ∀ {hs : List DL} {l : List Key}, b ∈ keysOf o hs l ↔ (∃ x, x ∈ hs ∧ x.o = o ∧ x.k = b) ∨ b ∈ l
  | [], l => by unfold keysOf; simp
  | x :: r, l => by
    unfold keysOf
    rw [mem_keysOf]
    split
    · rename_i hx
      rw [mem_insK]
      constructor
      · rintro (⟨y, y1, y2⟩ | rfl | h)
        · exact .inl ⟨y, by simp [y1], y2⟩
        · exact .inl ⟨x, by simp, hx, rfl⟩
        · exact .inr h
      · rintro (⟨y, y1, y2, y3⟩ | h)
        · rcases List.mem_cons.1 y1 with e | e
          · exact .inr (.inl (by rw [← y3, e]))
          · exact .inl ⟨y, e, y2, y3⟩
        · exact .inr (.inr h)
    · rename_i hx
      constructor
      · rintro (⟨y, y1, y2⟩ | h)
        · exact .inl ⟨y, by simp [y1], y2⟩
        · exact .inr h
      · rintro (⟨y, y1, y2, y3⟩ | h)
        · rcases List.mem_cons.1 y1 with e | e
          · rw [e] at y2; exact absurd y2 hx
          · exact .inl ⟨y, e, y2, y3⟩
        · exact .inr h
theorem keysOf_rise {o : Nat} : ∀ {hs : List DL} {l : List Key}, l.Pairwise (fun a b => lessK a b = true) → (keysOf o hs l).Pairwise fun a b => lessK a b = true
  | [], _, h => h
  | x :: r, l, h => by
    unfold keysOf
    refine keysOf_rise ?_
    split
    · exact insK_rise h
    · exact h
section
variable {T : Tb} {D : DT}
theorem Rel.keysL (h : Rel T D) (hi : Inv T) (o : Nat) : D.keysL o = sortK (T.of o).ks := by
  refine riseK_unique (keysOf_rise List.Pairwise.nil) (sortK_rise (hi.pnd o)) fun q => ?_
  unfold DT.keysL
  rw [mem_keysOf, (sortK_perm _).mem_iff]
  constructor
  · rintro (⟨x, x1, x2, x3⟩ | h)
    · have := (h.hk x x1).1
      rw [x2, x3] at this
      exact this
    · cases h
  · intro hq
    obtain ⟨x, x1, x2, x3⟩ := h.hx o q hq
    exact .inl ⟨x, x1, x2, x3⟩
theorem Rel.freeKs (h : Rel T D) (hi : Inv T) (o : Nat) : D.freeKs o = T.fks o := by
  unfold DT.freeKs Tb.fks
  by_cases hw : (T.of o).mode = 0
  · rw [if_neg (fun e => (h.any hi).1 e hw), if_pos hw]
    exact h.keysL hi o
  · rw [if_pos ((h.any hi).2 hw), if_neg hw]
    obtain ⟨x, x1, x2, x3, x4⟩ := h.waits hi hw
    have hx : D.at o = x := by rw [← x2]; exact h.at x1
    rw [hx, h.keysL hi o]
    refine riseK_unique (insK_rise (sortK_rise (hi.pnd o))) (sortK_rise (nodup_putK (hi.pnd o))) fun q => ?_
    rw [mem_insK, (sortK_perm _).mem_iff, (sortK_perm _).mem_iff, mem_putK, x3]
/-- One lets go: both answer alike, and go on alike. -/
theorem Rel.free (h : Rel T D) (hi : Inv T) (o : Nat) : (D.free o).1 = T.came o ∧ Rel (T.freed o) (D.free o).2 := by
  unfold DT.free
  rw [h.freeKs hi]
  exact h.freed hi o
end
end Go.Proofs.YtadopbpfnnpnaaaGreat

/-
  An append to a row of owners of the call's own: in which block it lies then.
-/
namespace Go.Proofs.YtadopbpfnnpnaaaGreat
open Go.RowKit Go.Maps

theorem run_app_us {w : World} {base : Nat} {v : Value} {xs ys : List Nat} (hr : Us w base v xs) {g q c : Nat} (hy : ∀ j, j < ys.length → w.cell? ⟨g, q + j, none⟩ = some (u64v (ys.getD j 0))) (hk : xs.length + ys.length ≤ 1000000000) (hb : base ≤ w.heap.size) (ty : TypeId) :
    ∃ v' w', (Builtin.append_ #[TUs, TUs] ty #[v, .slice (some ⟨g, q, none⟩) ys.length c]).run Tryz.prog w = .ok v' w' ∧ Us w' base v' (xs ++ ys) ∧ w.grownBy w' v.ownBlock ∧ ∀ k, v'.ownBlock = some k → v.ownBlock = some k ∨ w.heap.size ≤ k := by
  obtain ⟨i, hi, hz, hsz, hbb⟩ := inf_parts u64_info
  have hl : (ys.map u64v).length = ys.length * 1 := by simp
  have hl2 : (ys.map u64v).length = ys.length * i.size := by rw [hsz]; exact hl
  have hnews : ∀ j u, (ys.map u64v)[j]? = some u → w.cell? ((⟨g, q, none⟩ : Addr).add j) = some u := fun j u hj => by
    have hlt : j < ys.length := by simpa using (List.getElem?_eq_some_iff.1 hj).1
    rw [add_lit', hy j hlt, ← hj, List.getElem?_map]
    simp [List.getD, hlt]
  have h1 : ∀ u, u ∈ ys.map u64v → u.oneCell' = true := fun u hu => by
    obtain ⟨x, _, rfl⟩ := List.mem_map.1 hu
    rfl
  obtain ⟨v', w', e1, e2, e3, -⟩ := run_append_own (P := Tryz.prog) w base TUs ty TOw i (.int .u64 0) 1 8 Tryz.underlying38 hi hz hsz hbb rfl (by decide) v xs.length _ hr ⟨g, q, none⟩ ys.length c (ys.map u64v) hl hnews h1 (by simp only [maxLen]; omega) (by omega) hb
  refine ⟨v', w', e1, ?_, e3, fun k hk2 => ?_⟩
  · unfold Us
    rw [List.length_append, List.map_append]
    exact e2
  · rcases hr.2 with ⟨rfl, h0⟩ | ⟨g', cap, cur, rfl, hbg, hg, hnc, hcm, hcs, htake⟩
    · by_cases hm : ys.length = 0
      · have hy0 : ys = [] := List.eq_nil_of_length_eq_zero hm
        have hx0 : xs = [] := List.eq_nil_of_length_eq_zero h0
        subst hy0 hx0
        rcases e2.2 with ⟨rfl, _⟩ | ⟨g2, cap2, cur2, rfl, q1, q2, _⟩
        · cases hk2
        · cases hk2
          exfalso
          have hrun : (Builtin.append_ #[TUs, TUs] ty #[.slice none 0 0, .slice (some ⟨g, q, none⟩) 0 c]).run Tryz.prog w = .ok (.slice none 0 0) w := by
            simp [Builtin.append_, run_underlying Tryz.underlying38, sizeOf, typeInfo, hi, Builtin.lenOf, Builtin.firstCells, loadCells, loadCellsFrom]
          have := hrun.symm.trans e1
          injection this with h2 h3
          cases h2
      · have hrun := run_append_nil (P := Tryz.prog) w TUs ty TOw i (.int .u64 0) Tryz.underlying38 hi hz ⟨g, q, none⟩ ys.length c (ys.map u64v) hl2 hnews (by omega) (by omega) (by rw [hbb]; omega)
        have := hrun.symm.trans e1
        injection this with h2 h3
        rw [← h2] at hk2
        cases hk2
        exact .inr (Nat.le_refl _)
    · by_cases hroom : xs.length + ys.length ≤ cap
      · have hrun := run_append_room (P := Tryz.prog) w TUs ty TOw i Tryz.underlying38 hi g' xs.length cap cur hg ⟨g, q, none⟩ ys.length c (ys.map u64v) hl2 hnews h1 hroom (by rw [hsz, hl, hcs]; omega)
        have := hrun.symm.trans e1
        injection this with h2 h3
        rw [← h2] at hk2
        cases hk2
        exact .inl rfl
      · have holds : ∀ j u, (xs.map u64v)[j]? = some u → w.cell? ((⟨g', 0, none⟩ : Addr).add j) = some u := World.ownsRow.cells hr (g := g') rfl
        have hrun := run_append_grow (P := Tryz.prog) w TUs ty TOw i (.int .u64 0) Tryz.underlying38 hi hz ⟨g', 0, none⟩ xs.length cap (xs.map u64v) (by rw [hsz]; simp) holds ⟨g, q, none⟩ ys.length c (ys.map u64v) hl2 hnews (by omega) (by omega) (growslice_fits (by omega) (by rw [hbb]; omega))
        have := hrun.symm.trans e1
        injection this with h2 h3
        rw [← h2] at hk2
        cases hk2
        exact .inr (Nat.le_refl _)
theorem wpList_app_us2 {ops : Array Oper} {rest : List Oper} {o : Oper} {a : Act} {w : World} {Q : Exit → Act → World → Prop} (hg : o.guard = none) (s x : Operand) (ho : o.op = .call { callee := .builtin .append, args := #[s, x], argTypes := #[TUs, TUs] })
    {v : Value} {base : Nat} {xs : List Nat} (hs : a.eval s = v) (hr : Us w base v xs) {g q c : Nat} {ys : List Nat} (hx : a.eval x = .slice (some ⟨g, q, none⟩) ys.length c) (hy : ∀ j, j < ys.length → w.cell? ⟨g, q + j, none⟩ = some (u64v (ys.getD j 0))) (hk : xs.length + ys.length ≤ 1000000000) (hb : base ≤ w.heap.size)
    (h : ∀ v' w', Us w' base v' (xs ++ ys) → w.grownBy w' v.ownBlock → (∀ k, v'.ownBlock = some k → v.ownBlock = some k ∨ w.heap.size ≤ k) → wpList Tryz.prog ops Q rest (a.put o.dst v') w') : wpList Tryz.prog ops Q (o :: rest) a w :=
  wpList_plain hg fun _ hK => by
    obtain ⟨v', w', e1, e2, e3, e4⟩ := run_app_us hr hy hk hb (c := c) o.type
    unfold Oper.wp execOp
    simp only [ho, resolve, invoke, builtin, Sem.run_bind, Sem.run_pure, Result.andThen_ok, List.map_toArray, List.map_cons, List.map_nil, hs, hx, e1]
    exact hK _ _ (h v' w' e2 e3 e4)
end Go.Proofs.YtadopbpfnnpnaaaGreat

