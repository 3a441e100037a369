/-
  Texts on locks, put together: Lk50 LkEdge LkEdge2.
-/
import Derived.Test.YtadopbpfnnpnaaaGreatL20
import Derived.Test.YtadopbpfnnpnaaaGreatL23
set_option linter.unusedVariables false
set_option linter.unusedSimpArgs false
/-
  The code's table of locks: leave and Free, whole, of a table that is right.
-/
namespace Go.Proofs.YtadopbpfnnpnaaaGreat
open Go.RowKit Go.Maps

section
variable {w : World} {t km om : Nat} {B : Tag → Option Nat} {T : Tb}
theorem leave_all (h : TbAt w t km om B T) (hI : Inv T) (hol : T.oo.length ≤ 10000) (hkl : T.kk.length ≤ 10000) {o : Nat} (ho : KO.dom o) :
    Calls Tryz.prog 40 #[.pointer (some ⟨t, 0, none⟩), .int .u64 (o : Int)] w (RetLv t km om B (T.lv o) (T.fks o) w) := by
  have h3 := hI.ks_le o
  have h4 := hI.many
  have h5 : T.oo.length * (T.kk.length + 1) ≤ 10000 * 10001 := Nat.mul_le_mul hol (by omega)
  by_cases hm : (T.of o).mode = 0
  · have := leave_flat h (hI.ok (Nat.le_trans hol (by omega))) ho hm (by omega) (by omega)
    have e1 : T.lv o = T.left o := by unfold Tb.lv; rw [if_pos hm]
    have e2 : T.fks o = sortK (T.of o).ks := by unfold Tb.fks; rw [if_pos hm]
    rw [e1, e2]
    exact this
  · exact leave_wait h hI hol hkl ho hm (by omega) (by omega)
/-- Those that come to something are parties. -/
theorem nextC_le {X : Key → Prop} (h : InvX X T) {k : Key} (hx : X k) (hk : KL.dom k) (hs : (T.lk k).isSome = true) : (T.nextC k).length ≤ T.oo.length := by
  have : ∀ (n : Nat) (T' : Tb) (c : List Nat), (Tb.nextN n T' k c).1.length ≤ c.length + n := by
    intro n
    induction n with
    | zero => intro T' c; exact Nat.le_refl _
    | succ n ih =>
      intro T' c
      cases hl : (T'.lkOf k).line with
      | nil => rw [nextN_nil hl]; exact Nat.le_add_right _ _
      | cons om r =>
        obtain ⟨o, m⟩ := om
        cases hf : (T'.lkOf k).fits o m with
        | false => rw [nextN_no hl hf]; exact Nat.le_add_right _ _
        | true =>
          rw [nextN_yes hl hf]
          have := ih ((T'.pop k o r).give o k m) (c ++ [o])
          simp at this
          omega
  have h1 := this (T.lkOf k).line.length T []
  have h2 := h.lkOf_line k
  unfold Tb.nextC
  simp at h1
  omega
theorem nextsC_le : ∀ (ks : List Key) (X : Key → Prop) (T : Tb), InvX X T → ks.Nodup → (∀ k, X k → k ∈ ks) → (∀ k, k ∈ ks → X k ∧ KL.dom k ∧ (T.lk k).isSome = true) → (T.nextsC ks).length ≤ ks.length * T.oo.length
  | [], X, T, h, _, hx, _ => Nat.zero_le _
  | k :: r, X, T, h, hn, hx, hk => by
    obtain ⟨n1, n2⟩ := List.nodup_cons.1 hn
    obtain ⟨x1, x2, x3⟩ := hk k (by simp)
    obtain ⟨a1, a2, a3⟩ := nextT_inv h x1 x2 x3
    have b := nextsC_le r (fun k' => X k' ∧ k' ≠ k) (T.nextT k) a1 n2 (fun k' e => by
      rcases List.mem_cons.1 (hx k' e.1) with e2 | e2
      · exact absurd e2 e.2
      · exact e2) (fun k' e => by
      have hne : k' ≠ k := fun e2 => n1 (e2 ▸ e)
      obtain ⟨y1, y2, y3⟩ := hk k' (by simp [e])
      exact ⟨⟨y1, hne⟩, y2, by rw [nextT_lk_other hne]; exact y3⟩)
    have c := nextC_le h x1 x2 x3
    show (T.nextC k ++ (T.nextT k).nextsC r).length ≤ _
    rw [a2] at b
    simp only [List.length_append, List.length_cons, Nat.add_mul, Nat.one_mul]
    omega
/-- What an owner leaves, all that come having come. -/
def Tb.freed (T : Tb) (o : Nat) : Tb := (T.lv o).nextsT (T.fks o)
def Tb.came (T : Tb) (o : Nat) : List Nat := (T.lv o).nextsC (T.fks o)
theorem fks_len (hI : Inv T) (o : Nat) : (T.fks o).length ≤ T.kk.length + 1 := by
  have h3 := hI.ks_le o
  unfold Tb.fks
  split
  · rw [sortK_len]; omega
  · rw [sortK_len]
    have := putK_len (T.of o).key (T.of o).ks
    omega
theorem free_any (h : TbAt w t km om B T) (hI : Inv T) (hol : T.oo.length ≤ 10000) (hkl : T.kk.length ≤ 10000) {o : Nat} (ho : KO.dom o) :
    Calls Tryz.prog 14 #[.pointer (some ⟨t, 0, none⟩), .int .u64 (o : Int)] w (RetFree t km om B (T.freed o) (T.came o) w) := by
  obtain ⟨a, -, -, -⟩ := free_inv hI o hol hkl
  have h1 := fks_len hI o
  have h2 := nextsC_le (T.fks o) (fun k => k ∈ T.fks o) (T.lv o) (lv_inv hI o) (fks_nodup hI o) (fun _ e => e) (fun k e => ⟨e, (fks_some hI o e).1, (fks_some hI o e).2⟩)
  have h3 : (T.lv o).oo.length ≤ 10000 := by rw [lv_oo]; exact Nat.le_trans (delK_len _ _) hol
  have h4 : (T.fks o).length * (T.lv o).oo.length ≤ 10001 * 10000 := Nat.mul_le_mul (by omega) h3
  exact Free_any h (leave_all h hI hol hkl ho) a (by omega) (by omega)
theorem freed_inv (hI : Inv T) (o : Nat) (hol : T.oo.length ≤ 10000) (hkl : T.kk.length ≤ 10000) : Inv (T.freed o) ∧ (T.freed o).oo.length ≤ T.oo.length ∧ (T.freed o).kk.length ≤ T.kk.length := by
  obtain ⟨-, b, c, d⟩ := free_inv hI o hol hkl
  exact ⟨b, c, d⟩
end
end Go.Proofs.YtadopbpfnnpnaaaGreat

/-
  Whom an owner waits for; that nobody waits for itself.
-/
namespace Go.Proofs.YtadopbpfnnpnaaaGreat
open Go.RowKit Go.Maps

/-- Those of a line that stand ahead of an owner. -/
def ahead (o : Nat) : List (Nat × Int) → List (Nat × Int)
  | [] => []
  | x :: r => if x.1 = o then [] else x :: ahead o r
theorem ahead_sub {o : Nat} : ∀ {ws : List (Nat × Int)} {x : Nat × Int}, x ∈ ahead o ws → x ∈ ws ∧ x.1 ≠ o
  | [], _, h => by cases h
  | y :: r, x, h => by
    unfold ahead at h
    split at h
    · cases h
    · rename_i hy
      rcases List.mem_cons.1 h with e | e
      · rw [e]; exact ⟨by simp, hy⟩
      · obtain ⟨a, b⟩ := ahead_sub e
        exact ⟨by simp [a], b⟩
theorem ahead_cons {o : Nat} {y x : Nat × Int} {r : List (Nat × Int)} (hy : y.1 ≠ o) (h : x ∈ ahead o r) : x ∈ ahead o (y :: r) := by
  unfold ahead
  rw [if_neg hy]
  simp [h]
theorem ahead_app {o : Nat} {y : Nat × Int} : ∀ {ws : List (Nat × Int)} {x : Nat × Int}, x ∈ ahead o (ws ++ [y]) → x ∈ ahead o ws ∨ (x = y ∧ ∀ m, (o, m) ∉ ws)
  | [], x, h => by
    rw [List.nil_append] at h
    obtain ⟨a, b⟩ := ahead_sub h
    simp at a
    exact .inr ⟨a, fun m => by simp⟩
  | z :: r, x, h => by
    rw [List.cons_append] at h
    unfold ahead at h ⊢
    split at h
    · cases h
    · rename_i hz
      rw [if_neg hz]
      rcases List.mem_cons.1 h with e | e
      · exact .inl (by rw [e]; simp)
      · rcases ahead_app e with e2 | ⟨e2, e3⟩
        · exact .inl (by simp [e2])
        · refine .inr ⟨e2, fun m hm => ?_⟩
          rcases List.mem_cons.1 hm with e4 | e4
          · exact hz (by rw [← e4])
          · exact e3 m e4
theorem ahead_off {o a : Nat} (hne : a ≠ o) : ∀ {ws : List (Nat × Int)} {x : Nat × Int}, x ∈ ahead a (offLine o ws) → x ∈ ahead a ws
  | [], x, h => h
  | z :: r, x, h => by
    unfold offLine at h
    rw [List.filter_cons] at h
    split at h
    · rename_i hz
      unfold ahead at h
      split at h
      · cases h
      · rename_i hza
        rcases List.mem_cons.1 h with e | e
        · rw [e]; unfold ahead; rw [if_neg hza]; simp
        · exact ahead_cons hza (ahead_off hne e)
    · rename_i hz
      have : z.1 = o := by simpa using hz
      exact ahead_cons (by rw [this]; exact fun e => hne e.symm) (ahead_off hne h)
theorem ahead_head {o : Nat} {y : Nat × Int} {r : List (Nat × Int)} (hy : y.1 ≠ o) : y ∈ ahead o (y :: r) := by
  unfold ahead
  rw [if_neg hy]
  simp

/-- Whom an owner waits for: the other holders, and those ahead of it, with whom it does not go together. -/
def Tb.whom (T : Tb) (o : Nat) : List Nat :=
  if (T.of o).mode = 0 then [] else
    (((T.lkOf (T.of o).key).hs.filter fun q => decide (q ≠ o) && !tog (T.of o).mode (T.lkOf (T.of o).key).mode)) ++ (((ahead o (T.lkOf (T.of o).key).line).filter fun x => !tog (T.of o).mode x.2).map Prod.fst)
section
variable {T : Tb} {a b o : Nat}
theorem mem_whom : b ∈ T.whom a ↔ (T.of a).mode ≠ 0 ∧ ((b ∈ (T.lkOf (T.of a).key).hs ∧ b ≠ a ∧ tog (T.of a).mode (T.lkOf (T.of a).key).mode = false) ∨ ∃ m, (b, m) ∈ ahead a (T.lkOf (T.of a).key).line ∧ tog (T.of a).mode m = false) := by
  unfold Tb.whom
  split
  · rename_i h
    simp [h]
  · rename_i h
    simp only [List.mem_append, List.mem_filter, List.mem_map, Bool.and_eq_true, decide_eq_true_eq, Bool.not_eq_true', ne_eq, h, not_false_eq_true, true_and]
    constructor
    · rintro (⟨h1, h2, h3⟩ | ⟨⟨q, m⟩, ⟨h1, h2⟩, h3⟩)
      · exact .inl ⟨h1, h2, h3⟩
      · cases h3
        exact .inr ⟨m, h1, h2⟩
    · rintro (⟨h1, h2, h3⟩ | ⟨m, h1, h2⟩)
      · exact .inl ⟨h1, h2, h3⟩
      · exact .inr ⟨(b, m), ⟨h1, h2⟩, rfl⟩
theorem whom_ne (h : b ∈ T.whom a) : b ≠ a := by
  rcases (mem_whom.1 h).2 with ⟨_, h2, _⟩ | ⟨m, h1, _⟩
  · exact h2
  · exact (ahead_sub h1).2
theorem whom_waits (h : b ∈ T.whom a) : (T.of a).mode ≠ 0 := (mem_whom.1 h).1

/-- A way of one step or more. -/
inductive Way (r : Nat → Nat → Prop) : Nat → Nat → Prop
  | one {a b : Nat} : r a b → Way r a b
  | more {a b c : Nat} : Way r a b → r b c → Way r a c
theorem Way.trans {r : Nat → Nat → Prop} {a b c : Nat} (h : Way r a b) (g : Way r b c) : Way r a c := by
  induction g with
  | one e => exact h.more e
  | more _ e ih => exact ih.more e
theorem Way.first {r : Nat → Nat → Prop} {a c : Nat} (h : Way r a c) : ∃ b, r a b ∧ (b = c ∨ Way r b c) := by
  induction h with
  | one e => exact ⟨_, e, .inl rfl⟩
  | more _ e ih =>
    obtain ⟨b, h1, h2⟩ := ih
    refine ⟨b, h1, .inr ?_⟩
    rcases h2 with rfl | h2
    · exact .one e
    · exact h2.more e
theorem Way.sub {r s : Nat → Nat → Prop} {P : Nat → Prop} (hP : ∀ a b, r a b → P a) (hs : ∀ a b, r a b → P b → s a b) {a b : Nat} (h : Way r a b) (hb : P b) : Way s a b := by
  induction h with
  | one e => exact .one (hs _ _ e hb)
  | more _ e ih => exact (ih (hP _ _ e)).more (hs _ _ e hb)
theorem Way.starts {r : Nat → Nat → Prop} {P : Nat → Prop} (hP : ∀ a b, r a b → P a) {a b : Nat} (h : Way r a b) : P a := by
  obtain ⟨c, h1, _⟩ := h.first
  exact hP _ _ h1
abbrev Tb.edge (T : Tb) (a b : Nat) : Prop := b ∈ T.whom a
/-- Nobody waits for itself, through however many. -/
def Acyc (T : Tb) : Prop := ∀ a, ¬ Way T.edge a a
/-- Nothing new leads to one that waits. -/
theorem Acyc.sub {T' : Tb} (h : Acyc T) (hs : ∀ a b, b ∈ T'.whom a → (T'.of b).mode ≠ 0 → b ∈ T.whom a) : Acyc T' := fun a hw =>
  h a (Way.sub (P := fun b => (T'.of b).mode ≠ 0) (fun _ _ e => whom_waits e) hs hw (Way.starts (P := fun b => (T'.of b).mode ≠ 0) (fun _ _ e => whom_waits e) hw))
theorem acyc_new : Acyc Tb.new := fun a hw => by
  obtain ⟨b, h1, _⟩ := hw.first
  exact absurd rfl (whom_waits h1)
theorem give_acyc {X : Key → Prop} (hi : InvX X T) (h : Acyc T) {k : Key} {m : Int} (hw : (T.of o).mode = 0) (hm : m = 1 ∨ m = 2) (hf : (T.lkOf k).fits o m = true) : Acyc (T.give o k m) := by
  have e0 : (T.give o k m).lkOf k = { T.lkOf k with mode := m, hs := putK o (T.lkOf k).hs } := lkOf_of (give_lkOf T o k m)
  have hnd : (T.lkOf k).hs.Nodup := by
    unfold Tb.lkOf
    cases e : T.lk k with
    | none => exact List.nodup_nil
    | some l => exact (hi.lk k l e).hnd
  have ho : ((T.give o k m).of o).mode = 0 := by rw [give_of_same]; exact hw
  refine h.sub fun a b hab hb => ?_
  have hbo : b ≠ o := fun e => by rw [e] at hb; exact hb ho
  have hao : a ≠ o := fun e => by have := whom_waits hab; rw [e] at this; exact this ho
  rw [mem_whom, give_of_other _ _ _ hao] at hab
  rw [mem_whom]
  refine ⟨hab.1, ?_⟩
  by_cases ek : (T.of a).key = k
  · rw [ek] at hab ⊢
    rw [e0] at hab
    rcases hab.2 with ⟨h1, h2, h3⟩ | h1
    · have h1' : b ∈ (T.lkOf k).hs := by
        rcases mem_putK.1 h1 with e | e
        · exact absurd e hbo
        · exact e
      refine .inl ⟨h1', h2, ?_⟩
      rcases hi.fit_one hm hf hnd with e | ⟨e1, e2⟩
      · exact absurd (e b h1') hbo
      · rw [e2, ← e1]; exact h3
    · exact .inr h1
  · have e1 : (T.give o k m).lkOf (T.of a).key = T.lkOf (T.of a).key := by
      unfold Tb.lkOf
      rw [give_lk_other _ _ _ ek]
    rw [e1] at hab
    exact hab.2
theorem pop_acyc (h : Acyc T) {k : Key} {m : Int} {r : List (Nat × Int)} (hl : (T.lkOf k).line = (o, m) :: r) : Acyc (T.pop k o r) := by
  have e0 : (T.pop k o r).lkOf k = { T.lkOf k with line := r, pop := true } := lkOf_of (pop_lk T k o r)
  have ho : ((T.pop k o r).of o).mode = 0 := by rw [pop_of_same]
  refine h.sub fun a b hab hb => ?_
  have hao : a ≠ o := fun e => by have := whom_waits hab; rw [e] at this; exact this ho
  rw [mem_whom, pop_of_other _ _ _ hao] at hab
  rw [mem_whom]
  refine ⟨hab.1, ?_⟩
  by_cases ek : (T.of a).key = k
  · rw [ek] at hab ⊢
    rw [e0] at hab
    rcases hab.2 with h1 | ⟨m', h1, h2⟩
    · exact .inl h1
    · refine .inr ⟨m', ?_, h2⟩
      rw [hl]
      exact ahead_cons (fun e => hao e.symm) h1
  · have e1 : (T.pop k o r).lkOf (T.of a).key = T.lkOf (T.of a).key := by
      unfold Tb.lkOf
      rw [pop_lk_other _ _ _ ek]
    rw [e1] at hab
    exact hab.2
theorem lv_acyc (hi : Inv T) (h : Acyc T) (o : Nat) : Acyc (T.lv o) := by
  refine h.sub fun a b hab hb => ?_
  have hao : a ≠ o := fun e => by have := whom_waits hab; rw [e, lv_of_same] at this; exact this rfl
  rw [mem_whom, lv_of_other _ _ hao] at hab
  rw [mem_whom]
  refine ⟨hab.1, ?_⟩
  have e1 : (T.lv o).lkOf (T.of a).key = (T.lkOf (T.of a).key).off o := by
    unfold Tb.lkOf
    rw [lv_lk hi]
    cases T.lk (T.of a).key with
    | none => rfl
    | some l => rfl
  rw [e1] at hab
  rcases hab.2 with ⟨h1, h2, h3⟩ | ⟨m', h1, h2⟩
  · exact .inl ⟨(mem_delK.1 h1).1, h2, h3⟩
  · exact .inr ⟨m', ahead_off hao h1, h2⟩
theorem nextN_acyc {X : Key → Prop} {k : Key} (hx : X k) (hk : KL.dom k) : ∀ (n : Nat) (T : Tb) (c : List Nat), InvX X T → Acyc T → Acyc (Tb.nextN n T k c).2
  | 0, T, c, _, h => h
  | n + 1, T, c, hi, h => by
    cases hl : (T.lkOf k).line with
    | nil => rw [nextN_nil hl]; exact h
    | cons om r =>
      obtain ⟨o, m⟩ := om
      cases hf : (T.lkOf k).fits o m with
      | false => rw [nextN_no hl hf]; exact h
      | true =>
        rw [nextN_yes hl hf]
        have h1 := (step_inv hi hx hk hl hf).1
        have h2 := pop_inv hi hx hl
        obtain ⟨l, el, eo⟩ := lk_some_of_line hl
        obtain ⟨w1, w2, w3⟩ := (hi.lk k l el).lw o m (by rw [← eo, hl]; simp)
        refine nextN_acyc hx hk n _ _ h1 (give_acyc h2 (pop_acyc h hl) (by rw [pop_of_same]) w3 ?_)
        rw [lkOf_of (pop_lk T k o r)]
        exact hf
theorem nextT_acyc {X : Key → Prop} {k : Key} (hi : InvX X T) (hx : X k) (hk : KL.dom k) (h : Acyc T) : Acyc (T.nextT k) := by
  have h1 : Acyc (T.nextT0 k) := nextN_acyc hx hk _ T [] hi h
  unfold Tb.nextT
  split
  · refine h1.sub fun a b hab hb => ?_
    rw [mem_whom] at hab ⊢
    refine ⟨hab.1, ?_⟩
    by_cases ek : (((T.nextT0 k)).of a).key = k
    · have e1 : ({ T.nextT0 k with lk := updF (T.nextT0 k).lk k none, kk := delK k (T.nextT0 k).kk } : Tb).lkOf (((T.nextT0 k)).of a).key = Lk.zero := by
        rw [ek]
        show (updF (T.nextT0 k).lk k none k).getD Lk.zero = _
        rw [updF_same]
        rfl
      rcases hab.2 with ⟨h2, _⟩ | ⟨m', h2, _⟩
      · have h2' : b ∈ (({ T.nextT0 k with lk := updF (T.nextT0 k).lk k none, kk := delK k (T.nextT0 k).kk } : Tb).lkOf (((T.nextT0 k)).of a).key).hs := h2
        rw [e1] at h2'
        cases h2'
      · have h2' : (b, m') ∈ ahead a (({ T.nextT0 k with lk := updF (T.nextT0 k).lk k none, kk := delK k (T.nextT0 k).kk } : Tb).lkOf (((T.nextT0 k)).of a).key).line := h2
        rw [e1] at h2'
        cases h2'
    · have e1 : ({ T.nextT0 k with lk := updF (T.nextT0 k).lk k none, kk := delK k (T.nextT0 k).kk } : Tb).lkOf (((T.nextT0 k)).of a).key = (T.nextT0 k).lkOf (((T.nextT0 k)).of a).key := by
        show (updF (T.nextT0 k).lk k none _).getD Lk.zero = _
        rw [updF_other _ _ ek]
        rfl
      have h2 := hab.2
      rw [show (({ T.nextT0 k with lk := updF (T.nextT0 k).lk k none, kk := delK k (T.nextT0 k).kk } : Tb).of a) = (T.nextT0 k).of a from rfl, e1] at h2
      exact h2
  · exact h1
theorem nexts_acyc : ∀ (ks : List Key) (X : Key → Prop) (T : Tb), InvX X T → ks.Nodup → (∀ k, k ∈ ks → X k ∧ KL.dom k ∧ (T.lk k).isSome = true) → Acyc T → Acyc (T.nextsT ks)
  | [], X, T, _, _, _, h => h
  | k :: r, X, T, hi, hn, hk, h => by
    obtain ⟨n1, n2⟩ := List.nodup_cons.1 hn
    obtain ⟨x1, x2, x3⟩ := hk k (by simp)
    obtain ⟨a1, a2, a3⟩ := nextT_inv hi x1 x2 x3
    exact nexts_acyc r (fun k' => X k' ∧ k' ≠ k) (T.nextT k) a1 n2 (fun k' e => by
      have hne : k' ≠ k := fun e2 => n1 (e2 ▸ e)
      obtain ⟨y1, y2, y3⟩ := hk k' (by simp [e])
      exact ⟨⟨y1, hne⟩, y2, by rw [nextT_lk_other hne]; exact y3⟩) (nextT_acyc hi x1 x2 h)
/-- One that lets go leaves nobody that waits for itself. -/
theorem freed_acyc (hi : Inv T) (h : Acyc T) (o : Nat) : Acyc (T.freed o) :=
  nexts_acyc (T.fks o) (fun k => k ∈ T.fks o) (T.lv o) (lv_inv hi o) (fks_nodup hi o) (fun _ e => ⟨e, (fks_some hi o e).1, (fks_some hi o e).2⟩) (lv_acyc hi h o)
end
end Go.Proofs.YtadopbpfnnpnaaaGreat

/-
  Nobody waits for itself: as one stands in a line; who waits waits for somebody; somebody waits for nobody.
-/
namespace Go.Proofs.YtadopbpfnnpnaaaGreat
open Go.RowKit Go.Maps

section
variable {T : Tb} {a b o : Nat}
theorem stand_acyc (hi : Inv T) (h : Acyc T) {k : Key} {m : Int} (hw : (T.of o).mode = 0) (hL : ¬ T.Leads (T.of o).ks k) : Acyc (T.stand o k m) := by
  have e0 : (T.stand o k m).lkOf k = { T.lkOf k with line := lineIn (decide (k ∈ (T.of o).ks)) o m (T.lkOf k).line } := by
    unfold Tb.lkOf
    rw [stand_lk_same]
    rfl
  have e1 : ∀ k', k' ≠ k → (T.stand o k m).lkOf k' = T.lkOf k' := fun k' hk => by
    unfold Tb.lkOf
    rw [stand_lk_other _ _ _ hk]
  have ea : ∀ a, a ≠ o → (T.stand o k m).of a = T.of a := fun a ha => stand_of_other _ _ _ ha
  have hno : ∀ k' m', (o, m') ∉ (T.lkOf k').line := fun k' m' hin => by
    cases e : T.lk k' with
    | none => unfold Tb.lkOf at hin; rw [e] at hin; cases hin
    | some l =>
      rw [lkOf_of e] at hin
      obtain ⟨-, h2, h3⟩ := (hi.lk k' l e).lw o m' hin
      rw [hw] at h2
      omega
  have hky : ∀ k' q m', (q, m') ∈ (T.lkOf k').line → (T.of q).key = k' := fun k' q m' hin => by
    cases e : T.lk k' with
    | none => unfold Tb.lkOf at hin; rw [e] at hin; cases hin
    | some l =>
      rw [lkOf_of e] at hin
      exact ((hi.lk k' l e).lw q m' hin).1
  have hhd : ∀ k' q, q ∈ (T.lkOf k').hs → k' ∈ (T.of q).ks := fun k' q hin => by
    cases e : T.lk k' with
    | none => unfold Tb.lkOf at hin; rw [e] at hin; cases hin
    | some l =>
      rw [lkOf_of e] at hin
      exact (hi.lk k' l e).hk q hin
  have ehs : ∀ k', ((T.stand o k m).lkOf k').hs = (T.lkOf k').hs ∧ ((T.stand o k m).lkOf k').mode = (T.lkOf k').mode := fun k' => by
    by_cases ek : k' = k
    · rw [ek, e0]; exact ⟨rfl, rfl⟩
    · rw [e1 k' ek]; exact ⟨rfl, rfl⟩
  have c1 : ∀ a b, a ≠ o → b ≠ o → b ∈ (T.stand o k m).whom a → b ∈ T.whom a := fun a b ha hb hab => by
    rw [mem_whom, ea a ha, (ehs _).1, (ehs _).2] at hab
    rw [mem_whom]
    refine ⟨hab.1, ?_⟩
    rcases hab.2 with h1 | ⟨m', h1, h2⟩
    · exact .inl h1
    · refine .inr ⟨m', ?_, h2⟩
      by_cases ek : (T.of a).key = k
      · rw [ek] at h1 ⊢
        rw [e0] at h1
        have h1' : (b, m') ∈ ahead a (lineIn (decide (k ∈ (T.of o).ks)) o m (T.lkOf k).line) := h1
        unfold lineIn at h1'
        split at h1'
        · unfold ahead at h1'
          rw [if_neg (fun e => ha e.symm)] at h1'
          rcases List.mem_cons.1 h1' with e | e
          · cases e; exact absurd rfl hb
          · exact e
        · rcases ahead_app h1' with e | ⟨e, _⟩
          · exact e
          · cases e; exact absurd rfl hb
      · rw [e1 _ ek] at h1
        exact h1
  have c2 : ∀ c, c ≠ o → o ∈ (T.stand o k m).whom c → (T.of c).key ∈ (T.of o).ks := fun c hc hab => by
    rw [mem_whom, ea c hc, (ehs _).1] at hab
    rcases hab.2 with ⟨h1, _⟩ | ⟨m', h1, h2⟩
    · exact hhd _ _ h1
    · by_cases ek : (T.of c).key = k
      · rw [ek] at h1 ⊢
        rw [e0] at h1
        have h1' : (o, m') ∈ ahead c (lineIn (decide (k ∈ (T.of o).ks)) o m (T.lkOf k).line) := h1
        unfold lineIn at h1'
        split at h1'
        · rename_i hY
          simpa using hY
        · rcases ahead_app h1' with e | ⟨_, e⟩
          · exact absurd (ahead_sub e).1 (hno k m')
          · obtain ⟨l, g1, g2⟩ := hi.wt c hab.1
            rw [ek] at g1
            rw [lkOf_of g1] at e
            exact absurd g2 (e _)
      · rw [e1 _ ek] at h1
        exact absurd (ahead_sub h1).1 (hno _ m')
  have step : ∀ a b, a ≠ o → b ∈ (T.stand o k m).whom a → (b = o ∨ (b ≠ o ∧ (T.of b).mode ≠ 0 ∧ ((T.of b).key ∈ (T.of o).ks ∨ T.Leads (T.of o).ks (T.of b).key))) → ((T.of a).key ∈ (T.of o).ks ∨ T.Leads (T.of o).ks (T.of a).key) := fun a b ha hab hb => by
    rcases hb with rfl | ⟨hb, hbm, hP⟩
    · exact .inl (c2 a ha hab)
    · have h1 := c1 a b ha hb hab
      rcases (mem_whom.1 h1).2 with ⟨h2, _⟩ | ⟨m', h2, _⟩
      · rcases hP with e | e
        · exact .inr (.hit h2 hbm e)
        · exact .inr (.via h2 hbm e)
      · have := hky _ _ _ (ahead_sub h2).1
        rw [← this]
        exact hP
  have c4 : ∀ a b, Way (T.stand o k m).edge a b → a ≠ o → (b = o ∨ (b ≠ o ∧ (T.of b).mode ≠ 0 ∧ ((T.of b).key ∈ (T.of o).ks ∨ T.Leads (T.of o).ks (T.of b).key))) → ((T.of a).key ∈ (T.of o).ks ∨ T.Leads (T.of o).ks (T.of a).key) := fun a b hW ha => by
    induction hW with
    | one e => exact step _ _ ha e
    | @more b' c _ e ih =>
      intro hc
      by_cases hb : b' = o
      · exact ih (.inl hb)
      · refine ih (.inr ⟨hb, ?_, step _ _ hb e hc⟩)
        have := whom_waits e
        rw [ea _ hb] at this
        exact this
  have c5 : ¬ Way (T.stand o k m).edge o o := fun hW => by
    obtain ⟨b, h1, h2⟩ := hW.first
    have hbo := whom_ne h1
    have hbW : Way (T.stand o k m).edge b o := by
      rcases h2 with e | e
      · exact absurd e hbo
      · exact e
    have hbm : (T.of b).mode ≠ 0 := by
      obtain ⟨c, g1, _⟩ := hbW.first
      have := whom_waits g1
      rw [ea _ hbo] at this
      exact this
    have hP := c4 b o hbW hbo (.inl rfl)
    have h1 : b ∈ (T.stand o k m).whom o := h1
    rw [mem_whom, stand_of_same, (ehs _).1] at h1
    rcases h1.2 with ⟨g1, _⟩ | ⟨m', g1, _⟩
    · have g1' : b ∈ (T.lkOf k).hs := g1
      rcases hP with e | e
      · exact hL (.hit g1' hbm e)
      · exact hL (.via g1' hbm e)
    · have g2 : (b, m') ∈ ahead o ((T.stand o k m).lkOf k).line := g1
      rw [e0] at g2
      have g3 : (b, m') ∈ ahead o (lineIn (decide (k ∈ (T.of o).ks)) o m (T.lkOf k).line) := g2
      unfold lineIn at g3
      split at g3
      · unfold ahead at g3
        rw [if_pos rfl] at g3
        cases g3
      · rename_i hY
        have hY' : k ∉ (T.of o).ks := by simpa using hY
        rcases List.mem_append.1 (ahead_sub g3).1 with e | e
        · rw [hky _ _ _ e] at hP
          rcases hP with e2 | e2
          · exact hY' e2
          · exact hL e2
        · simp at e
          exact hbo e.1
  have key : ∀ a b, Way (T.stand o k m).edge a b → ((T.stand o k m).of b).mode ≠ 0 → Way T.edge a b ∨ ((a = o ∨ Way (T.stand o k m).edge a o) ∧ (b = o ∨ Way (T.stand o k m).edge o b)) := fun a b hW => by
    induction hW with
    | @one b e =>
      intro _
      by_cases ha : a = o
      · subst ha; exact .inr ⟨.inl rfl, .inr (.one e)⟩
      · by_cases hb : b = o
        · subst hb; exact .inr ⟨.inr (.one e), .inl rfl⟩
        · exact .inl (.one (c1 _ _ ha hb e))
    | @more b c w e ih =>
      intro _
      rcases ih (whom_waits e) with h1 | ⟨h1, h2⟩
      · by_cases hb : b = o
        · subst hb; exact .inr ⟨.inr w, .inr (.one e)⟩
        · by_cases hc : c = o
          · subst hc; exact .inr ⟨.inr (w.more e), .inl rfl⟩
          · exact .inl (h1.more (c1 _ _ hb hc e))
      · refine .inr ⟨h1, .inr ?_⟩
        rcases h2 with rfl | h2
        · exact .one e
        · exact h2.more e
  intro a hW
  have hm : ((T.stand o k m).of a).mode ≠ 0 := by
    obtain ⟨c, g1, _⟩ := hW.first
    exact whom_waits g1
  rcases key a a hW hm with e | ⟨h1, h2⟩
  · exact h a e
  · rcases h1 with rfl | h1
    · rcases h2 with h2 | h2
      · exact c5 hW
      · exact c5 h2
    · rcases h2 with h2 | h2
      · rw [h2] at h1; exact c5 h1
      · exact c5 (h2.trans h1)
/-- One asks. -/
theorem ask_acyc (hi : Inv T) (h : Acyc T) {k : Key} {m : Int} {R : Bool} (hR : T.may o k m = false → RingOk T o k R) : Acyc (T.ask o k m R).2 := by
  unfold Tb.ask
  split
  · exact h
  rename_i hm
  split
  · exact h
  split
  · exact h
  rename_i hw
  split
  · exact h
  rename_i hh
  split
  · exact h
  have hm' : m = 1 ∨ m = 2 := Decidable.byContradiction fun e => hm e
  have hw' : (T.of o).mode = 0 := Decidable.byContradiction fun e => hw e
  split
  · rename_i hmay
    refine give_acyc hi h hw' hm' ?_
    unfold Tb.may at hmay
    cases e : T.lk k with
    | none => unfold Tb.lkOf; rw [e]; exact fits_none rfl
    | some l =>
      rw [e] at hmay
      simp only [Bool.and_eq_true] at hmay
      rw [lkOf_of e]
      exact hmay.1
  rename_i hmay
  split
  · exact h
  rename_i hr
  refine stand_acyc hi h hw' fun e => hr ((hR (by simpa using hmay)).2 e)
/-- Who waits waits for somebody. -/
theorem waits_some (hi : Inv T) (hw : (T.of o).mode ≠ 0) : ∃ q, q ∈ T.whom o := by
  obtain ⟨l, hl, hin⟩ := hi.wt o hw
  have hk := hi.lk _ l hl
  obtain ⟨hne, hst⟩ := hi.full _ l hl (fun e => e)
  cases hline : l.line with
  | nil => rw [hline] at hin; cases hin
  | cons x r =>
    obtain ⟨f, mf⟩ := x
    have hfit := hst f mf r hline
    unfold Lk.fits at hfit
    simp only [Bool.or_eq_false_iff, decide_eq_false_iff_not] at hfit
    obtain ⟨hf1, hf2⟩ := hfit
    have hq : ∃ q, q ∈ l.hs ∧ q ≠ f := by
      refine Decidable.byContradiction fun hno => ?_
      have hall : ∀ q, q ∈ l.hs → q = f := fun q hq => Decidable.byContradiction fun e => hno ⟨q, hq, e⟩
      have h1 : l.hs.length ≤ 1 := by
        have := nodup_le l.hs [f] hk.hnd fun q hq => by rw [hall q hq]; simp
        simpa using this
      by_cases hfh : f ∈ l.hs
      · have := List.length_pos_of_mem hfh
        rw [if_pos hfh] at hf1
        omega
      · rcases List.exists_mem_of_ne_nil _ hne with ⟨q, hq⟩
        exact hfh (hall q hq ▸ hq)
    obtain ⟨q, hq1, hq2⟩ := hq
    have hlk := lkOf_of hl
    by_cases hof : o = f
    · have hmf : (T.of o).mode = mf := by
        rw [hof]
        exact (hk.lw f mf (by rw [hline]; simp)).2.1
      refine ⟨q, mem_whom.2 ⟨hw, .inl ?_⟩⟩
      rw [hlk, hmf]
      exact ⟨hq1, by rw [hof]; exact hq2, hf2⟩
    · cases hg : tog (T.of o).mode mf with
      | false =>
        refine ⟨f, mem_whom.2 ⟨hw, .inr ⟨mf, ?_, hg⟩⟩⟩
        rw [hlk, hline]
        exact ahead_head fun e => hof e.symm
      | true =>
        unfold tog at hg
        simp at hg
        obtain ⟨g1, g2⟩ := hg
        rw [g2] at hf2
        unfold tog at hf2
        simp at hf2
        have hmd : l.mode = 2 := by
          rcases hk.md hne with e | e
          · exact absurd e hf2
          · exact e
        have hol : (o, (T.of o).mode) ∈ r := by
          rw [hline] at hin
          rcases List.mem_cons.1 hin with e | e
          · cases e; exact absurd rfl hof
          · exact e
        have hno := hk.up (f, mf) r hline _ hol
        refine ⟨q, mem_whom.2 ⟨hw, .inl ?_⟩⟩
        rw [hlk, g1, hmd]
        exact ⟨hq1, fun e => hno (e ▸ hq1), rfl⟩
theorem whom_oo (hi : Inv T) (h : b ∈ T.whom a) : b ∈ T.oo := by
  rcases (mem_whom.1 h).2 with ⟨h1, _⟩ | ⟨m, h1, _⟩
  · cases e : T.lk (T.of a).key with
    | none => unfold Tb.lkOf at h1; rw [e] at h1; cases h1
    | some l => rw [lkOf_of e] at h1; exact hi.in_oo e h1
  · have h2 := (ahead_sub h1).1
    cases e : T.lk (T.of a).key with
    | none => unfold Tb.lkOf at h2; rw [e] at h2; cases h2
    | some l => rw [lkOf_of e] at h2; exact hi.line_oo e h2
end
end Go.Proofs.YtadopbpfnnpnaaaGreat

