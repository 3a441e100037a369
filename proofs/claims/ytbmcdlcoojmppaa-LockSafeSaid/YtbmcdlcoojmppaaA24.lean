/-
  Texts on locks, put together: Lk39 Lk50.
-/
import Derived.Test.YtbmcdlcoojmppaaA17
import Derived.Test.YtbmcdlcoojmppaaA23
/-
  One owner that asks alone: it lets all go.
-/
namespace Go.Proofs.Ytbmcdlcoojmppaa
open Go.RowKit Go.Maps

section
variable {w : World} {t km om : Nat} {B : Tag → Option Nat} {T : Tb}
theorem TbAt.ks_dom (h : TbAt w t km om B T) (o : Nat) : ∀ k, k ∈ (T.of o).ks → KL.dom k := by
  unfold Tb.of
  cases e : T.py o with
  | none => intro k hk; cases hk
  | some p =>
    obtain ⟨b, h', h1, h2, h3, h4⟩ := h.py o p e
    intro k hk
    exact h4.dom k ((h4.mem k).1 hk)
theorem leave_flat (h : TbAt w t km om B T) (ok : T.Ok) {o : Nat} (ho : KO.dom o) (hm : (T.of o).mode = 0) (hmn : 0 ≤ T.many ∧ T.many ≤ 1000000000) (hln : (T.of o).ks.length ≤ 1000000000) :
    Calls Try.prog 23 #[.pointer (some ⟨t, 0, none⟩), .int .u64 (o : Int)] w (RetLv t km om B (T.left o) (sortK (T.of o).ks) w) :=
  (leave_any h ok ho hm hmn hln).mono fun e w' ⟨v, B', he, hk, ht, hn, hf⟩ => ⟨v, B', he, hk, ht, hn, fun g hg hF => by
    have h1 := (World.ownsRow.lt hk g hg).1
    have h2 := hf g hF
    omega⟩
theorem free_alone (h : TbAt w t km om B T) {o n : Nat} (al : Alone T o n) (hn : n ≤ 1000) (ho : KO.dom o) :
    ∃ T', T'.many = 0 ∧ Calls Try.prog 9 #[.pointer (some ⟨t, 0, none⟩), .int .u64 (o : Int)] w (RetFree t km om B T' [] w) := by
  have hl := al.ln
  obtain ⟨a, b, c⟩ := al.left hn (h.ks_dom o) (fun k => (sortK_perm _).mem_iff) ((sortK_perm _).nodup_iff.2 al.nd)
  have hF := Free_any h (leave_flat h al.ok ho al.md (by rw [al.many]; omega) (by omega)) a (by rw [b]; exact Nat.zero_le _) (by rw [sortK_len]; omega)
  rw [b] at hF
  exact ⟨_, c, hF⟩
theorem ask_alone (h : TbAt w t km om B T) {o n : Nat} (al : Alone T o n) (hn : n ≤ 1000) (ho : KO.dom o) {k : Key} (hk : KL.dom k) {m : Int} (hm : m = 1 ∨ m = 2) :
    ∃ T', Calls Try.prog 10 #[.pointer (some ⟨t, 0, none⟩), .int .u64 (o : Int), kv k, .int .i64 m] w (fun e w' => ∃ B', e = .returned (.int .i64 0) ∧ TbAt w' t km om B' T' ∧ Tn w w' B B') ∧
      Alone T' o (n + 1) ∧ (T'.of o).ks = putK k (T.of o).ks ∧ T'.hold o k = max (T.hold o k) m ∧ (∀ k', k' ≠ k → T'.hold o k' = T.hold o k') := by
  obtain ⟨T', e1, e2⟩ := al.ask hn (k := k) hm
  have h1 := al.ln
  have h2 := al.oo
  have h3 := al.kk
  have h4 := al.hs k
  have hmx : maxLen = 9223372036854775807 := rfl
  refine ⟨T', ?_, e2⟩
  rcases hm with rfl | rfl
  · have := ask_1 h al.ok ho hk (R := false) (fun e => by rw [al.may] at e; cases e) (by omega) (by omega) (by omega) (by omega) (by rw [al.line]; exact Nat.zero_le _) (by rw [al.many]; omega)
    rw [e1] at this
    exact this
  · have := ask_2 h al.ok ho hk (R := false) (fun e => by rw [al.may] at e; cases e) (by omega) (by omega) (by omega) (by omega) (by rw [al.line]; exact Nat.zero_le _) (by rw [al.many]; omega)
    rw [e1] at this
    exact this
/-- Its own turned: what lay there before stays. -/
theorem Tn.from0 {w0 w w' : World} {B B' : Tag → Option Nat} (n : Tn w w' B B') (g : Gr w0 w) (hf : ∀ n, FB B n → w0.heap.size ≤ n) : Gr w0 w' ∧ ∀ n, FB B' n → w0.heap.size ≤ n :=
  ⟨⟨n.onl.os.trans g.os, n.onl.tape.trans g.tape, n.onl.output.trans g.output, Nat.le_trans g.size n.onl.size, fun k hk => (n.onl.block k (Nat.lt_of_lt_of_le hk g.size) fun e => by have := hf k e; omega).trans (g.block k hk)⟩,
   fun k ⟨a, ha⟩ => by rcases n.new a k ha with e | e; exact hf k e; exact Nat.le_trans g.size e⟩
end
end Go.Proofs.Ytbmcdlcoojmppaa

/-
  The code's table of locks: leave and Free, whole, of a table that is right.
-/
namespace Go.Proofs.Ytbmcdlcoojmppaa
open Go.RowKit Go.Maps

section
variable {w : World} {t km om : Nat} {B : Tag → Option Nat} {T : Tb}
theorem leave_all (h : TbAt w t km om B T) (hI : Inv T) (hol : T.oo.length ≤ 10000) (hkl : T.kk.length ≤ 10000) {o : Nat} (ho : KO.dom o) :
    Calls Try.prog 23 #[.pointer (some ⟨t, 0, none⟩), .int .u64 (o : Int)] w (RetLv t km om B (T.lv o) (T.fks o) w) := by
  have h3 := hI.ks_le o
  have h4 := hI.many
  have h5 : T.oo.length * (T.kk.length + 1) ≤ 10000 * 10001 := Nat.mul_le_mul hol (by omega)
  by_cases hm : (T.of o).mode = 0
  · have := leave_flat h (hI.ok (Nat.le_trans hol (by omega))) ho hm (by omega) (by omega)
    have e1 : T.lv o = T.left o := by unfold Tb.lv; rw [if_pos hm]
    have e2 : T.fks o = sortK (T.of o).ks := by unfold Tb.fks; rw [if_pos hm]
    rw [e1, e2]
    exact this
  · exact leave_wait h hI hol hkl ho hm (by omega) (by omega)
/-- Those that come to something are parties. -/
theorem nextC_le {X : Key → Prop} (h : InvX X T) {k : Key} (hx : X k) (hk : KL.dom k) (hs : (T.lk k).isSome = true) : (T.nextC k).length ≤ T.oo.length := by
  have : ∀ (n : Nat) (T' : Tb) (c : List Nat), (Tb.nextN n T' k c).1.length ≤ c.length + n := by
    intro n
    induction n with
    | zero => intro T' c; exact Nat.le_refl _
    | succ n ih =>
      intro T' c
      cases hl : (T'.lkOf k).line with
      | nil => rw [nextN_nil hl]; exact Nat.le_add_right _ _
      | cons om r =>
        obtain ⟨o, m⟩ := om
        cases hf : (T'.lkOf k).fits o m with
        | false => rw [nextN_no hl hf]; exact Nat.le_add_right _ _
        | true =>
          rw [nextN_yes hl hf]
          have := ih ((T'.pop k o r).give o k m) (c ++ [o])
          simp at this
          omega
  have h1 := this (T.lkOf k).line.length T []
  have h2 := h.lkOf_line k
  unfold Tb.nextC
  simp at h1
  omega
theorem nextsC_le : ∀ (ks : List Key) (X : Key → Prop) (T : Tb), InvX X T → ks.Nodup → (∀ k, X k → k ∈ ks) → (∀ k, k ∈ ks → X k ∧ KL.dom k ∧ (T.lk k).isSome = true) → (T.nextsC ks).length ≤ ks.length * T.oo.length
  | [], X, T, h, _, hx, _ => Nat.zero_le _
  | k :: r, X, T, h, hn, hx, hk => by
    obtain ⟨n1, n2⟩ := List.nodup_cons.1 hn
    obtain ⟨x1, x2, x3⟩ := hk k (by simp)
    obtain ⟨a1, a2, a3⟩ := nextT_inv h x1 x2 x3
    have b := nextsC_le r (fun k' => X k' ∧ k' ≠ k) (T.nextT k) a1 n2 (fun k' e => by
      rcases List.mem_cons.1 (hx k' e.1) with e2 | e2
      · exact absurd e2 e.2
      · exact e2) (fun k' e => by
      have hne : k' ≠ k := fun e2 => n1 (e2 ▸ e)
      obtain ⟨y1, y2, y3⟩ := hk k' (by simp [e])
      exact ⟨⟨y1, hne⟩, y2, by rw [nextT_lk_other hne]; exact y3⟩)
    have c := nextC_le h x1 x2 x3
    show (T.nextC k ++ (T.nextT k).nextsC r).length ≤ _
    rw [a2] at b
    simp only [List.length_append, List.length_cons, Nat.add_mul, Nat.one_mul]
    omega
/-- What an owner leaves, all that come having come. -/
def Tb.freed (T : Tb) (o : Nat) : Tb := (T.lv o).nextsT (T.fks o)
def Tb.came (T : Tb) (o : Nat) : List Nat := (T.lv o).nextsC (T.fks o)
theorem fks_len (hI : Inv T) (o : Nat) : (T.fks o).length ≤ T.kk.length + 1 := by
  have h3 := hI.ks_le o
  unfold Tb.fks
  split
  · rw [sortK_len]; omega
  · rw [sortK_len]
    have := putK_len (T.of o).key (T.of o).ks
    omega
theorem free_any (h : TbAt w t km om B T) (hI : Inv T) (hol : T.oo.length ≤ 10000) (hkl : T.kk.length ≤ 10000) {o : Nat} (ho : KO.dom o) :
    Calls Try.prog 9 #[.pointer (some ⟨t, 0, none⟩), .int .u64 (o : Int)] w (RetFree t km om B (T.freed o) (T.came o) w) := by
  obtain ⟨a, -, -, -⟩ := free_inv hI o hol hkl
  have h1 := fks_len hI o
  have h2 := nextsC_le (T.fks o) (fun k => k ∈ T.fks o) (T.lv o) (lv_inv hI o) (fks_nodup hI o) (fun _ e => e) (fun k e => ⟨e, (fks_some hI o e).1, (fks_some hI o e).2⟩)
  have h3 : (T.lv o).oo.length ≤ 10000 := by rw [lv_oo]; exact Nat.le_trans (delK_len _ _) hol
  have h4 : (T.fks o).length * (T.lv o).oo.length ≤ 10001 * 10000 := Nat.mul_le_mul (by omega) h3
  exact Free_any h (leave_all h hI hol hkl ho) a (by omega) (by omega)
theorem freed_inv (hI : Inv T) (o : Nat) (hol : T.oo.length ≤ 10000) (hkl : T.kk.length ≤ 10000) : Inv (T.freed o) ∧ (T.freed o).oo.length ≤ T.oo.length ∧ (T.freed o).kk.length ≤ T.kk.length := by
  obtain ⟨-, b, c, d⟩ := free_inv hI o hol hkl
  exact ⟨b, c, d⟩
end
end Go.Proofs.Ytbmcdlcoojmppaa

