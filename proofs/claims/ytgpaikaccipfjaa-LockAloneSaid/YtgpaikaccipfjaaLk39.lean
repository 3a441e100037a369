
/-
  One owner that asks alone: it lets all go.
-/
import Derived.Test.YtgpaikaccipfjaaLkAlone
namespace Go.Proofs.Ytgpaikaccipfjaa
open Go.RowKit Go.Maps

section
variable {w : World} {t km om : Nat} {B : Tag → Option Nat} {T : Tb}
theorem TbAt.ks_dom (h : TbAt w t km om B T) (o : Nat) : ∀ k, k ∈ (T.of o).ks → KL.dom k := by
  unfold Tb.of
  cases e : T.py o with
  | none => intro k hk; cases hk
  | some p =>
    obtain ⟨b, h', h1, h2, h3, h4⟩ := h.py o p e
    intro k hk
    exact h4.dom k ((h4.mem k).1 hk)
theorem leave_flat (h : TbAt w t km om B T) (ok : T.Ok) {o : Nat} (ho : KO.dom o) (hm : (T.of o).mode = 0) (hmn : 0 ≤ T.many ∧ T.many ≤ 1000000000) (hln : (T.of o).ks.length ≤ 1000000000) :
    Calls Try.prog 23 #[.pointer (some ⟨t, 0, none⟩), .int .u64 (o : Int)] w (RetLv t km om B (T.left o) (sortK (T.of o).ks) w) :=
  (leave_any h ok ho hm hmn hln).mono fun e w' ⟨v, B', he, hk, ht, hn, hf⟩ => ⟨v, B', he, hk, ht, hn, fun g hg hF => by
    have h1 := (World.ownsRow.lt hk g hg).1
    have h2 := hf g hF
    omega⟩
theorem free_alone (h : TbAt w t km om B T) {o n : Nat} (al : Alone T o n) (hn : n ≤ 1000) (ho : KO.dom o) :
    ∃ T', T'.many = 0 ∧ Calls Try.prog 9 #[.pointer (some ⟨t, 0, none⟩), .int .u64 (o : Int)] w (RetFree t km om B T' [] w) := by
  have hl := al.ln
  obtain ⟨a, b, c⟩ := al.left hn (h.ks_dom o) (fun k => (sortK_perm _).mem_iff) ((sortK_perm _).nodup_iff.2 al.nd)
  have hF := Free_any h (leave_flat h al.ok ho al.md (by rw [al.many]; omega) (by omega)) a (by rw [b]; exact Nat.zero_le _) (by rw [sortK_len]; omega)
  rw [b] at hF
  exact ⟨_, c, hF⟩
theorem ask_alone (h : TbAt w t km om B T) {o n : Nat} (al : Alone T o n) (hn : n ≤ 1000) (ho : KO.dom o) {k : Key} (hk : KL.dom k) {m : Int} (hm : m = 1 ∨ m = 2) :
    ∃ T', Calls Try.prog 10 #[.pointer (some ⟨t, 0, none⟩), .int .u64 (o : Int), kv k, .int .i64 m] w (fun e w' => ∃ B', e = .returned (.int .i64 0) ∧ TbAt w' t km om B' T' ∧ Tn w w' B B') ∧
      Alone T' o (n + 1) ∧ (T'.of o).ks = putK k (T.of o).ks ∧ T'.hold o k = max (T.hold o k) m ∧ (∀ k', k' ≠ k → T'.hold o k' = T.hold o k') := by
  obtain ⟨T', e1, e2⟩ := al.ask hn (k := k) hm
  have h1 := al.ln
  have h2 := al.oo
  have h3 := al.kk
  have h4 := al.hs k
  have hmx : maxLen = 9223372036854775807 := rfl
  refine ⟨T', ?_, e2⟩
  rcases hm with rfl | rfl
  · have := ask_1 h al.ok ho hk (R := false) (fun e => by rw [al.may] at e; cases e) (fun _ _ => al.line k) (by omega) (by omega) (by omega) (by omega) (by rw [al.line]; exact Nat.zero_le _) (by rw [al.many]; omega)
    rw [e1] at this
    exact this
  · have := ask_2 h al.ok ho hk (R := false) (fun e => by rw [al.may] at e; cases e) (fun _ _ => al.line k) (by omega) (by omega) (by omega) (by omega) (by rw [al.line]; exact Nat.zero_le _) (by rw [al.many]; omega)
    rw [e1] at this
    exact this
/-- Its own turned: what lay there before stays. -/
theorem Tn.from0 {w0 w w' : World} {B B' : Tag → Option Nat} (n : Tn w w' B B') (g : Gr w0 w) (hf : ∀ n, FB B n → w0.heap.size ≤ n) : Gr w0 w' ∧ ∀ n, FB B' n → w0.heap.size ≤ n :=
  ⟨⟨n.onl.os.trans g.os, n.onl.tape.trans g.tape, n.onl.output.trans g.output, Nat.le_trans g.size n.onl.size, fun k hk => (n.onl.block k (Nat.lt_of_lt_of_le hk g.size) fun e => by have := hf k e; omega).trans (g.block k hk)⟩,
   fun k ⟨a, ha⟩ => by rcases n.new a k ha with e | e; exact hf k e; exact Nat.le_trans g.size e⟩
end
end Go.Proofs.Ytgpaikaccipfjaa
