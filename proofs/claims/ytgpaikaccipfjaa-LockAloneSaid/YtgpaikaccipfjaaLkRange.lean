
/-
  A range over a map in memory, its keys of whatever kind. Over whatever program.
-/
import Derived.Test.YtgpaikaccipfjaaLkMap
namespace Go.Proofs.Ytgpaikaccipfjaa
open Go.RowKit Go.Maps

/-- A range over the map m is under way: block r; the keys in L are still to come. -/
def Rg {α : Type} (P : Program) (K : KK α) (w : World) (m r : Nat) (f : α → Option Value) (ks : List α) (L : α → Prop) : Prop :=
  ∃ D left cnt, w.ranges P K.ty elV m r ks.length D left cnt ∧ MpD K D f ks ∧ (∀ a, K.dom a → (left (K.lit a) = true ↔ L a)) ∧ ∀ a, L a → a ∈ ks
section
variable {α : Type} {P : Program} {K : KK α} {w : World} {m r : Nat} {f : α → Option Value} {ks : List α} {L : α → Prop}
theorem Rg.kept {w' : World} {row : Option Nat} (h : Rg P K w m r f ks L) (hg : w.grownBy w' row) (h1 : some m ≠ row) (h2 : some r ≠ row) : Rg P K w' m r f ks L := by
  obtain ⟨D, left, cnt, a, b⟩ := h
  exact ⟨D, left, cnt, a.kept hg h1 h2, b⟩
theorem Rg.gr {w' : World} (h : Rg P K w m r f ks L) (hg : Gr w w') : Rg P K w' m r f ks L :=
  h.kept (row := none) ⟨hg.os, hg.tape, hg.output, hg.size, fun k hk _ => hg.block k hk⟩ (by simp) (by simp)
theorem Rg.left_same {w' : World} (h : Rg P K w m r f ks L) (hg : Gr w w') : w'.rangeLeft m r = w.rangeLeft m r := by
  obtain ⟨D, left, cnt, a, b⟩ := h
  have h1 := a.owns.lt
  have h2 := a.lt
  unfold World.rangeLeft
  rw [hg.block m h1, hg.block r h2]
theorem Rg.mp (O : K.Ok P) (h : Rg P K w m r f ks L) : Mp P K w m f ks := by
  obtain ⟨D, left, cnt, a, b, _⟩ := h
  exact own_at O a.owns b
variable {ops : Array Oper} {rest : List Oper} {o : Oper} {a : Act} {Q : Exit → Act → World → Prop}
theorem wpList_range_mp (O : K.Ok P) (hg : o.guard = none) (x : Operand) (t : TypeId) (hop : o.op = Op.range t x) (e : TypeId) (ht : P.underlying t = some (.map K.ty e)) (hm : a.eval x = .map (some m)) (h : Mp P K w m f ks)
    (hK : ∀ w', Rg P K w' m w.heap.size f ks (fun a => a ∈ ks) → Gr w w' → w'.heap.size = w.heap.size + 1 → wpList P ops Q rest (a.put o.dst (.pointer (some ⟨w.heap.size, 0, none⟩))) w') : wpList P ops Q (o :: rest) a w := by
  obtain ⟨D, h1, hD⟩ := h
  refine wpList_range_own w hg x t hop K.ty e O.keyed ht elV m ks.length D hm h1 fun w' h2 h3 h4 => ?_
  exact hK w' ⟨D, _, _, h2, hD, fun a ha => by rw [hD.has a ha]; exact (hD.mem a).symm, fun _ h => h⟩ ⟨h3.os, h3.tape, h3.output, h3.size, fun k hk => h3.block k hk (by simp)⟩ h4
theorem wpList_next_mp (O : K.Ok P) (hg : o.guard = none) (it : Operand) (hop : o.op = Op.next it false) (hit : a.eval it = .pointer (some ⟨r, 0, none⟩)) (h : Rg P K w m r f ks L)
    (hDone : (∀ a, ¬ L a) → wpList P ops Q rest (a.put o.dst (.tuple #[.bool false])) w)
    (hMore : ∀ (x : α) (v : Value) (w' : World), L x → K.dom x → f x = some v → Rg P K w' m r f ks (fun b => L b ∧ b ≠ x) → w'.rangeLeft m r < w.rangeLeft m r → w.grownBy w' (some r) → w'.heap.size = w.heap.size →
      (Instr.entry (.pointer (some ⟨r, 0, none⟩))).run P w' = .ok (.tuple #[K.val x, v]) w' → wpList P ops Q rest (a.put o.dst (.tuple #[.bool true, K.val x, v])) w') : wpList P ops Q (o :: rest) a w := by
  obtain ⟨D, left, cnt, h1, hD, hL, hLk⟩ := h
  have hleft := h1.left_eq
  have hinv : ∀ key kl, keyOf P K.ty key = some kl → ∃ x : { x : α // K.dom x }, key = K.val x.1 := fun key kl hk => by
    obtain ⟨x, hx, e, _⟩ := O.inv key kl hk
    exact ⟨⟨x, hx⟩, e⟩
  refine wpList_next_ranges w hg it hop K.ty O.keyed elV (fun x : { x : α // K.dom x } => K.val x.1) id hinv (fun v y _ => ⟨v, rfl⟩) m r ks.length D left cnt hit h1 ?_ ?_
  · intro _ h0
    refine hDone fun x hx => ?_
    have := (hL x (hD.dom x ((hD.mem x).1 (hLk x hx)))).2 hx
    rw [h0] at this
    cases this
  · intro x c kl y w' cnt' hkey hlk hv hat hrg hlt hgr hsz hen
    have hkl : kl = K.lit x.1 := by
      have := O.key x.1 x.2
      rw [this] at hkey
      exact (Option.some.inj hkey).symm
    subst hkl
    have hLx := (hL x.1 x.2).1 hlk
    have hfx := (hD.mem x.1).1 (hLk x.1 hLx)
    obtain ⟨v, hfv⟩ := Option.isSome_iff_exists.1 hfx
    have e1 := hD.at_ x.1 c x.2
    rw [hat, hfv] at e1
    simp only [elV, Option.some.injEq] at hv
    rw [← hv] at e1
    have hcv : c = v := by
      simp at e1
      exact e1
    subst hcv
    refine hMore x.1 c w' hLx x.2 hfv ⟨D, _, cnt', hrg, hD, fun b hb => ?_, fun b hb => hLk b hb.1⟩ (by rw [hrg.left_eq, hleft]; exact hlt) hgr hsz hen
    by_cases e : b = x.1
    · subst e
      simp [WideAt.sameKey_self (O.is hb)]
    · have : (K.lit b).sameKey (K.lit x.1) = false := Maps.sameKey_ne fun e2 => e (O.lit_inj hb x.2 e2)
      rw [this]
      simp [hL b hb, e]
end
end Go.Proofs.Ytgpaikaccipfjaa
