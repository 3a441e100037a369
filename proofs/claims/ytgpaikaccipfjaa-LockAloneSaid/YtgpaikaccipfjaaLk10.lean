
/-
  The keys of a set, one by one: maps.Keys at keys that are structs; what a slice of them owns.
-/
import Derived.Test.YtgpaikaccipfjaaLk9
import Derived.RangeFuncGives
import Derived.Sort.MapsRangeIn
import Derived.OwnWalkIn
import Derived.TacticsInMore
import Derived.RegionIn
import Derived.LoopNIn
import Derived.LoopIn
import Derived.Maps.AppendAt
import Derived.Shelf.Abstract
namespace Go.Proofs.Ytgpaikaccipfjaa
open Go.RowKit Go.Maps

section
variable {α : Type} {P : Program} {K : KK α} {w : World} {m r : Nat} {f : α → Option Value} {ks : List α} {L : α → Prop}
theorem Rg.of_walks {w' : World} (h : Rg P K w m r f ks L) (hk : KeepsWalks w w') : Rg P K w' m r f ks L ∧ w'.rangeLeft m r = w.rangeLeft m r := by
  obtain ⟨D, left, cnt, a, b⟩ := h
  have a' := a.of_walks hk
  exact ⟨⟨D, left, cnt, a', b⟩, by rw [a.left_eq, a'.left_eq]⟩
variable {F : Fence} {nf : Nat} {ops : Array Oper} {rest : List Oper} {o : Oper} {a : Act} {Q : Exit → Act → World → Prop}
theorem wpListIn_range_mp (O : K.Ok P) (hg : o.guard = none) (x : Operand) (t : TypeId) (hop : o.op = Op.range t x) (e : TypeId) (ht : P.underlying t = some (.map K.ty e)) (hm : a.eval x = .map (some m)) (h : Mp P K w m f ks)
    (hK : ∀ w', Rg P K w' m w.heap.size f ks (fun a => a ∈ ks) → w.grownBy w' none → w'.heap.size = w.heap.size + 1 → w'.rangeLeft m w.heap.size = ks.length → wpListIn F nf P ops Q rest (a.put o.dst (.pointer (some ⟨w.heap.size, 0, none⟩))) w') : wpListIn F nf P ops Q (o :: rest) a w := by
  obtain ⟨D, h1, hD⟩ := h
  refine wpListIn_range_own w hg x t hop K.ty e O.keyed ht elV m ks.length D hm h1 fun w' h2 h3 h4 => ?_
  exact hK w' ⟨D, _, _, h2, hD, fun a ha => by rw [hD.has a ha]; exact (hD.mem a).symm, fun _ h => h⟩ h3 h4 (by rw [h2.left_eq, own_size O h1 hD])
theorem wpListIn_next_mp (O : K.Ok P) (hg : o.guard = none) (it : Operand) (hop : o.op = Op.next it false) (hit : a.eval it = .pointer (some ⟨r, 0, none⟩)) (h : Rg P K w m r f ks L)
    (hDone : (∀ a, ¬ L a) → wpListIn F nf P ops Q rest (a.put o.dst (.tuple #[.bool false])) w)
    (hMore : ∀ (x : α) (v : Value) (w' : World), L x → K.dom x → f x = some v → Rg P K w' m r f ks (fun b => L b ∧ b ≠ x) → w'.rangeLeft m r < w.rangeLeft m r → w.grownBy w' (some r) → w'.heap.size = w.heap.size → (∃ o : Obj, w.heap[r]? = some o ∧ o.isWalk = true) →
      (Instr.entry (.pointer (some ⟨r, 0, none⟩))).run P w' = .ok (.tuple #[K.val x, v]) w' → wpListIn F nf P ops Q rest (a.put o.dst (.tuple #[.bool true, K.val x, v])) w') : wpListIn F nf P ops Q (o :: rest) a w := by
  obtain ⟨D, left, cnt, h1, hD, hL, hLk⟩ := h
  have hleft := h1.left_eq
  have hinv : ∀ key kl, keyOf P K.ty key = some kl → ∃ x : { x : α // K.dom x }, key = K.val x.1 := fun key kl hk => by
    obtain ⟨x, hx, e, _⟩ := O.inv key kl hk
    exact ⟨⟨x, hx⟩, e⟩
  refine wpListIn_next_ranges w hg it hop K.ty O.keyed elV (fun x : { x : α // K.dom x } => K.val x.1) id hinv (fun v y _ => ⟨v, rfl⟩) m r ks.length D left cnt hit h1 ?_ ?_
  · intro _ h0
    refine hDone fun x hx => ?_
    have := (hL x (hD.dom x ((hD.mem x).1 (hLk x hx)))).2 hx
    rw [h0] at this
    cases this
  · intro x c kl y w' cnt' hkey hlk hv hat hrg hlt hgr hsz hen
    have hkl : kl = K.lit x.1 := by
      have := O.key x.1 x.2
      rw [this] at hkey
      exact (Option.some.inj hkey).symm
    subst hkl
    have hLx := (hL x.1 x.2).1 hlk
    have hfx := (hD.mem x.1).1 (hLk x.1 hLx)
    obtain ⟨v, hfv⟩ := Option.isSome_iff_exists.1 hfx
    have e1 := hD.at_ x.1 c x.2
    rw [hat, hfv] at e1
    simp only [elV, Option.some.injEq] at hv
    rw [← hv] at e1
    have hcv : c = v := by
      simp at e1
      exact e1
    subst hcv
    refine hMore x.1 c w' hLx x.2 hfv ⟨D, _, cnt', hrg, hD, fun b hb => ?_, fun b hb => hLk b hb.1⟩ (by rw [hrg.left_eq, hleft]; exact hlt) hgr hsz h1.iter_walk hen
    by_cases e : b = x.1
    · subst e
      simp [WideAt.sameKey_self (O.is hb)]
    · have : (K.lit b).sameKey (K.lit x.1) = false := Maps.sameKey_ne fun e2 => e (O.lit_inj hb x.2 e2)
      rw [this]
      simp [hL b hb, e]
end
set_option maxRecDepth 100000 in
set_option maxHeartbeats 2000000 in
/-- The iterator of maps.Keys: the keys come, each once, in some order. -/
theorem keys1_in (F : Fence) (n : Nat) (hF : F.fn 73) (hro : F.round = none) (hn : 1 ≤ n) (l Bm b : Nat) (f : Key → Option Value) (ks : List Key) (J : List Key → World → Prop)
    (hY : ∀ pre x W, J pre W → pre.length < ks.length → YieldAt F (n - 1) Try.prog l #[kv x] W fun e W' => e = .returned (.bool true) ∧ J (pre ++ [x]) W' ∧ KeepsWalks W W')
    (W : World) (hJ : AbidesFrom W.heap.size J) (hm : W.cell? ⟨Bm, 0, none⟩ = some (.map (some b))) (hown : Mp Try.prog KL W b f ks) (h0 : J [] W) :
    CallsIn F n Try.prog 73 #[.func (.yield l) #[] #[], .pointer (some ⟨Bm, 0, none⟩)] W fun e W' => (∃ v, e = .returned v) ∧ ∃ ss : List Key, ss.Perm ks ∧ J ss W' := by
  have hnd := hown.nodup
  have HND := Lib.hid hnd
  clear hnd
  refine callsIn_of_wp Try.func73 rfl hF ?_ hro
  simp only [Try.ntmps73, List.size_toArray, List.length_cons, List.length_nil, Nat.reduceAdd, Nat.reduceSub, Array.replicate_succ, Array.replicate_zero, List.push_toArray, List.append_toArray, List.nil_append, List.cons_append]
  gi_wp2_with (first
    | (gi_at_range; refine wpListIn_range_mp KL_ok rfl _ TMs rfl 88 Try.underlying59 rfl hown ?_; intro w0 hrg0 hg0 hs0 hlf0)
    | gi_in)
  go_frame
  gi_loopw [] (fun wr => ∃ L ss, Rg Try.prog KL wr b W.heap.size f ks L ∧ ss.length + wr.rangeLeft b W.heap.size ≤ ks.length ∧ Hid (ss.Nodup ∧ ∀ a, a ∈ ss ↔ a ∈ ks ∧ ¬ L a) ∧ J ss wr)
    (fun wr => wr.rangeLeft b W.heap.size)
  case atStart => exact ⟨_, [], hrg0, by rw [hlf0]; simp, Lib.hid ⟨List.nodup_nil, fun a => by simp⟩, hJ [] W w0 none h0 hg0 (fun r e => by cases e)⟩
  case round =>
    obtain ⟨L, ss, hrg, hcs, HS, hJs⟩ := hrel
    gi_wp2_with (first
      | (gi_at_next; refine wpListIn_next_mp KL_ok rfl _ rfl rfl hrg ?_ ?_)
      | gi_in)
    · intro hno
      have HNo := Lib.hid hno
      clear hno
      gi_wp2
      go_end0
      refine ⟨⟨_, rfl⟩, ss, ?_, hJs⟩
      rw [List.perm_ext_iff_of_nodup HS.out.1 HND.out]
      intro a
      rw [HS.out.2]
      exact ⟨fun h => h.1, fun h => ⟨h, HNo.out a.1 a.2⟩⟩
    · intro k1 k2 v w2 hLx hkd hfv hrg2 hlt hg2 hs2 ob hob hwk hen
      rw [show KL.val (k1, k2) = .agg #[.int .i64 k1, .int .i64 k2] from rfl] at hen ⊢
      have hJ2 : J ss w2 := hJ ss wr w2 (some W.heap.size) hJs hg2 (fun r e => by cases e; exact ⟨Nat.le_refl _, ob, hob, hwk⟩)
      have hg3 : w2.grownBy (w2.alloc (.cells #[.int .i64 k1, .int .i64 k2] TKey)) none := World.grownBy_alloc w2 _ none
      have hJ3 : J ss (w2.alloc (.cells #[.int .i64 k1, .int .i64 k2] TKey)) := hJ ss w2 _ none hJ2 hg3 (fun r e => by cases e)
      have hrg3 := hrg2.gr ((Gr.refl w2).alloc (Nat.le_refl _) (.cells #[.int .i64 k1, .int .i64 k2] TKey))
      have hl3 := hrg2.left_same ((Gr.refl w2).alloc (Nat.le_refl _) (.cells #[.int .i64 k1, .int .i64 k2] TKey))
      have hy1 := hY ss (k1, k2) (w2.alloc (.cells #[.int .i64 k1, .int .i64 k2] TKey)) hJ3 (by omega)
      rw [show kv (k1, k2) = .agg #[.int .i64 k1, .int .i64 k2] from rfl] at hy1
      obtain ⟨fn, tmps, assign, body, hy, hR⟩ := hy1
      have HS2 := Lib.hid (And.intro hLx (And.intro hfv (And.intro hlt (And.intro hl3 hrg2))))
      clear hs2 hJ2 hg3 hlt hl3 hLx hfv hg2 hrg2
      gi_wp2
      refine hR.mono ?_
      rintro e W3 ⟨rfl, hJ4, hk4⟩
      gi_wp2
      obtain ⟨hrg4, hl4⟩ := hrg3.of_walks hk4
      go_roundw
      case rel =>
        refine ⟨_, ss ++ [(k1, k2)], hrg4, ?_, Lib.hid ⟨?_, fun a => ?_⟩, hJ4⟩
        · have e1 := HS2.out.2.2.1
          have e2 := HS2.out.2.2.2.1
          rw [List.length_append, List.length_singleton, hl4, e2]
          omega
        · rw [List.nodup_append]
          refine ⟨HS.out.1, by simp, fun a ha b hb e => ?_⟩
          rw [List.mem_singleton] at hb
          rw [e, hb] at ha
          exact ((HS.out.2 _).1 ha).2 HS2.out.1
        · rw [List.mem_append, List.mem_singleton, HS.out.2]
          constructor
          · rintro (⟨h1, h2⟩ | h1)
            · exact ⟨h1, fun h => h2 h.1⟩
            · rw [h1]
              exact ⟨(HS2.out.2.2.2.2.mp KL_ok).mem _ |>.2 (by rw [HS2.out.2.1]; rfl), fun h => h.2 rfl⟩
          · rintro ⟨h1, h2⟩
            by_cases e : a = (k1, k2)
            · exact .inr e
            · exact .inl ⟨h1, fun h => h2 ⟨h, e⟩⟩
      case measure =>
        have e1 := HS2.out.2.2.1
        have e2 := HS2.out.2.2.2.1
        rw [hl4, e2]
        exact e1
end Go.Proofs.Ytgpaikaccipfjaa
