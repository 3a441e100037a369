
/-
  A row of structs of the call's own, whose slices of bytes read as they are said to: how it grows, how it is read. Over whatever program.
-/
import Derived.Test.YtchfhgeipmfegaaKit
import Derived.Maps.AppendAt
namespace Go.Proofs.Ytchfhgeipmfegaa
open Go.RowKit

/-- A slice of bytes, and what it reads as. -/
structure Sl where
  p : Option Addr
  n : Nat
  c : Nat
  xs : List Int
/-- How an element lies: its cells; its slices. -/
structure Shp (α : Type) where
  k : Nat
  cs : α → List Value
  sl : α → List Sl
  kpos : 0 < k
  len : ∀ x, (cs x).length = k
  one : ∀ x, ∀ u ∈ cs x, u.oneCell' = true

theorem Byt.grown {w w' : World} {p : Option Addr} {n c : Nat} {xs : List Int} {row : Option Nat} (h : Byt w p n c xs) (g : w.grownBy w' row) (hr : 0 < n → ∀ y, p = some y → row ≠ some y.block) : Byt w' p n c xs :=
  ⟨h.len, h.cap, h.most, fun hn => by
    obtain ⟨b, o, rfl, hc⟩ := h.at hn
    refine ⟨b, o, rfl, fun i hi => ?_⟩
    rw [← hc i hi]
    exact World.cell?_of_block (g.block b (blk_lt (hc i hi)) (fun e => hr hn _ rfl e.symm)), h.nilCap, h.small⟩

def Shp.flat {α : Type} (S : Shp α) (L : List α) : List Value := (L.map S.cs).flatten
theorem Shp.flat_len {α : Type} (S : Shp α) : ∀ L : List α, (S.flat L).length = L.length * S.k
  | [] => by simp [Shp.flat]
  | x :: L => by
    have := S.flat_len L
    unfold Shp.flat at *
    rw [List.map_cons, List.flatten_cons, List.length_append, this, S.len, List.length_cons, Nat.add_mul, Nat.one_mul, Nat.add_comm]
theorem Shp.flat_snoc {α : Type} (S : Shp α) (L : List α) (x : α) : S.flat (L ++ [x]) = S.flat L ++ S.cs x := by simp [Shp.flat]
theorem Shp.flat_at {α : Type} (S : Shp α) : ∀ (L : List α) (i : Nat) (h : i < L.length) (j : Nat), j < S.k → (S.flat L)[i * S.k + j]? = (S.cs L[i])[j]?
  | [], i, h, _, _ => by simp at h
  | x :: L, 0, _, j, hj => by
    unfold Shp.flat
    rw [List.map_cons, List.flatten_cons, Nat.zero_mul, Nat.zero_add, List.getElem?_append_left (by rw [S.len]; exact hj)]
    rfl
  | x :: L, i + 1, h, j, hj => by
    have h2 := S.flat_at L i (by simpa using h) j hj
    unfold Shp.flat at *
    rw [List.map_cons, List.flatten_cons, List.getElem?_append_right (by rw [S.len, Nat.add_mul]; omega), S.len]
    rw [show (i + 1) * S.k + j - S.k = i * S.k + j by rw [Nat.add_mul]; omega, h2]
    rfl

/-- What a slice of an element reads as; it lies apart from the row. -/
def Sl.In (s : Sl) (w : World) (v : Value) : Prop := Byt w s.p s.n s.c s.xs ∧ (0 < s.n → ∀ y, s.p = some y → v.ownBlock ≠ some y.block)
/-- The call's own row v (from block base on; its elements of type T) of the elements L. -/
structure OwnR {α : Type} (S : Shp α) (w : World) (base : Nat) (T : TypeId) (v : Value) (L : List α) : Prop where
  row : w.ownsRow base T S.k v L.length (S.flat L)
  each : ∀ x ∈ L, ∀ s ∈ S.sl x, s.In w v
theorem OwnR.nil {α : Type} (S : Shp α) (w : World) (base : Nat) (T : TypeId) : OwnR S w base T (.slice none 0 0) [] := ⟨World.ownsRow_nil _ _ _ _, fun _ h => by cases h⟩
theorem OwnR.gr {α : Type} {S : Shp α} {w w' : World} {base : Nat} {T : TypeId} {v : Value} {L : List α} (h : OwnR S w base T v L) (g : Gr w w') : OwnR S w' base T v L := by
  refine ⟨⟨h.row.1, ?_⟩, fun x hx s hs => ⟨(h.each x hx s hs).1.kept g, (h.each x hx s hs).2⟩⟩
  rcases h.row.2 with h2 | ⟨b, cap, cur, e, h0, hg, r⟩
  · exact .inl h2
  · exact .inr ⟨b, cap, cur, e, h0, (g.block b (Array.getElem?_eq_some_iff.1 hg).1).trans hg, r⟩
/-- It stays, where what else turns is neither the row nor what its slices read. -/
theorem OwnR.grown {α : Type} {S : Shp α} {w w' : World} {base : Nat} {T : TypeId} {v : Value} {L : List α} {row : Option Nat} (h : OwnR S w base T v L) (g : w.grownBy w' row) (h1 : v.ownBlock = none ∨ v.ownBlock ≠ row) (h2 : ∀ x ∈ L, ∀ s ∈ S.sl x, 0 < s.n → ∀ y, s.p = some y → row ≠ some y.block) : OwnR S w' base T v L :=
  ⟨h.row.kept g h1, fun x hx s hs => ⟨(h.each x hx s hs).1.grown g (h2 x hx s hs), (h.each x hx s hs).2⟩⟩
theorem OwnR.shape {α : Type} {S : Shp α} {w : World} {base : Nat} {T : TypeId} {v : Value} {L : List α} (h : OwnR S w base T v L) (m : Nat) (hm : L.length = m) : ∃ p c, v = .slice p m c ∧ m ≤ c ∧ c ≤ maxLen ∧ (∀ a, p = some a → base ≤ a.block) ∧ (p = none → c = 0) := by
  rcases h.row.2 with ⟨rfl, hn⟩ | ⟨g, cap, cur, rfl, hb, _, h1, h2, _⟩
  · exact ⟨none, 0, by rw [← hm, hn], by omega, Nat.zero_le _, (fun _ h => by cases h), fun _ => rfl⟩
  · exact ⟨_, cap, by rw [hm], by omega, h2, (fun a h => by cases h; exact hb), fun h => by cases h⟩
theorem OwnR.base_le {α : Type} {S : Shp α} {w : World} {B B' : Nat} {T : TypeId} {v : Value} {L : List α} (h : OwnR S w B T v L) (hb : B' ≤ B) : OwnR S w B' T v L := by
  refine ⟨⟨h.row.1, ?_⟩, h.each⟩
  rcases h.row.2 with h2 | ⟨b, cap, cur, e, h0, r⟩
  · exact .inl h2
  · exact .inr ⟨b, cap, cur, e, Nat.le_trans hb h0, r⟩
theorem OwnR.base {α : Type} {S : Shp α} {w : World} {B : Nat} {T : TypeId} {v : Value} {L : List α} (h : OwnR S w B T v L) : ∀ k, v.ownBlock = some k → B ≤ k ∧ k < w.heap.size := h.row.lt
/-- Where there is an element: the row's block, and the cells of each. -/
theorem OwnR.at {α : Type} {S : Shp α} {w : World} {base : Nat} {T : TypeId} {v : Value} {L : List α} (h : OwnR S w base T v L) (h0 : 0 < L.length) : ∃ g cap, v = .slice (some ⟨g, 0, none⟩) L.length cap ∧ base ≤ g ∧ g < w.heap.size ∧ ∀ i (hi : i < L.length) j, j < S.k → w.cell? ⟨g, i * S.k + j, none⟩ = (S.cs L[i])[j]? := by
  rcases h.row.2 with ⟨_, hn⟩ | ⟨g, cap, cur, rfl, hb, hg, h1, h2, h3, h4⟩
  · omega
  · refine ⟨g, cap, rfl, hb, (Array.getElem?_eq_some_iff.1 hg).1, fun i hi j hj => ?_⟩
    rw [cell_of_row w g _ cur T (0, 0) hg, ← S.flat_at L i hi j hj, ← h4, List.getElem?_take, if_pos (by
      have : (i + 1) * S.k ≤ L.length * S.k := Nat.mul_le_mul_right _ (by omega)
      rw [Nat.add_mul] at this
      omega)]
    simp

/-- append(own, x): an element behind it. -/
theorem wpList_app_row {α : Type} (S : Shp α) {P : Program} {tS T : TypeId} {zero : Value} {bytes : Nat} (us : P.underlying tS = some (.slice T)) (info : (P.info? T).map (fun i => (i.zero, i.size, i.bytes)) = some (some zero, S.k, bytes)) (hz : zero.cells.size = S.k)
    {w : World} {ops : Array Oper} {rest : List Oper} {o : Oper} {a : Act} {Q : Exit → Act → World → Prop} (hgd : o.guard = none) (s x : Operand)
    (ho : o.op = .call { callee := .builtin .append, args := #[s, x], argTypes := #[tS, tS] }) (base : Nat) (v : Value) (L : List α) (hs : a.eval s = v) (hown : OwnR S w base T v L)
    (q : Nat) (hx : a.eval x = .slice (some ⟨q, 0, none⟩) 1 1) (y : α) (hq : ∀ j, j < S.k → w.cell? ⟨q, j, none⟩ = (S.cs y)[j]?) (hy : ∀ s ∈ S.sl y, s.In w v) (hlen : (L.length + 1) * bytes ≤ 140737488355328) (hl2 : L.length + 1 ≤ 100000000000) (hbase : base ≤ w.heap.size)
    (h : ∀ v' w', OwnR S w' base T v' (L ++ [y]) → w.grownBy w' v.ownBlock → (v'.ownBlock = v.ownBlock ∨ v'.ownBlock = some w.heap.size) → wpList P ops Q rest (a.put o.dst v') w') : wpList P ops Q (o :: rest) a w := by
  obtain ⟨i, hi, hz0, hz1, hz2⟩ := info_parts info
  refine wpList_plain hgd fun K hK => ?_
  have hnews : ∀ j u, (S.cs y)[j]? = some u → w.cell? ((⟨q, 0, none⟩ : Addr).add j) = some u := by
    intro j u hj
    have hlt : j < S.k := by rw [← S.len y]; exact (List.getElem?_eq_some_iff.1 hj).1
    rw [Addr.add_lit, Nat.zero_add, hq j hlt, hj]
  obtain ⟨v', w', hrun, h1, h2, _, h3⟩ := run_append_own_at (P := P) w base tS o.type T i zero S.k bytes us hi hz0 hz1 hz2 hz S.kpos v L.length _ hown.row ⟨q, 0, none⟩ 1 1 (S.cs y) (by rw [S.len, Nat.one_mul]) hnews (S.one y) (by unfold maxLen; omega) hlen hbase
  unfold Oper.wp execOp
  simp only [ho, resolve, invoke, builtin, Sem.run_bind, Sem.run_pure, Result.andThen_ok, List.map_toArray, List.map_cons, List.map_nil, hs, hx, hrun]
  have apart : ∀ z : Sl, z.In w v → z.In w' v' := fun z hz => ⟨hz.1.grown h2 hz.2, fun h0 p hp => by
    rcases h3 with h3 | h3
    · rw [h3]; exact hz.2 h0 p hp
    · rw [h3]
      obtain ⟨b, off, e, hc⟩ := hz.1.at h0
      rw [e] at hp
      cases hp
      have hlt : b < w.heap.size := blk_lt (hc 0 h0)
      intro e2
      have e3 : w.heap.size = b := Option.some.inj e2
      omega⟩
  refine hK _ _ (h v' w' ⟨?_, fun z hz sl hsl => ?_⟩ h2 h3)
  · rw [S.flat_snoc, List.length_append]
    exact h1
  · rcases List.mem_append.1 hz with hz | hz
    · exact apart sl (hown.each z hz sl hsl)
    · obtain rfl := List.mem_singleton.1 hz
      exact apart sl (hy sl hsl)

end Go.Proofs.Ytchfhgeipmfegaa
