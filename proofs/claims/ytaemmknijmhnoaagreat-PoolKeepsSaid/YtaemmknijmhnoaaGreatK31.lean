/-
  Texts, put together: WalLaw1 OwnR.
-/
import Derived.Maps.AppendAt
import Derived.Test.YtaemmknijmhnoaaGreatK1
import Derived.Test.YtaemmknijmhnoaaGreatK8
import Derived.Test.YtaemmknijmhnoaaGreatK30
set_option linter.unusedVariables false
set_option linter.unusedSimpArgs false
/-
  The code's disk and log, and the document's, as the law has them: what each way leaves, whatever blocks it lies in.
-/
namespace Go.Proofs.YtaemmknijmhnoaaGreat
open Go.RowKit Go.Maps

/-- The code's disk and log, in the blocks S. -/
def CodeAt (w : World) (S : Nat → Prop) (pd pl : Value) (s : St) (L : Lg) : Prop :=
  ∃ F b q m c, pl = .pointer (some ⟨b, 0, none⟩) ∧ Wl w F b pd q m c s L ∧ S = wlS F b q
def RetC (v : Value) (s' : St) (L' : Lg) (S : Nat → Prop) (pd pl : Value) (w : World) (e : Ending) (w' : World) : Prop := ∃ S', e = .returned v ∧ CodeAt w' S' pd pl s' L' ∧ Upd S S' w w'
section
variable {w w' : World} {S T : Nat → Prop} {pd pl pw pm : Value} {s : St} {L : Lg} {M : Nat}
theorem CodeAt.low (h : CodeAt w S pd pl s L) : ∀ k, S k → k < w.heap.size := by
  obtain ⟨F, b, q, m, c, _, h, rfl⟩ := h
  rintro k (hk | hk)
  · exact h.dk.low k hk
  · exact h.lg.low k hk
theorem CodeAt.stays (h : CodeAt w S pd pl s L) (e : ∀ k, S k → w'.heap[k]? = w.heap[k]?) (hs : w.heap.size ≤ w'.heap.size) : CodeAt w' S pd pl s L := by
  obtain ⟨F, b, q, m, c, hp, h, rfl⟩ := h
  exact ⟨F, b, q, m, c, hp, ⟨h.dk.stays (fun k hk => e k (.inl hk)) hs, h.lg.stays (fun k hk => e k (.inr hk)) hs, h.apart⟩, rfl⟩
theorem CodeAt.gr (h : CodeAt w S pd pl s L) (g : Gr w w') : CodeAt w' S pd pl s L := h.stays (fun k hk => g.block k (h.low k hk)) g.size
theorem RetC.of_wl {v : Value} {s' : St} {L' : Lg} {F : Nat → Prop} {b : Nat} {q : Option Addr} {e : Ending} (h : RetWl v s' L' F b pd q w e w') : RetC v s' L' (wlS F b q) pd (.pointer (some ⟨b, 0, none⟩)) w e w' := by
  obtain ⟨F', q', m', c', he, h1, h2⟩ := h
  exact ⟨_, he, ⟨F', b, q', m', c', rfl, h1, rfl⟩, h2⟩
theorem RetC.of_lg {v : Value} {L' : Lg} {F : Nat → Prop} {b : Nat} {q : Option Addr} {m c : Nat} {e : Ending} (h0 : Wl w F b pd q m c s L) (h : RetLg v L' b pd q w e w') : RetC v s L' (wlS F b q) pd (.pointer (some ⟨b, 0, none⟩)) w e w' := by
  obtain ⟨q', m', c', he, h1, hu⟩ := h
  obtain ⟨h2, h3⟩ := hu.other h0.dk.low (fun k hl hf => h0.apart k hf hl)
  exact ⟨_, he, ⟨F, b, q', m', c', rfl, ⟨h0.dk.stays h2 hu.size, h1, fun k hf hl => h3 k hl hf⟩, rfl⟩, ⟨hu.os, hu.tape, hu.output, hu.size, fun k hk hn => hu.block k hk (fun e => hn (.inr e)), fun k hk => hk.elim (fun e => .inl (.inl e)) (fun e => (hu.fresh k e).imp .inr id)⟩⟩
theorem CodeAt.End (h : CodeAt w S pd pl s L) (ok : L.Ok) : Calls Tryz.prog 37 #[pl] w (RetU L.fin w) := by
  obtain ⟨F, b, q, m, c, rfl, h, rfl⟩ := h
  exact h.lg.End ok
theorem CodeAt.Lasts (h : CodeAt w S pd pl s L) : Calls Tryz.prog 21 #[pl] w (RetU L.lasts w) := by
  obtain ⟨F, b, q, m, c, rfl, h, rfl⟩ := h
  obtain ⟨d, hd⟩ := h.lg.dsk
  exact wLasts_any d b _ _ _ _ _ _ _ _ _ _ _ _ w h.lg.blk hd
theorem CodeAt.Append (h : CodeAt w S pd pl s L) (ok : L.Ok) (r : Rc) (hi : r.In) (pb : Option Addr) (nb cb : Nat) (pa : Option Addr) (na ca : Nat) (hb : Byt w pb nb cb r.b) (ha : Byt w pa na ca r.a) :
    Calls Tryz.prog 43 #[pl, .agg (rcv r pb nb cb pa na ca)] w (RetC (.tuple #[.int .u64 (layA L r L.free : Int), .int .i64 (layE r L.free)]) s (layL L r L.free) S pd pl w) := by
  obtain ⟨F, b, q, m, c, rfl, h, rfl⟩ := h
  exact (LgAt.Append w h.lg ok r hi pb nb cb pa na ca hb ha).mono fun _ _ hr => RetC.of_lg h hr
theorem CodeAt.Flush (h : CodeAt w S pd pl s L) (ok : L.Ok) (hn : 3 + L.l ≤ s.ls.length) (hw : s.writes ≤ 800000000) (u : Nat) (hu : u ≤ 18446744073709551615) : Calls Tryz.prog 67 #[pl, .int .u64 (u : Int)] w (RetC (.int .i64 (flE s L u)) (flS s L u) (flL s L u) S pd pl w) := by
  obtain ⟨F, b, q, m, c, rfl, h, rfl⟩ := h
  exact (wFlush_any w h ok hn hw u hu).mono fun _ _ hr => RetC.of_wl hr
theorem CodeAt.disk (h : CodeAt w S pd pl s L) : ∃ F, Dk w F pd s ∧ (∀ k, F k → S k) ∧ ∀ s' F', Dk w' F' pd s' → Upd F F' w w' → ∃ S', CodeAt w' S' pd pl s' L ∧ Upd S S' w w' := by
  obtain ⟨F, b, q, m, c, rfl, h, rfl⟩ := h
  refine ⟨F, h.dk, fun k hk => .inl hk, fun s' F' hd hu => ?_⟩
  obtain ⟨F2, h1, h2⟩ := h.disk ⟨F', hd, hu⟩
  exact ⟨_, ⟨F2, b, q, m, c, rfl, h1, rfl⟩, h2⟩
end

end Go.Proofs.YtaemmknijmhnoaaGreat

/-
  A row of structs of the call's own, whose slices of bytes read as they are said to: how it grows, how it is read. Over whatever program.
-/
namespace Go.Proofs.YtaemmknijmhnoaaGreat
open Go.RowKit

/-- A slice of bytes, and what it reads as. -/
structure Sl where
  p : Option Addr
  n : Nat
  c : Nat
  xs : List Int
/-- How an element lies: its cells; its slices. -/
structure Shp (α : Type) where
  k : Nat
  cs : α → List Value
  sl : α → List Sl
  kpos : 0 < k
  len : ∀ x, (cs x).length = k
  one : ∀ x, ∀ u ∈ cs x, u.oneCell' = true

theorem Byt.grown {w w' : World} {p : Option Addr} {n c : Nat} {xs : List Int} {row : Option Nat} (h : Byt w p n c xs) (g : w.grownBy w' row) (hr : 0 < n → ∀ y, p = some y → row ≠ some y.block) : Byt w' p n c xs :=
  ⟨h.len, h.cap, h.most, fun hn => by
    obtain ⟨b, o, rfl, hc⟩ := h.at hn
    refine ⟨b, o, rfl, fun i hi => ?_⟩
    rw [← hc i hi]
    exact World.cell?_of_block (g.block b (blk_lt (hc i hi)) (fun e => hr hn _ rfl e.symm)), h.nilCap, h.small⟩

def Shp.flat {α : Type} (S : Shp α) (L : List α) : List Value := (L.map S.cs).flatten
theorem Shp.flat_snoc {α : Type} (S : Shp α) (L : List α) (x : α) : S.flat (L ++ [x]) = S.flat L ++ S.cs x := by simp [Shp.flat]
/-- What a slice of an element reads as; it lies apart from the row. -/
def Sl.In (s : Sl) (w : World) (v : Value) : Prop := Byt w s.p s.n s.c s.xs ∧ (0 < s.n → ∀ y, s.p = some y → v.ownBlock ≠ some y.block)
/-- The call's own row v (from block base on; its elements of type T) of the elements L. -/
structure OwnR {α : Type} (S : Shp α) (w : World) (base : Nat) (T : TypeId) (v : Value) (L : List α) : Prop where
  row : w.ownsRow base T S.k v L.length (S.flat L)
  each : ∀ x ∈ L, ∀ s ∈ S.sl x, s.In w v
theorem OwnR.gr {α : Type} {S : Shp α} {w w' : World} {base : Nat} {T : TypeId} {v : Value} {L : List α} (h : OwnR S w base T v L) (g : Gr w w') : OwnR S w' base T v L := by
  refine ⟨⟨h.row.1, ?_⟩, fun x hx s hs => ⟨(h.each x hx s hs).1.kept g, (h.each x hx s hs).2⟩⟩
  rcases h.row.2 with h2 | ⟨b, cap, cur, e, h0, hg, r⟩
  · exact .inl h2
  · exact .inr ⟨b, cap, cur, e, h0, (g.block b (Array.getElem?_eq_some_iff.1 hg).1).trans hg, r⟩
/-- It stays, where what else turns is neither the row nor what its slices read. -/
theorem OwnR.grown {α : Type} {S : Shp α} {w w' : World} {base : Nat} {T : TypeId} {v : Value} {L : List α} {row : Option Nat} (h : OwnR S w base T v L) (g : w.grownBy w' row) (h1 : v.ownBlock = none ∨ v.ownBlock ≠ row) (h2 : ∀ x ∈ L, ∀ s ∈ S.sl x, 0 < s.n → ∀ y, s.p = some y → row ≠ some y.block) : OwnR S w' base T v L :=
  ⟨h.row.kept g h1, fun x hx s hs => ⟨(h.each x hx s hs).1.grown g (h2 x hx s hs), (h.each x hx s hs).2⟩⟩
theorem OwnR.shape {α : Type} {S : Shp α} {w : World} {base : Nat} {T : TypeId} {v : Value} {L : List α} (h : OwnR S w base T v L) (m : Nat) (hm : L.length = m) : ∃ p c, v = .slice p m c ∧ m ≤ c ∧ c ≤ maxLen ∧ (∀ a, p = some a → base ≤ a.block) ∧ (p = none → c = 0) := by
  rcases h.row.2 with ⟨rfl, hn⟩ | ⟨g, cap, cur, rfl, hb, _, h1, h2, _⟩
  · exact ⟨none, 0, by rw [← hm, hn], by omega, Nat.zero_le _, (fun _ h => by cases h), fun _ => rfl⟩
  · exact ⟨_, cap, by rw [hm], by omega, h2, (fun a h => by cases h; exact hb), fun h => by cases h⟩
theorem OwnR.base_le {α : Type} {S : Shp α} {w : World} {B B' : Nat} {T : TypeId} {v : Value} {L : List α} (h : OwnR S w B T v L) (hb : B' ≤ B) : OwnR S w B' T v L := by
  refine ⟨⟨h.row.1, ?_⟩, h.each⟩
  rcases h.row.2 with h2 | ⟨b, cap, cur, e, h0, r⟩
  · exact .inl h2
  · exact .inr ⟨b, cap, cur, e, Nat.le_trans hb h0, r⟩
theorem OwnR.base {α : Type} {S : Shp α} {w : World} {B : Nat} {T : TypeId} {v : Value} {L : List α} (h : OwnR S w B T v L) : ∀ k, v.ownBlock = some k → B ≤ k ∧ k < w.heap.size := h.row.lt
end Go.Proofs.YtaemmknijmhnoaaGreat

