/-
  Texts on locks, put together: Gr Blk LkMap.
-/
import Derived.WalkKit
import Derived.WalkSpells
import Derived.WalkLawsBesides
import Derived.Handy
import Derived.ProofKit
import Derived.Lib.Hide
import Derived.Laws.Rows
import Derived.Maps.Own
import Derived.Maps.OwnOps
import Derived.Maps.OwnSet
import Derived.Maps.Views
import Derived.Maps.Range
import Derived.Maps.RangeWalk
/-
  What was there is as it was; results. Over whatever program.
-/
namespace Go.Proofs.Ytbmcdlcoojmppaa
open Go.RowKit

theorem ret_b {a b : Bool} (h : a = b) : Ending.returned (.bool a) = .returned (.bool b) := by rw [h]
theorem ret_i {k : IntKind} {a b : Int} (h : a = b) : Ending.returned (.int k a) = .returned (.int k b) := by rw [h]

/-- The length in a slot: for a loop's measure. -/
def lenOf : Value → Nat | .slice _ n _ => n | _ => 0

/-- Nothing that was there has turned. -/
abbrev Gr (w w' : World) : Prop := Below w.heap.size w w'
theorem Gr.refl (w : World) : Gr w w := Below.refl _ _
theorem Gr.trans {a b c : World} (h : Gr a b) (k : Gr b c) : Gr a c := Below.trans h (Below.mono k h.size)

end Go.Proofs.Ytbmcdlcoojmppaa

/-
  A block that is known whole. Over whatever program.
-/
namespace Go.Proofs.Ytbmcdlcoojmppaa
open Go.RowKit

/-- A block that is known whole. -/
def Blk (w : World) (g : Nat) (t : TypeId) (cs : Array Value) : Prop := w.heap[g]? = some (.cells cs t (0, 0))
theorem Blk.lt {w : World} {g : Nat} {t : TypeId} {cs : Array Value} (h : Blk w g t cs) : g < w.heap.size := (Array.getElem?_eq_some_iff.1 h).1
theorem Blk.cell {w : World} {g : Nat} {t : TypeId} {cs : Array Value} (h : Blk w g t cs) (i : Nat) : w.cell? ⟨g, i, none⟩ = cs[i]? := cell_of_row w g i cs t (0, 0) h
theorem Blk.frozen {w : World} {g : Nat} {t : TypeId} {cs : Array Value} (h : Blk w g t cs) (i : Nat) : w.frozen? ⟨g, i, none⟩ = false := frozen_of_row w g i cs t h
theorem Blk.new (w : World) (t : TypeId) (cs : Array Value) : Blk (w.alloc (.cells cs t)) w.heap.size t cs := heap_alloc_new w _
theorem Blk.alloc {w : World} {g : Nat} {t : TypeId} {cs : Array Value} (h : Blk w g t cs) (o : Obj) : Blk (w.alloc o) g t cs := (Below.heap_alloc w o g h.lt).trans h
theorem Blk.set {w : World} {g : Nat} {t : TypeId} {cs : Array Value} (h : Blk w g t cs) (i : Nat) (u : Value) : Blk (w.setCell ⟨g, i, none⟩ u) g t (cs.setIfInBounds i u) := heap_setCell_same w g i cs t u h
theorem Blk.far {w : World} {g : Nat} {t : TypeId} {cs : Array Value} (h : Blk w g t cs) {p : Addr} (hp : g ≠ p.block) (u : Value) : Blk (w.setCell p u) g t cs := (heap_setCell_other w p g u hp).trans h
theorem Blk.stays {w w' : World} {g : Nat} {t : TypeId} {cs : Array Value} (h : Blk w g t cs) (e : w'.heap[g]? = w.heap[g]?) : Blk w' g t cs := e.trans h
theorem Blk.gr {w w' : World} {g : Nat} {t : TypeId} {cs : Array Value} (h : Blk w g t cs) (e : Gr w w') : Blk w' g t cs := h.stays (e.block g h.lt)
theorem Blk.below {B : Nat} {w w' : World} {g : Nat} {t : TypeId} {cs : Array Value} (h : Blk w g t cs) (hb : Below B w w') (hg : g < B) : Blk w' g t cs := (hb.block g hg).trans h
theorem Blk.row {w : World} {g : Nat} {t : TypeId} {cs : Array Value} (h : Blk w g t cs) (cs' : Array Value) : Blk (w.setRow g cs') g t cs' := setRow_heap w g cs cs' t (0, 0) h
theorem Blk.heap {w w' : World} {g : Nat} {t : TypeId} {cs : Array Value} (h : Blk w g t cs) (e : w'.heap = w.heap) : Blk w' g t cs := by unfold Blk; rw [e]; exact h
abbrev TI : TypeId := 3

end Go.Proofs.Ytbmcdlcoojmppaa

/-
  A map in memory, its keys of whatever kind, its elements any values: what stands at each key, and which keys there are. Over whatever program.
-/
namespace Go.Proofs.Ytbmcdlcoojmppaa
open Go.RowKit Go.Maps

/-- A kind of keys: its type, a key's value, what it reads as, which there are. -/
structure KK (α : Type) where
  ty : TypeId
  val : α → Value
  lit : α → Lit
  dom : α → Prop
structure KK.Ok {α : Type} (P : Program) (K : KK α) : Prop where
  keyed : Keyed P K.ty
  key : ∀ a, K.dom a → keyOf P K.ty (K.val a) = some (K.lit a)
  inv : ∀ v l, keyOf P K.ty v = some l → ∃ a, K.dom a ∧ v = K.val a ∧ l = K.lit a
  inj : ∀ a b, K.val a = K.val b → a = b
theorem KK.Ok.lit_inj {α : Type} {P : Program} {K : KK α} (h : K.Ok P) {a b : α} (ha : K.dom a) (hb : K.dom b) (e : K.lit a = K.lit b) : a = b :=
  h.inj _ _ (h.keyed.inj (h.key a ha) (by rw [e]; exact h.key b hb))
theorem KK.Ok.is {α : Type} {P : Program} {K : KK α} (h : K.Ok P) {a : α} (ha : K.dom a) : WideAt.IsKeyLit (K.lit a) := h.keyed.key (h.key a ha)

/-- An element reads as itself. -/
def elV (v : Value) : Option (DataW Value × List MemPlace) := some (.held v, [])
structure MpD {α : Type} (K : KK α) (D : DataW Value) (f : α → Option Value) (ks : List α) : Prop where
  at_ : ∀ a z, K.dom a → D.atKey (K.lit a) (.held z) = .held ((f a).getD z)
  has : ∀ a, K.dom a → Maps.has D (K.lit a) = (f a).isSome
  keys : ∀ l, Maps.has D l = true → ∃ a, K.dom a ∧ l = K.lit a
  dom : ∀ a, (f a).isSome = true → K.dom a
  nodup : ks.Nodup
  mem : ∀ a, a ∈ ks ↔ (f a).isSome = true
/-- Block m is a map; f says what stands at a key, ks are the keys that there are. -/
def Mp {α : Type} (P : Program) (K : KK α) (w : World) (m : Nat) (f : α → Option Value) (ks : List α) : Prop :=
  ∃ D, w.ownsMap P K.ty elV m ks.length D ∧ MpD K D f ks

section
variable {α : Type} {P : Program} {K : KK α} {w : World} {m : Nat} {f : α → Option Value} {ks : List α}
theorem own_stays {w w' : World} {P : Program} {k : TypeId} {R : Value → Option (DataW Value × List MemPlace)} {b n : Nat} {D : DataW Value} (h : w.ownsMap P k R b n D) (e : w'.heap[b]? = w.heap[b]?) : w'.ownsMap P k R b n D := by
  obtain ⟨es, clock, hb, r⟩ := h
  exact ⟨es, clock, e.trans hb, r⟩
theorem Mp.stays {w' : World} (h : Mp P K w m f ks) (e : w'.heap[m]? = w.heap[m]?) : Mp P K w' m f ks := by
  obtain ⟨D, h1, h2⟩ := h
  exact ⟨D, own_stays h1 e, h2⟩
theorem Mp.lt (h : Mp P K w m f ks) : m < w.heap.size := by
  obtain ⟨D, h1, _⟩ := h
  exact h1.lt
theorem Mp.isMap (h : Mp P K w m f ks) : ∃ es c, w.heap[m]? = some (.map es c) := by
  obtain ⟨D, ⟨es, c, h1, _⟩, _⟩ := h
  exact ⟨es, c, h1⟩
theorem Mp.dom (h : Mp P K w m f ks) : ∀ a, (f a).isSome = true → K.dom a := by
  obtain ⟨D, _, h⟩ := h
  exact h.dom
theorem Mp.nodup (h : Mp P K w m f ks) : ks.Nodup := by
  obtain ⟨D, _, h⟩ := h
  exact h.nodup
theorem Mp.mem (h : Mp P K w m f ks) : ∀ a, a ∈ ks ↔ (f a).isSome = true := by
  obtain ⟨D, _, h⟩ := h
  exact h.mem
theorem own_size {n : Nat} {D : DataW Value} (O : K.Ok P) (h : w.ownsMap P K.ty elV m n D) (hD : MpD K D f ks) : Maps.size D = ks.length := by
  obtain ⟨es, rfl, hp, hk⟩ := h.entries O.keyed
  show es.length = ks.length
  have h1 : (es.map (·.1)).Nodup := by
    unfold List.Nodup
    rw [List.pairwise_map]
    exact hp
  have h2 : (ks.map K.lit).Nodup := by
    unfold List.Nodup
    rw [List.pairwise_map]
    refine List.Pairwise.imp_of_mem ?_ hD.nodup
    intro a b ha hb hne e
    exact hne (O.lit_inj (hD.dom a ((hD.mem a).1 ha)) (hD.dom b ((hD.mem b).1 hb)) e)
  have h3 : (es.map (·.1)).Perm (ks.map K.lit) := by
    rw [List.perm_ext_iff_of_nodup h1 h2]
    intro l
    constructor
    · intro hl
      obtain ⟨p, hp1, rfl⟩ := List.mem_map.1 hl
      have hh : Maps.has (DataW.map es) p.1 = true := List.any_eq_true.2 ⟨p, hp1, WideAt.sameKey_self (hk p hp1)⟩
      obtain ⟨a, da, e⟩ := hD.keys _ hh
      rw [e] at hh ⊢
      rw [hD.has a da] at hh
      exact List.mem_map.2 ⟨a, (hD.mem a).2 hh, rfl⟩
    · intro hl
      obtain ⟨a, ha, rfl⟩ := List.mem_map.1 hl
      have ha2 := (hD.mem a).1 ha
      have da := hD.dom a ha2
      have hh := hD.has a da
      rw [ha2] at hh
      obtain ⟨p, hp1, hp2⟩ := List.any_eq_true.1 hh
      exact List.mem_map.2 ⟨p, hp1, WideAt.sameKey_eq hp2⟩
  have := h3.length_eq
  simpa using this
theorem own_at (O : K.Ok P) {n : Nat} {D : DataW Value} (h : w.ownsMap P K.ty elV m n D) (hD : MpD K D f ks) : Mp P K w m f ks := by
  have hs := own_size O h hD
  refine ⟨D, ?_, hD⟩
  obtain ⟨es, clock, hb, F, _, rfl⟩ := h
  refine ⟨es, clock, hb, F, ?_, rfl⟩
  rw [← hs]
  simp [Maps.size, length_sorted]
theorem Mp.made (w : World) : Mp P K (w.alloc (.map #[] 0)) w.heap.size (fun _ => none) [] :=
  ⟨.map [], World.ownsMap_made w P K.ty elV, ⟨fun _ _ _ => rfl, fun _ _ => rfl, (fun _ h => by cases h), (fun _ h => by cases h), List.nodup_nil, fun a => by simp⟩⟩
theorem Mp.len (O : K.Ok P) (h : Mp P K w m f ks) {t e : TypeId} (ht : P.underlying t = some (.map K.ty e)) (ty : TypeId) : (Builtin.len_ #[t] ty #[.map (some m)]).run P w = .ok (.int .i64 (ks.length : Int)) w := by
  obtain ⟨D, h1, hD⟩ := h
  rw [h1.len ht ty, own_size O h1 hD]
theorem Mp.look (O : K.Ok P) (h : Mp P K w m f ks) {t e : TypeId} (ht : P.underlying t = some (.map K.ty e)) {z : Value} (hz : (zeroValue e).run P w = .ok z w) {a : α} (ha : K.dom a) :
    (Instr.lookup t (.map (some m)) (K.val a) false).run P w = .ok ((f a).getD z) w := by
  obtain ⟨D, h1, hD⟩ := h
  obtain ⟨v, ps, hr, hv⟩ := h1.lookup O.keyed ht hz (zd := .held z) (zp := []) rfl (O.key a ha)
  rw [hD.at_ a z ha] at hv
  simp only [elV, Option.some.injEq, Prod.mk.injEq, DataW.held.injEq] at hv
  rw [hr, hv.1]
theorem Mp.look_ok (O : K.Ok P) (h : Mp P K w m f ks) {t e : TypeId} (ht : P.underlying t = some (.map K.ty e)) {z : Value} (hz : (zeroValue e).run P w = .ok z w) {a : α} (ha : K.dom a) :
    (Instr.lookup t (.map (some m)) (K.val a) true).run P w = .ok (.tuple #[(f a).getD z, .bool (f a).isSome]) w := by
  obtain ⟨D, h1, hD⟩ := h
  obtain ⟨v, ps, hr, hv⟩ := h1.look_ok O.keyed ht hz (zd := .held z) (zp := []) rfl (O.key a ha)
  rw [hD.at_ a z ha] at hv
  simp only [elV, Option.some.injEq, Prod.mk.injEq, DataW.held.injEq] at hv
  rw [hr, hv.1, hD.has a ha]
end
section
variable {α : Type} [DecidableEq α] {P : Program} {K : KK α} {w : World} {m : Nat} {f : α → Option Value} {ks : List α}
/-- One is put into a list of keys; one is taken out. -/
def putK (a : α) (ks : List α) : List α := if a ∈ ks then ks else a :: ks
def delK (a : α) (ks : List α) : List α := ks.filter fun b => decide (b ≠ a)
theorem mem_putK {a b : α} {ks : List α} : b ∈ putK a ks ↔ b = a ∨ b ∈ ks := by
  unfold putK
  split
  · rename_i h
    constructor
    · exact .inr
    · rintro (rfl | h1)
      · exact h
      · exact h1
  · simp
theorem nodup_putK {a : α} {ks : List α} (h : ks.Nodup) : (putK a ks).Nodup := by
  unfold putK
  split
  · exact h
  · rename_i h1
    exact List.nodup_cons.2 ⟨h1, h⟩
theorem putK_len (a : α) (ks : List α) : (putK a ks).length ≤ ks.length + 1 := by
  unfold putK
  split <;> simp
theorem mem_delK {a b : α} {ks : List α} : b ∈ delK a ks ↔ b ∈ ks ∧ b ≠ a := by
  unfold delK
  rw [List.mem_filter]
  simp
theorem nodup_delK {a : α} {ks : List α} (h : ks.Nodup) : (delK a ks).Nodup := List.Nodup.sublist List.filter_sublist h
theorem delK_len (a : α) (ks : List α) : (delK a ks).length ≤ ks.length := List.length_filter_le _ _
/-- What stands at the keys, one of them turned. -/
def updF {β : Type} (f : α → Option β) (a : α) (v : Option β) : α → Option β := fun b => if b = a then v else f b
theorem updF_same {β : Type} (f : α → Option β) (a : α) (v : Option β) : updF f a v a = v := by simp [updF]
theorem updF_other {β : Type} (f : α → Option β) {a b : α} (v : Option β) (h : b ≠ a) : updF f a v b = f b := by simp [updF, h]
theorem Mp.store (O : K.Ok P) (h : Mp P K w m f ks) (hn : ks.length < maxLen) {t e : TypeId} (ht : P.underlying t = some (.map K.ty e)) {a : α} (ha : K.dom a) (v : Value) :
    ∃ w', (Instr.mapUpdate t (.map (some m)) (K.val a) v).run P w = .ok () w' ∧ Mp P K w' m (updF f a (some v)) (putK a ks) ∧ w.grownBy w' (some m) := by
  obtain ⟨D, h1, hD⟩ := h
  obtain ⟨w', hr, h2, ht2⟩ := h1.store O.keyed ht hn (O.key a ha) (d := .held v) (ps := []) rfl (val := v)
  refine ⟨w', hr, own_at O h2 ⟨fun b z hb => ?_, fun b hb => ?_, fun l hl => ?_, fun b hb => ?_, nodup_putK hD.nodup, fun b => ?_⟩, ht2.grown⟩
  · unfold updF
    by_cases e1 : b = a
    · subst e1
      rw [if_pos rfl]
      exact atKey_put_same h1.isMap (O.is ha) _ _
    · rw [if_neg e1, atKey_put_other (fun e2 => e1 (O.lit_inj hb ha e2))]
      exact hD.at_ b z hb
  · unfold updF
    by_cases e1 : b = a
    · subst e1
      rw [if_pos rfl]
      exact has_put_same h1.isMap (O.is ha) _
    · rw [if_neg e1, has_put_other (fun e2 => e1 (O.lit_inj hb ha e2))]
      exact hD.has b hb
  · by_cases e1 : l = K.lit a
    · exact ⟨a, ha, e1⟩
    · rw [has_put_other e1] at hl
      exact hD.keys l hl
  · unfold updF at hb
    by_cases e1 : b = a
    · subst e1; exact ha
    · rw [if_neg e1] at hb
      exact hD.dom b hb
  · rw [mem_putK]
    unfold updF
    by_cases e1 : b = a
    · simp [e1]
    · rw [if_neg e1, ← hD.mem b]
      simp [e1]
theorem Mp.drop (O : K.Ok P) (h : Mp P K w m f ks) {t e : TypeId} (ht : P.underlying t = some (.map K.ty e)) {a : α} (ha : K.dom a) (ty : TypeId) :
    ∃ w', (Builtin.delete_ #[t, K.ty] ty #[.map (some m), K.val a]).run P w = .ok (.tuple #[]) w' ∧ Mp P K w' m (updF f a none) (delK a ks) ∧ w.grownBy w' (some m) := by
  obtain ⟨D, h1, hD⟩ := h
  obtain ⟨w', hr, h2, ht2⟩ := h1.drop O.keyed ht (O.key a ha) ty
  refine ⟨w', hr, own_at O h2 ⟨fun b z hb => ?_, fun b hb => ?_, fun l hl => ?_, fun b hb => ?_, nodup_delK hD.nodup, fun b => ?_⟩, ht2.grown⟩
  · unfold updF
    by_cases e1 : b = a
    · subst e1
      rw [if_pos rfl]
      exact atKey_del_same _
    · rw [if_neg e1, atKey_del_other (fun e2 => e1 (O.lit_inj hb ha e2))]
      exact hD.at_ b z hb
  · unfold updF
    by_cases e1 : b = a
    · subst e1
      rw [if_pos rfl]
      exact has_del_same
    · rw [if_neg e1, has_del_other (fun e2 => e1 (O.lit_inj hb ha e2))]
      exact hD.has b hb
  · by_cases e1 : l = K.lit a
    · exact ⟨a, ha, e1⟩
    · rw [has_del_other e1] at hl
      exact hD.keys l hl
  · unfold updF at hb
    by_cases e1 : b = a
    · subst e1; exact ha
    · rw [if_neg e1] at hb
      exact hD.dom b hb
  · rw [mem_delK]
    unfold updF
    by_cases e1 : b = a
    · simp [e1]
    · rw [if_neg e1, ← hD.mem b]
      simp [e1]
end
end Go.Proofs.Ytbmcdlcoojmppaa

