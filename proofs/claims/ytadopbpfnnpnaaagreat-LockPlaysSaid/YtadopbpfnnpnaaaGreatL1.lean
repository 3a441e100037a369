/-
  Texts on locks, put together: Gr Blk LkMap Lk1 Lk2.
-/
import Derived.WalkKit
import Derived.WalkSpells
import Derived.WalkLawsBesides
import Derived.Handy
import Derived.ProofKit
import Derived.Lib.Hide
import Derived.Laws.Rows
import Derived.Maps.Own
import Derived.Maps.OwnOps
import Derived.Maps.OwnSet
import Derived.Maps.Views
import Derived.Maps.Range
import Derived.Maps.RangeWalk
import Derived.Test.YtadopbpfnnpnaaaGreatProg
import Derived.Test.YtadopbpfnnpnaaaGreatChecked
import Derived.DeepKeys4
import Derived.BigQuiet
import Derived.Deep.QuietTactic
set_option linter.unusedVariables false
set_option linter.unusedSimpArgs false
/-
  What was there is as it was; results. Over whatever program.
-/
namespace Go.Proofs.YtadopbpfnnpnaaaGreat
open Go.RowKit

/-- The length in a slot: for a loop's measure. -/
def lenOf : Value → Nat | .slice _ n _ => n | _ => 0

/-- Nothing that was there has turned. -/
abbrev Gr (w w' : World) : Prop := Below w.heap.size w w'
theorem Gr.refl (w : World) : Gr w w := Below.refl _ _
theorem Gr.trans {a b c : World} (h : Gr a b) (k : Gr b c) : Gr a c := Below.trans h (Below.mono k h.size)

end Go.Proofs.YtadopbpfnnpnaaaGreat

/-
  A block that is known whole. Over whatever program.
-/
namespace Go.Proofs.YtadopbpfnnpnaaaGreat
open Go.RowKit

/-- A block that is known whole. -/
def Blk (w : World) (g : Nat) (t : TypeId) (cs : Array Value) : Prop := w.heap[g]? = some (.cells cs t (0, 0))
theorem Blk.lt {w : World} {g : Nat} {t : TypeId} {cs : Array Value} (h : Blk w g t cs) : g < w.heap.size := (Array.getElem?_eq_some_iff.1 h).1
theorem Blk.cell {w : World} {g : Nat} {t : TypeId} {cs : Array Value} (h : Blk w g t cs) (i : Nat) : w.cell? ⟨g, i, none⟩ = cs[i]? := cell_of_row w g i cs t (0, 0) h
theorem Blk.frozen {w : World} {g : Nat} {t : TypeId} {cs : Array Value} (h : Blk w g t cs) (i : Nat) : w.frozen? ⟨g, i, none⟩ = false := frozen_of_row w g i cs t h
theorem Blk.new (w : World) (t : TypeId) (cs : Array Value) : Blk (w.alloc (.cells cs t)) w.heap.size t cs := heap_alloc_new w _
theorem Blk.alloc {w : World} {g : Nat} {t : TypeId} {cs : Array Value} (h : Blk w g t cs) (o : Obj) : Blk (w.alloc o) g t cs := (Below.heap_alloc w o g h.lt).trans h
theorem Blk.set {w : World} {g : Nat} {t : TypeId} {cs : Array Value} (h : Blk w g t cs) (i : Nat) (u : Value) : Blk (w.setCell ⟨g, i, none⟩ u) g t (cs.setIfInBounds i u) := heap_setCell_same w g i cs t u h
theorem Blk.far {w : World} {g : Nat} {t : TypeId} {cs : Array Value} (h : Blk w g t cs) {p : Addr} (hp : g ≠ p.block) (u : Value) : Blk (w.setCell p u) g t cs := (heap_setCell_other w p g u hp).trans h
theorem Blk.stays {w w' : World} {g : Nat} {t : TypeId} {cs : Array Value} (h : Blk w g t cs) (e : w'.heap[g]? = w.heap[g]?) : Blk w' g t cs := e.trans h
theorem Blk.gr {w w' : World} {g : Nat} {t : TypeId} {cs : Array Value} (h : Blk w g t cs) (e : Gr w w') : Blk w' g t cs := h.stays (e.block g h.lt)
theorem Blk.row {w : World} {g : Nat} {t : TypeId} {cs : Array Value} (h : Blk w g t cs) (cs' : Array Value) : Blk (w.setRow g cs') g t cs' := setRow_heap w g cs cs' t (0, 0) h
abbrev TI : TypeId := 3

end Go.Proofs.YtadopbpfnnpnaaaGreat

/-
  A map in memory, its keys of whatever kind, its elements any values: what stands at each key, and which keys there are. Over whatever program.
-/
namespace Go.Proofs.YtadopbpfnnpnaaaGreat
open Go.RowKit Go.Maps

/-- A kind of keys: its type, a key's value, what it reads as, which there are. -/
structure KK (α : Type) where
  ty : TypeId
  val : α → Value
  lit : α → Lit
  dom : α → Prop
structure KK.Ok {α : Type} (P : Program) (K : KK α) : Prop where
  keyed : Keyed P K.ty
  key : ∀ a, K.dom a → keyOf P K.ty (K.val a) = some (K.lit a)
  inv : ∀ v l, keyOf P K.ty v = some l → ∃ a, K.dom a ∧ v = K.val a ∧ l = K.lit a
  inj : ∀ a b, K.val a = K.val b → a = b
theorem KK.Ok.lit_inj {α : Type} {P : Program} {K : KK α} (h : K.Ok P) {a b : α} (ha : K.dom a) (hb : K.dom b) (e : K.lit a = K.lit b) : a = b :=
  h.inj _ _ (h.keyed.inj (h.key a ha) (by rw [e]; exact h.key b hb))
theorem KK.Ok.is {α : Type} {P : Program} {K : KK α} (h : K.Ok P) {a : α} (ha : K.dom a) : WideAt.IsKeyLit (K.lit a) := h.keyed.key (h.key a ha)

/-- An element reads as itself. -/
def elV (v : Value) : Option (DataW Value × List MemPlace) := some (.held v, [])
structure MpD {α : Type} (K : KK α) (D : DataW Value) (f : α → Option Value) (ks : List α) : Prop where
  at_ : ∀ a z, K.dom a → D.atKey (K.lit a) (.held z) = .held ((f a).getD z)
  has : ∀ a, K.dom a → Maps.has D (K.lit a) = (f a).isSome
  keys : ∀ l, Maps.has D l = true → ∃ a, K.dom a ∧ l = K.lit a
  dom : ∀ a, (f a).isSome = true → K.dom a
  nodup : ks.Nodup
  mem : ∀ a, a ∈ ks ↔ (f a).isSome = true
/-- Block m is a map; f says what stands at a key, ks are the keys that there are. -/
def Mp {α : Type} (P : Program) (K : KK α) (w : World) (m : Nat) (f : α → Option Value) (ks : List α) : Prop :=
  ∃ D, w.ownsMap P K.ty elV m ks.length D ∧ MpD K D f ks

section
variable {α : Type} {P : Program} {K : KK α} {w : World} {m : Nat} {f : α → Option Value} {ks : List α}
theorem own_stays {w w' : World} {P : Program} {k : TypeId} {R : Value → Option (DataW Value × List MemPlace)} {b n : Nat} {D : DataW Value} (h : w.ownsMap P k R b n D) (e : w'.heap[b]? = w.heap[b]?) : w'.ownsMap P k R b n D := by
  obtain ⟨es, clock, hb, r⟩ := h
  exact ⟨es, clock, e.trans hb, r⟩
theorem Mp.stays {w' : World} (h : Mp P K w m f ks) (e : w'.heap[m]? = w.heap[m]?) : Mp P K w' m f ks := by
  obtain ⟨D, h1, h2⟩ := h
  exact ⟨D, own_stays h1 e, h2⟩
theorem Mp.lt (h : Mp P K w m f ks) : m < w.heap.size := by
  obtain ⟨D, h1, _⟩ := h
  exact h1.lt
theorem Mp.isMap (h : Mp P K w m f ks) : ∃ es c, w.heap[m]? = some (.map es c) := by
  obtain ⟨D, ⟨es, c, h1, _⟩, _⟩ := h
  exact ⟨es, c, h1⟩
theorem Mp.dom (h : Mp P K w m f ks) : ∀ a, (f a).isSome = true → K.dom a := by
  obtain ⟨D, _, h⟩ := h
  exact h.dom
theorem Mp.nodup (h : Mp P K w m f ks) : ks.Nodup := by
  obtain ⟨D, _, h⟩ := h
  exact h.nodup
theorem Mp.mem (h : Mp P K w m f ks) : ∀ a, a ∈ ks ↔ (f a).isSome = true := by
  obtain ⟨D, _, h⟩ := h
  exact h.mem
theorem own_size {n : Nat} {D : DataW Value} (O : K.Ok P) (h : w.ownsMap P K.ty elV m n D) (hD : MpD K D f ks) : Maps.size D = ks.length := by
  obtain ⟨es, rfl, hp, hk⟩ := h.entries O.keyed
  show es.length = ks.length
  have h1 : (es.map (·.1)).Nodup := by
    unfold List.Nodup
    rw [List.pairwise_map]
    exact hp
  have h2 : (ks.map K.lit).Nodup := by
    unfold List.Nodup
    rw [List.pairwise_map]
    refine List.Pairwise.imp_of_mem ?_ hD.nodup
    intro a b ha hb hne e
    exact hne (O.lit_inj (hD.dom a ((hD.mem a).1 ha)) (hD.dom b ((hD.mem b).1 hb)) e)
  have h3 : (es.map (·.1)).Perm (ks.map K.lit) := by
    rw [List.perm_ext_iff_of_nodup h1 h2]
    intro l
    constructor
    · intro hl
      obtain ⟨p, hp1, rfl⟩ := List.mem_map.1 hl
      have hh : Maps.has (DataW.map es) p.1 = true := List.any_eq_true.2 ⟨p, hp1, WideAt.sameKey_self (hk p hp1)⟩
      obtain ⟨a, da, e⟩ := hD.keys _ hh
      rw [e] at hh ⊢
      rw [hD.has a da] at hh
      exact List.mem_map.2 ⟨a, (hD.mem a).2 hh, rfl⟩
    · intro hl
      obtain ⟨a, ha, rfl⟩ := List.mem_map.1 hl
      have ha2 := (hD.mem a).1 ha
      have da := hD.dom a ha2
      have hh := hD.has a da
      rw [ha2] at hh
      obtain ⟨p, hp1, hp2⟩ := List.any_eq_true.1 hh
      exact List.mem_map.2 ⟨p, hp1, WideAt.sameKey_eq hp2⟩
  have := h3.length_eq
  simpa using this
theorem own_at (O : K.Ok P) {n : Nat} {D : DataW Value} (h : w.ownsMap P K.ty elV m n D) (hD : MpD K D f ks) : Mp P K w m f ks := by
  have hs := own_size O h hD
  refine ⟨D, ?_, hD⟩
  obtain ⟨es, clock, hb, F, _, rfl⟩ := h
  refine ⟨es, clock, hb, F, ?_, rfl⟩
  rw [← hs]
  simp [Maps.size, length_sorted]
theorem Mp.made (w : World) : Mp P K (w.alloc (.map #[] 0)) w.heap.size (fun _ => none) [] :=
  ⟨.map [], World.ownsMap_made w P K.ty elV, ⟨fun _ _ _ => rfl, fun _ _ => rfl, (fun _ h => by cases h), (fun _ h => by cases h), List.nodup_nil, fun a => by simp⟩⟩
theorem Mp.len (O : K.Ok P) (h : Mp P K w m f ks) {t e : TypeId} (ht : P.underlying t = some (.map K.ty e)) (ty : TypeId) : (Builtin.len_ #[t] ty #[.map (some m)]).run P w = .ok (.int .i64 (ks.length : Int)) w := by
  obtain ⟨D, h1, hD⟩ := h
  rw [h1.len ht ty, own_size O h1 hD]
theorem Mp.look (O : K.Ok P) (h : Mp P K w m f ks) {t e : TypeId} (ht : P.underlying t = some (.map K.ty e)) {z : Value} (hz : (zeroValue e).run P w = .ok z w) {a : α} (ha : K.dom a) :
    (Instr.lookup t (.map (some m)) (K.val a) false).run P w = .ok ((f a).getD z) w := by
  obtain ⟨D, h1, hD⟩ := h
  obtain ⟨v, ps, hr, hv⟩ := h1.lookup O.keyed ht hz (zd := .held z) (zp := []) rfl (O.key a ha)
  rw [hD.at_ a z ha] at hv
  simp only [elV, Option.some.injEq, Prod.mk.injEq, DataW.held.injEq] at hv
  rw [hr, hv.1]
theorem Mp.look_ok (O : K.Ok P) (h : Mp P K w m f ks) {t e : TypeId} (ht : P.underlying t = some (.map K.ty e)) {z : Value} (hz : (zeroValue e).run P w = .ok z w) {a : α} (ha : K.dom a) :
    (Instr.lookup t (.map (some m)) (K.val a) true).run P w = .ok (.tuple #[(f a).getD z, .bool (f a).isSome]) w := by
  obtain ⟨D, h1, hD⟩ := h
  obtain ⟨v, ps, hr, hv⟩ := h1.look_ok O.keyed ht hz (zd := .held z) (zp := []) rfl (O.key a ha)
  rw [hD.at_ a z ha] at hv
  simp only [elV, Option.some.injEq, Prod.mk.injEq, DataW.held.injEq] at hv
  rw [hr, hv.1, hD.has a ha]
end
section
variable {α : Type} [DecidableEq α] {P : Program} {K : KK α} {w : World} {m : Nat} {f : α → Option Value} {ks : List α}
/-- One is put into a list of keys; one is taken out. -/
def putK (a : α) (ks : List α) : List α := if a ∈ ks then ks else a :: ks
def delK (a : α) (ks : List α) : List α := ks.filter fun b => decide (b ≠ a)
theorem mem_putK {a b : α} {ks : List α} : b ∈ putK a ks ↔ b = a ∨ b ∈ ks := by
  unfold putK
  split
  · rename_i h
    constructor
    · exact .inr
    · rintro (rfl | h1)
      · exact h
      · exact h1
  · simp
theorem nodup_putK {a : α} {ks : List α} (h : ks.Nodup) : (putK a ks).Nodup := by
  unfold putK
  split
  · exact h
  · rename_i h1
    exact List.nodup_cons.2 ⟨h1, h⟩
theorem putK_len (a : α) (ks : List α) : (putK a ks).length ≤ ks.length + 1 := by
  unfold putK
  split <;> simp
theorem mem_delK {a b : α} {ks : List α} : b ∈ delK a ks ↔ b ∈ ks ∧ b ≠ a := by
  unfold delK
  rw [List.mem_filter]
  simp
theorem nodup_delK {a : α} {ks : List α} (h : ks.Nodup) : (delK a ks).Nodup := List.Nodup.sublist List.filter_sublist h
theorem delK_len (a : α) (ks : List α) : (delK a ks).length ≤ ks.length := List.length_filter_le _ _
/-- What stands at the keys, one of them turned. -/
def updF {β : Type} (f : α → Option β) (a : α) (v : Option β) : α → Option β := fun b => if b = a then v else f b
theorem updF_same {β : Type} (f : α → Option β) (a : α) (v : Option β) : updF f a v a = v := by simp [updF]
theorem updF_other {β : Type} (f : α → Option β) {a b : α} (v : Option β) (h : b ≠ a) : updF f a v b = f b := by simp [updF, h]
theorem Mp.store (O : K.Ok P) (h : Mp P K w m f ks) (hn : ks.length < maxLen) {t e : TypeId} (ht : P.underlying t = some (.map K.ty e)) {a : α} (ha : K.dom a) (v : Value) :
    ∃ w', (Instr.mapUpdate t (.map (some m)) (K.val a) v).run P w = .ok () w' ∧ Mp P K w' m (updF f a (some v)) (putK a ks) ∧ w.grownBy w' (some m) := by
  obtain ⟨D, h1, hD⟩ := h
  obtain ⟨w', hr, h2, ht2⟩ := h1.store O.keyed ht hn (O.key a ha) (d := .held v) (ps := []) rfl (val := v)
  refine ⟨w', hr, own_at O h2 ⟨fun b z hb => ?_, fun b hb => ?_, fun l hl => ?_, fun b hb => ?_, nodup_putK hD.nodup, fun b => ?_⟩, ht2.grown⟩
  · unfold updF
    by_cases e1 : b = a
    · subst e1
      rw [if_pos rfl]
      exact atKey_put_same h1.isMap (O.is ha) _ _
    · rw [if_neg e1, atKey_put_other (fun e2 => e1 (O.lit_inj hb ha e2))]
      exact hD.at_ b z hb
  · unfold updF
    by_cases e1 : b = a
    · subst e1
      rw [if_pos rfl]
      exact has_put_same h1.isMap (O.is ha) _
    · rw [if_neg e1, has_put_other (fun e2 => e1 (O.lit_inj hb ha e2))]
      exact hD.has b hb
  · by_cases e1 : l = K.lit a
    · exact ⟨a, ha, e1⟩
    · rw [has_put_other e1] at hl
      exact hD.keys l hl
  · unfold updF at hb
    by_cases e1 : b = a
    · subst e1; exact ha
    · rw [if_neg e1] at hb
      exact hD.dom b hb
  · rw [mem_putK]
    unfold updF
    by_cases e1 : b = a
    · simp [e1]
    · rw [if_neg e1, ← hD.mem b]
      simp [e1]
theorem Mp.drop (O : K.Ok P) (h : Mp P K w m f ks) {t e : TypeId} (ht : P.underlying t = some (.map K.ty e)) {a : α} (ha : K.dom a) (ty : TypeId) :
    ∃ w', (Builtin.delete_ #[t, K.ty] ty #[.map (some m), K.val a]).run P w = .ok (.tuple #[]) w' ∧ Mp P K w' m (updF f a none) (delK a ks) ∧ w.grownBy w' (some m) := by
  obtain ⟨D, h1, hD⟩ := h
  obtain ⟨w', hr, h2, ht2⟩ := h1.drop O.keyed ht (O.key a ha) ty
  refine ⟨w', hr, own_at O h2 ⟨fun b z hb => ?_, fun b hb => ?_, fun l hl => ?_, fun b hb => ?_, nodup_delK hD.nodup, fun b => ?_⟩, ht2.grown⟩
  · unfold updF
    by_cases e1 : b = a
    · subst e1
      rw [if_pos rfl]
      exact atKey_del_same _
    · rw [if_neg e1, atKey_del_other (fun e2 => e1 (O.lit_inj hb ha e2))]
      exact hD.at_ b z hb
  · unfold updF
    by_cases e1 : b = a
    · subst e1
      rw [if_pos rfl]
      exact has_del_same
    · rw [if_neg e1, has_del_other (fun e2 => e1 (O.lit_inj hb ha e2))]
      exact hD.has b hb
  · by_cases e1 : l = K.lit a
    · exact ⟨a, ha, e1⟩
    · rw [has_del_other e1] at hl
      exact hD.keys l hl
  · unfold updF at hb
    by_cases e1 : b = a
    · subst e1; exact ha
    · rw [if_neg e1] at hb
      exact hD.dom b hb
  · rw [mem_delK]
    unfold updF
    by_cases e1 : b = a
    · simp [e1]
    · rw [if_neg e1, ← hD.mem b]
      simp [e1]
end
end Go.Proofs.YtadopbpfnnpnaaaGreat

/-
  The code's table of locks in memory.
-/
namespace Go.Proofs.YtadopbpfnnpnaaaGreat
open Go.RowKit Go.Maps

abbrev TTb : TypeId := 51
abbrev TLk : TypeId := 56
abbrev TPy : TypeId := 66
abbrev TWt : TypeId := 61
abbrev TKey : TypeId := 33
abbrev TOw : TypeId := 31
abbrev TMk : TypeId := 48
abbrev TMo : TypeId := 49
abbrev TMh : TypeId := 53
abbrev TMs : TypeId := 63
abbrev Key : Type := Int × Int
def i64In (a : Int) : Prop := -9223372036854775808 ≤ a ∧ a ≤ 9223372036854775807
def kv (k : Key) : Value := .agg #[.int .i64 k.1, .int .i64 k.2]
def KO : KK Nat := ⟨TOw, fun n => .int .u64 (n : Int), fun n => .int .u64 (n : Int), fun n => n ≤ 18446744073709551615⟩
def KL : KK Key := ⟨TKey, kv, fun k => .string (keyBytes [.int .i64 k.1, .int .i64 k.2]), fun k => i64In k.1 ∧ i64In k.2⟩
theorem lk_laidOut : laidOutB Tryz.prog = true := by kernel_rfl
theorem key_row : (33 : TypeId) < Tryz.prog.types.size := of_decide_eq_true (by kernel_rfl)
theorem key_wide : (match Tryz.prog.underlying 33 with | some (.array _ _) | some (.struct _) => true | _ => false) = true := by kernel_rfl
theorem key_at : Tryz.prog.keyTypeAt 2 33 = true := by kernel_rfl
set_option maxRecDepth 100000 in
theorem key_law : WideMaps.KeyLaw Tryz.prog 33 := deep_law_laid lk_laidOut (m := 2) (by omega) key_row key_at key_wide
theorem i64_wf {a : Int} : (Lit.int .i64 a).wf = true ↔ i64In a := by
  unfold i64In
  have e1 : IntKind.i64.min = -9223372036854775808 := by decide
  have e2 : IntKind.i64.max = 9223372036854775807 := by decide
  simp [Lit.wf, e1, e2]
set_option maxRecDepth 100000 in
theorem keyLits_key (d : Nat) (cs : List Value) (ls : List Lit) : Tryz.prog.keyLits (d + 2) TKey cs = some ls ↔ ∃ a b, cs = [.int .i64 a, .int .i64 b] ∧ i64In a ∧ i64In b ∧ ls = [.int .i64 a, .int .i64 b] := by
  have hc : Tryz.prog.cellsOf TKey = 2 := by kernel_rfl
  have hi : Tryz.prog.cellsOf 3 = 1 := by kernel_rfl
  have h1 : ∀ v l, Tryz.prog.keyLits (d + 1) 3 [v] = some l ↔ ∃ a, v = .int .i64 a ∧ i64In a ∧ l = [.int .i64 a] := by
    intro v l
    unfold Program.keyLits
    rw [Tryz.underlying3]
    cases v <;> simp
    rename_i q n
    constructor
    · rintro ⟨⟨rfl, h⟩, rfl⟩
      exact ⟨n, ⟨rfl, rfl⟩, i64_wf.1 h, rfl⟩
    · rintro ⟨a, ⟨rfl, rfl⟩, h, rfl⟩
      exact ⟨⟨rfl, i64_wf.2 h⟩, rfl⟩
  unfold Program.keyLits
  rw [Tryz.underlying33]
  simp only [hc]
  constructor
  · intro h
    split at h
    · rename_i hcs
      match cs, hcs.1 with
      | [x, y], _ =>
        simp [hi] at h
        cases hx : Tryz.prog.keyLits (d + 1) 3 [x] with
        | none => simp [hx] at h
        | some lx =>
          cases hy : Tryz.prog.keyLits (d + 1) 3 [y] with
          | none => simp [hx, hy] at h
          | some ly =>
            simp [hx, hy] at h
            obtain ⟨a, rfl, ha, rfl⟩ := (h1 x lx).1 hx
            obtain ⟨b, rfl, hb, rfl⟩ := (h1 y ly).1 hy
            subst h
            exact ⟨a, b, rfl, ha, hb, rfl⟩
    · cases h
  · rintro ⟨a, b, rfl, ha, hb, rfl⟩
    have e1 := (h1 (.int .i64 a) _).2 ⟨a, rfl, ha, rfl⟩
    have e2 := (h1 (.int .i64 b) _).2 ⟨b, rfl, hb, rfl⟩
    simp [hi, e1, e2]
set_option maxRecDepth 100000 in
theorem keyOf_key (v : Value) (l : Lit) : keyOf Tryz.prog 33 v = some l ↔ ∃ k : Key, (i64In k.1 ∧ i64In k.2) ∧ v = kv k ∧ l = .string (keyBytes [.int .i64 k.1, .int .i64 k.2]) := by
  have hk : Tryz.prog.keyType 33 = true := by kernel_rfl
  have hc : Tryz.prog.cellsOf 33 = 2 := by kernel_rfl
  obtain ⟨m, hm⟩ : ∃ m, Tryz.prog.types.size + 1 = m + 2 := ⟨Tryz.prog.types.size - 1, by have : 1 ≤ Tryz.prog.types.size := of_decide_eq_true (by kernel_rfl); omega⟩
  unfold keyOf
  rw [Tryz.underlying33]
  simp only [hk, Bool.true_and]
  rw [hm]
  constructor
  · intro h
    split at h
    · rename_i hf
      cases hl : Tryz.prog.keyLits (m + 2) 33 v.cells.toList with
      | none => rw [hl] at h; cases h
      | some ls =>
        rw [hl] at h
        obtain ⟨a, b, hcs, ha, hb, rfl⟩ := (keyLits_key m _ ls).1 hl
        refine ⟨(a, b), ⟨ha, hb⟩, ?_, ?_⟩
        · unfold Value.formed at hf
          rw [Tryz.underlying33] at hf
          cases v <;> simp at hf
          rename_i xs
          simp [Value.cells] at hcs
          unfold kv
          congr 1
          exact Array.ext' (by simpa using hcs)
        · simp at h
          exact h.symm
    · cases h
  · rintro ⟨k, ⟨ha, hb⟩, rfl, rfl⟩
    have e := (keyLits_key m [.int .i64 k.1, .int .i64 k.2] _).2 ⟨k.1, k.2, rfl, ha, hb, rfl⟩
    have hf : (kv k).formed Tryz.prog 33 = true := by
      simp [Value.formed, kv, Tryz.underlying33, hc]
    rw [if_pos hf]
    show (Tryz.prog.keyLits (m + 2) 33 [.int .i64 k.1, .int .i64 k.2]).map _ = _
    rw [e]
    rfl
theorem KL_ok : KL.Ok Tryz.prog where
  keyed := Keyed.of_law key_law
  key a ha := (keyOf_key _ _).2 ⟨a, ha, rfl, rfl⟩
  inv v l h := by
    obtain ⟨k, h1, h2, h3⟩ := (keyOf_key v l).1 h
    exact ⟨k, h1, h2, h3⟩
  inj a b h := by
    obtain ⟨a1, a2⟩ := a
    obtain ⟨b1, b2⟩ := b
    simp [KL, kv] at h
    rw [h.1, h.2]
theorem KO_ok : KO.Ok Tryz.prog where
  keyed := int_keyed Tryz.underlying31
  key a ha := keyOf_int_mk Tryz.underlying31 (by
    have e1 : IntKind.u64.min = 0 := by decide
    have e2 : IntKind.u64.max = 18446744073709551615 := by decide
    have h : a ≤ 18446744073709551615 := ha
    simp only [Lit.wf, e1, e2, Bool.and_eq_true, decide_eq_true_eq]
    omega)
  inv v l h := by
    obtain ⟨x, rfl, rfl, hw⟩ := Maps.keyOf_int_inv Tryz.underlying31 h
    have e1 : IntKind.u64.min = 0 := by decide
    have e2 : IntKind.u64.max = 18446744073709551615 := by decide
    simp only [Lit.wf, e1, e2, Bool.and_eq_true, decide_eq_true_eq] at hw
    have hx : ((x.toNat : Nat) : Int) = x := by omega
    exact ⟨x.toNat, show x.toNat ≤ 18446744073709551615 by omega, by show _ = Value.int .u64 _; rw [hx], by show _ = Lit.int .u64 _; rw [hx]⟩
  inj a b h := by
    simp [KO] at h
    omega
end Go.Proofs.YtadopbpfnnpnaaaGreat

/-
  The code's table of locks in memory: what it is, how that stays, what is read of it.
-/
namespace Go.Proofs.YtadopbpfnnpnaaaGreat
open Go.RowKit Go.Maps

structure Lk where
  mode : Int
  hs : List Nat
  line : List (Nat × Int)
  pop : Bool
structure Py where
  ks : List Key
  key : Key
  mode : Int
def Py.zero : Py := ⟨[], (0, 0), 0⟩
structure Tb where
  lk : Key → Option Lk
  py : Nat → Option Py
  many : Int
  kk : List Key
  oo : List Nat
def Tb.of (T : Tb) (o : Nat) : Py := (T.py o).getD Py.zero

/-- What blocks of memory are for. -/
inductive Tag where
  | tb | km | om | lk (k : Key) | hm (k : Key) | ln (k : Key) | py (o : Nat) | pm (o : Nat)
deriving DecidableEq
def ptrB (o : Option Nat) : Value := .pointer (o.map fun b => ⟨b, 0, none⟩)
def unitF {α : Type} [DecidableEq α] (ks : List α) : α → Option Value := fun a => if a ∈ ks then some (.agg #[]) else none
/-- A line's cells. -/
def wcells (ws : List (Nat × Int)) : List Value := ws.flatMap fun p => [.int .u64 (p.1 : Int), .int .i64 p.2]
/-- A line in memory. -/
def LnAt (w : World) (ob : Option Nat) (v : Value) (ws : List (Nat × Int)) (pop : Bool) : Prop :=
  (ob = none ∧ v = .slice none 0 0 ∧ ws = []) ∨ ∃ b off cap cs, ob = some b ∧ v = .slice (some ⟨b, 2 * off, none⟩) ws.length cap ∧ Blk w b TWt cs ∧ ws.length ≤ cap ∧ cap ≤ maxLen ∧ 2 * off + 2 * cap ≤ cs.size ∧ (∀ i u, (wcells ws)[i]? = some u → cs[2 * off + i]? = some u) ∧ (pop = false → off = 0 ∧ cs.size = cap * 2)
def LkAt (w : World) (ob oh ol : Option Nat) (l : Lk) : Prop :=
  ∃ b h v, ob = some b ∧ oh = some h ∧ Blk w b TLk #[.int .i64 l.mode, .map (some h), v] ∧ Mp Tryz.prog KO w h (unitF l.hs) l.hs ∧ LnAt w ol v l.line l.pop
def PyAt (w : World) (ob oh : Option Nat) (p : Py) : Prop :=
  ∃ b h, ob = some b ∧ oh = some h ∧ Blk w b TPy #[.map (some h), .int .i64 p.key.1, .int .i64 p.key.2, .int .i64 p.mode] ∧ Mp Tryz.prog KL w h (unitF p.ks) p.ks
structure TbAt (w : World) (t km om : Nat) (B : Tag → Option Nat) (T : Tb) : Prop where
  bt : B .tb = some t
  bk : B .km = some km
  bo : B .om = some om
  inj : ∀ a b n, B a = some n → B b = some n → a = b
  blk : Blk w t TTb #[.map (some km), .map (some om), .int .i64 T.many]
  keys : Mp Tryz.prog KL w km (fun k => (T.lk k).map fun _ => ptrB (B (.lk k))) T.kk
  owners : Mp Tryz.prog KO w om (fun o => (T.py o).map fun _ => ptrB (B (.py o))) T.oo
  lk : ∀ k l, T.lk k = some l → LkAt w (B (.lk k)) (B (.hm k)) (B (.ln k)) l
  py : ∀ o p, T.py o = some p → PyAt w (B (.py o)) (B (.pm o)) p
  lk0 : ∀ k, T.lk k = none → B (.lk k) = none ∧ B (.hm k) = none ∧ B (.ln k) = none
  py0 : ∀ o, T.py o = none → B (.py o) = none ∧ B (.pm o) = none

section
variable {w w' : World} {t km om : Nat} {B : Tag → Option Nat} {T : Tb}
theorem LnAt.stays {ob : Option Nat} {v : Value} {ws : List (Nat × Int)} {pop : Bool} (h : LnAt w ob v ws pop) (e : ∀ n, ob = some n → w'.heap[n]? = w.heap[n]?) : LnAt w' ob v ws pop := by
  rcases h with h | ⟨b, off, cap, cs, h1, h2, h3, r⟩
  · exact .inl h
  · exact .inr ⟨b, off, cap, cs, h1, h2, h3.stays (e b h1), r⟩
theorem LnAt.lt {ob : Option Nat} {v : Value} {ws : List (Nat × Int)} {pop : Bool} (h : LnAt w ob v ws pop) : ∀ n, ob = some n → n < w.heap.size := fun n hn => by
  rcases h with ⟨h, _⟩ | ⟨b, off, cap, cs, h1, h2, h3, r⟩
  · rw [h] at hn; cases hn
  · rw [h1] at hn; cases hn; exact h3.lt
theorem LkAt.stays {ob oh ol : Option Nat} {l : Lk} (h : LkAt w ob oh ol l) (e1 : ∀ n, ob = some n → w'.heap[n]? = w.heap[n]?) (e2 : ∀ n, oh = some n → w'.heap[n]? = w.heap[n]?) (e3 : ∀ n, ol = some n → w'.heap[n]? = w.heap[n]?) : LkAt w' ob oh ol l := by
  obtain ⟨b, h', v, h1, h2, h3, h4, h5⟩ := h
  exact ⟨b, h', v, h1, h2, h3.stays (e1 b h1), h4.stays (e2 h' h2), h5.stays e3⟩
theorem PyAt.stays {ob oh : Option Nat} {p : Py} (h : PyAt w ob oh p) (e1 : ∀ n, ob = some n → w'.heap[n]? = w.heap[n]?) (e2 : ∀ n, oh = some n → w'.heap[n]? = w.heap[n]?) : PyAt w' ob oh p := by
  obtain ⟨b, h', h1, h2, h3, h4⟩ := h
  exact ⟨b, h', h1, h2, h3.stays (e1 b h1), h4.stays (e2 h' h2)⟩
/-- Its blocks lie in memory. -/
theorem TbAt.lt (h : TbAt w t km om B T) : ∀ a n, B a = some n → n < w.heap.size := fun a n hn => by
  cases a with
  | tb => have := h.bt; rw [hn] at this; cases this; exact h.blk.lt
  | km => have := h.bk; rw [hn] at this; cases this; exact h.keys.lt
  | om => have := h.bo; rw [hn] at this; cases this; exact h.owners.lt
  | lk k =>
    cases hk : T.lk k with
    | none => rw [(h.lk0 k hk).1] at hn; cases hn
    | some l =>
      obtain ⟨b, h', v, h1, h2, h3, h4, h5⟩ := h.lk k l hk
      rw [h1] at hn; cases hn; exact h3.lt
  | hm k =>
    cases hk : T.lk k with
    | none => rw [(h.lk0 k hk).2.1] at hn; cases hn
    | some l =>
      obtain ⟨b, h', v, h1, h2, h3, h4, h5⟩ := h.lk k l hk
      rw [h2] at hn; cases hn; exact h4.lt
  | ln k =>
    cases hk : T.lk k with
    | none => rw [(h.lk0 k hk).2.2] at hn; cases hn
    | some l =>
      obtain ⟨b, h', v, h1, h2, h3, h4, h5⟩ := h.lk k l hk
      exact h5.lt n hn
  | py o =>
    cases ho : T.py o with
    | none => rw [(h.py0 o ho).1] at hn; cases hn
    | some p =>
      obtain ⟨b, h', h1, h2, h3, h4⟩ := h.py o p ho
      rw [h1] at hn; cases hn; exact h3.lt
  | pm o =>
    cases ho : T.py o with
    | none => rw [(h.py0 o ho).2] at hn; cases hn
    | some p =>
      obtain ⟨b, h', h1, h2, h3, h4⟩ := h.py o p ho
      rw [h2] at hn; cases hn; exact h4.lt
theorem TbAt.stays (h : TbAt w t km om B T) (e : ∀ a n, B a = some n → w'.heap[n]? = w.heap[n]?) : TbAt w' t km om B T :=
  ⟨h.bt, h.bk, h.bo, h.inj, h.blk.stays (e _ _ h.bt), h.keys.stays (e _ _ h.bk), h.owners.stays (e _ _ h.bo),
   fun k l hk => (h.lk k l hk).stays (fun n hn => e _ n hn) (fun n hn => e _ n hn) (fun n hn => e _ n hn), fun o p ho => (h.py o p ho).stays (fun n hn => e _ n hn) (fun n hn => e _ n hn), h.lk0, h.py0⟩
theorem TbAt.gr (h : TbAt w t km om B T) (g : Gr w w') : TbAt w' t km om B T := h.stays fun a n hn => g.block n (h.lt a n hn)
theorem TbAt.c3 (h : TbAt w t km om B T) : w.cell? ⟨t, 0, none⟩ = some (.map (some km)) ∧ w.cell? ⟨t, 1, none⟩ = some (.map (some om)) ∧ w.cell? ⟨t, 2, none⟩ = some (.int .i64 T.many) := ⟨h.blk.cell 0, h.blk.cell 1, h.blk.cell 2⟩
/-- The look-ups of a key, and of an owner. -/
theorem TbAt.look (h : TbAt w t km om B T) {k : Key} (hk : KL.dom k) : (Instr.lookup TMk (.map (some km)) (kv k) false).run Tryz.prog w = .ok (ptrB (B (.lk k))) w := by
  have := h.keys.look KL_ok Tryz.underlying48 (Tryz.zeroValue52 w) hk
  rw [show KL.val k = kv k from rfl] at this
  rw [this]
  cases e : T.lk k with
  | none => rw [(h.lk0 k e).1]; rfl
  | some l => rfl
theorem TbAt.lookO (h : TbAt w t km om B T) {o : Nat} (ho : KO.dom o) : (Instr.lookup TMo (.map (some om)) (.int .u64 (o : Int)) false).run Tryz.prog w = .ok (ptrB (B (.py o))) w := by
  have := h.owners.look KO_ok Tryz.underlying49 (Tryz.zeroValue62 w) ho
  rw [show KO.val o = .int .u64 (o : Int) from rfl] at this
  rw [this]
  cases e : T.py o with
  | none => rw [(h.py0 o e).1]; rfl
  | some l => rfl
/-- A party as a value. -/
def ofV (B : Tag → Option Nat) (T : Tb) (o : Nat) : Value := .agg #[.map (B (.pm o)), .int .i64 (T.of o).key.1, .int .i64 (T.of o).key.2, .int .i64 (T.of o).mode]

theorem results_py {fn : Func} {p : Tmp} (h : fn.results = #[.cell p TPy]) (tmps : Array Value) (w : World) (g : Nat) {a b c d : Value} (hp : tmps.getD p undef = .pointer (some ⟨g, 0, none⟩)) (hb : Blk w g TPy #[a, b, c, d]) : (results fn tmps).run Tryz.prog w = .ok (.agg #[a, b, c, d]) w :=
  results_cell_row h tmps w g TPy _ (0, 0) _ hp hb Tryz.underlying66 rfl (by kernel_rfl)
theorem map_eql (m : Nat) (w : World) : (binOp .eql TMk (.map (some m)) (.map none)).run Tryz.prog w = .ok (.bool false) w := by
  kernel_rfl
set_option maxRecDepth 100000 in
theorem missing_no (h : TbAt w t km om B T) : Calls Tryz.prog 17 #[.pointer (some ⟨t, 0, none⟩)] w fun e w' => e = .returned (.bool false) ∧ w = w' := by
  have c0 := h.c3.1
  have he : (binOp .eql TMk (.map (some km)) (.map none)).run Tryz.prog w = .ok (.bool false) w := map_eql km w
  clear h
  go_enter Tryz.func17, Tryz.ntmps17
  go_wp2_with fail
  go_ret
  exact ⟨rfl, rfl⟩
set_option maxRecDepth 100000 in
theorem of_any (h : TbAt w t km om B T) {o : Nat} (ho : KO.dom o) : Calls Tryz.prog 35 #[.pointer (some ⟨t, 0, none⟩), .int .u64 (o : Int)] w fun e w' => e = .returned (ofV B T o) ∧ Gr w w' := by
  have g1 : Gr w (w.alloc (.cells #[.map none, .int .i64 0, .int .i64 0, .int .i64 0] TPy)) := (Gr.refl w).alloc (Nat.le_refl _) _
  have h1 := h.gr g1
  have c1 := h1.c3.2.1
  have hl := h1.lookO ho
  have HM := Lib.hid (missing_no h1)
  have hb := Blk.new w TPy #[.map none, .int .i64 0, .int .i64 0, .int .i64 0]
  cases e : T.py o with
  | none =>
    obtain ⟨e1, e2⟩ := h.py0 o e
    have hv : ofV B T o = .agg #[.map none, .int .i64 0, .int .i64 0, .int .i64 0] := by
      unfold ofV Tb.of
      rw [e, e2]
      rfl
    rw [e1] at hl
    rw [hv]
    have HG := Lib.hid g1
    have HB := Lib.hid hb
    clear h h1 e1 e2 hv g1 e hb
    have hl' : (Instr.lookup TMo (.map (some om)) (.int .u64 (o : Int)) false).run Tryz.prog (w.alloc (.cells #[.map none, .int .i64 0, .int .i64 0, .int .i64 0] TPy)) = .ok (.pointer none) (w.alloc (.cells #[.map none, .int .i64 0, .int .i64 0, .int .i64 0] TPy)) := hl
    clear hl
    go_enter Tryz.func35, Tryz.ntmps35
    go_wp2_with fail
    refine HM.out.mono ?_
    rintro e w2 ⟨rfl, rfl⟩
    go_wp2_with fail
    exact bodyPost_ret (results_py rfl _ _ w.heap.size rfl HB.out) rfl ⟨rfl, HG.out⟩
  | some p =>
    obtain ⟨b, h', e1, e2, e3, e4⟩ := h.py o p e
    obtain ⟨b', h'', f1, f2, f3, f4⟩ := h1.py o p e
    rw [e1] at f1 hl
    cases f1
    have hv : ofV B T o = .agg #[.map (some h'), .int .i64 p.key.1, .int .i64 p.key.2, .int .i64 p.mode] := by
      unfold ofV Tb.of
      rw [e, e2]
      rfl
    rw [hv]
    have hl' : (Instr.lookup TMo (.map (some om)) (.int .u64 (o : Int)) false).run Tryz.prog (w.alloc (.cells #[.map none, .int .i64 0, .int .i64 0, .int .i64 0] TPy)) = .ok (.pointer (some ⟨b, 0, none⟩)) (w.alloc (.cells #[.map none, .int .i64 0, .int .i64 0, .int .i64 0] TPy)) := hl
    have f3' := e3.alloc (.cells #[.map none, .int .i64 0, .int .i64 0, .int .i64 0] TPy)
    have k0 := f3'.cell 0
    have k1 := f3'.cell 1
    have k2 := f3'.cell 2
    have k3 := f3'.cell 3
    obtain ⟨K1, hK1⟩ : ∃ x, x = p.key.1 := ⟨_, rfl⟩
    obtain ⟨K2, hK2⟩ : ∃ x, x = p.key.2 := ⟨_, rfl⟩
    obtain ⟨M, hM⟩ : ∃ x, x = p.mode := ⟨_, rfl⟩
    rw [← hK1, ← hK2, ← hM]
    rw [← hK1] at k1
    rw [← hK2] at k2
    rw [← hM] at k3
    have HG := Lib.hid g1
    have HB := Lib.hid hb
    clear h h1 e1 e2 hv g1 e hb hl e3 e4 f2 f3 f4 f3' hK1 hK2 hM
    simp at k0 k1 k2 k3
    go_enter Tryz.func35, Tryz.ntmps35
    go_wp2_with fail
    refine HM.out.mono ?_
    rintro e w2 ⟨rfl, rfl⟩
    go_wp2_with fail
    exact bodyPost_ret (results_py rfl _ _ w.heap.size rfl (Blk.new _ _ _)) rfl ⟨rfl, (Gr.refl w).alloc (Nat.le_refl _) _⟩
end
end Go.Proofs.YtadopbpfnnpnaaaGreat

