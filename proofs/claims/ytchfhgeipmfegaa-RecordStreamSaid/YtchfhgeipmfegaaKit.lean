
/-
  Words on worlds: a slice of bytes reads as a list of numbers; what was there is as it was. Over whatever program.
-/
import Derived.WalkKit
import Derived.WalkSpells
import Derived.WalkLawsBesides
import Derived.Handy
import Derived.Laws.AppendOwnNone
import Derived.Laws.CopyOwn
import Derived.Deep.RegionLaw
import Derived.Lib.Bytealg
import Derived.Lib.AppendZerosOnto
import Derived.Shelf.Bytes.SlEqualAll
import Derived.ProofKit
import Derived.Lib.Hide
import Derived.Test.YtchfhgeipmfegaaMath
import Derived.Test.YtchfhgeipmfegaaGr
namespace Go.Proofs.Ytchfhgeipmfegaa
open Go.RowKit

/-- The slice value p, n, c reads as the bytes xs. -/
structure Byt (w : World) (p : Option Addr) (n c : Nat) (xs : List Int) : Prop where
  len : xs.length = n
  cap : n ≤ c
  most : c ≤ maxLen
  lies : Lib.BytesIn w p n xs
  nilCap : p = none → c = 0
  small : Wd.Small xs

theorem Byt.small' {w : World} {p : Option Addr} {n c : Nat} {xs : List Int} (h : Byt w p n c xs) : ∀ x ∈ xs, 0 ≤ x ∧ x < 256 := h.small
theorem Byt.nil (w : World) : Byt w .none 0 0 [] := ⟨rfl, Nat.le_refl _, Nat.zero_le _, Lib.BytesIn.nil _ _ _, fun _ => rfl, fun _ h => by cases h⟩

/-- A cell that is there lies below the heap's size. -/
theorem blk_lt {w : World} {a : Addr} {v : Value} (h : w.cell? a = some v) : a.block < w.heap.size := World.block_lt_of_cell? w a h

/-- What is read stays, as long as nothing that was there turns. -/
theorem Byt.kept {w w' : World} {p : Option Addr} {n c : Nat} {xs : List Int} (h : Byt w p n c xs) (g : Gr w w') : Byt w' p n c xs :=
  ⟨h.len, h.cap, h.most, fun hn => by
    obtain ⟨b, o, rfl, hc⟩ := h.lies.at hn
    exact ⟨b, o, rfl, fun i hi => by rw [g.cell (blk_lt (hc i hi))]; exact hc i hi⟩, h.nilCap, h.small⟩

/-- Where there is a byte: the address and its cells. -/
theorem Byt.at {w : World} {p : Option Addr} {n c : Nat} {xs : List Int} (h : Byt w p n c xs) (hn : 0 < n) :
    ∃ b o, p = some ⟨b, o, .none⟩ ∧ ∀ i, i < n → w.cell? ⟨b, o + i, .none⟩ = some (.int .u8 (xs.getD i 0)) := h.lies.at hn

/-- The bytes that the call's own row holds, as a slice of bytes. -/
theorem Byt.owned {w : World} {base e : Nat} {p : Option Addr} {n c : Nat} {xs : List Int} (h : w.ownsRow base e 1 (.slice p n c) n (xs.map (Value.int .u8))) (hs : Wd.Small xs) : Byt w p n c xs := by
  have hl : xs.length = n := by simpa using h.1
  rcases h.2 with ⟨h0, hn⟩ | ⟨g, cap, cur, h0, hb, hg, hnc, hcm, hcs, ht⟩
  · simp only [Value.slice.injEq] at h0
    obtain ⟨rfl, rfl, rfl⟩ := h0
    obtain rfl : xs = [] := List.eq_nil_of_length_eq_zero hl
    exact Byt.nil w
  · simp only [Value.slice.injEq] at h0
    obtain ⟨rfl, _, rfl⟩ := h0
    refine ⟨hl, hnc, hcm, fun hn => ⟨g, 0, rfl, fun i hi => ?_⟩, (fun h => by cases h), hs⟩
    rw [Nat.zero_add, h.cellAt i (by omega)]
    simp [List.getD, hl, hi]

/-- The types that slices of bytes take: []byte and byte, by their numbers. -/
structure BT (P : Program) (tS tB : TypeId) : Prop where
  us : P.underlying tS = some (.slice tB)
  info : (P.info? tB).map (fun i => (i.zero, i.size, i.bytes)) = some (some (.int .u8 0), 1, 1)

/-- The value v is the call's own row of bytes, which reads as xs. -/
structure OwnB (w : World) (base tB : Nat) (v : Value) (xs : List Int) : Prop where
  row : w.ownsRow base tB 1 v xs.length (xs.map (Value.int .u8))
  small : Wd.Small xs

theorem OwnB.nil (w : World) (base tB : Nat) : OwnB w base tB (.slice none 0 0) [] := ⟨World.ownsRow_nil _ _ _ _, fun _ h => by cases h⟩
theorem OwnB.form {w : World} {base tB : Nat} {v : Value} {xs : List Int} (h : OwnB w base tB v xs) : ∃ p c, v = .slice p xs.length c ∧ (∀ a, p = some a → base ≤ a.block) := by
  rcases h.row.2 with ⟨rfl, hn⟩ | ⟨g, cap, cur, rfl, hb, _⟩
  · exact ⟨none, 0, by rw [hn], fun _ h => by cases h⟩
  · exact ⟨_, cap, rfl, fun a h => by cases h; exact hb⟩
theorem OwnB.shape {w : World} {base tB : Nat} {v : Value} {xs : List Int} (h : OwnB w base tB v xs) (m : Nat) (hm : xs.length = m) : ∃ p c, v = .slice p m c := by
  obtain ⟨p, c, e, _⟩ := h.form
  exact ⟨p, c, by rw [e, hm]⟩
theorem OwnB.as {w : World} {base tB : Nat} {v : Value} {xs ys : List Int} (h : OwnB w base tB v xs) (e : xs = ys) : OwnB w base tB v ys := e ▸ h
theorem OwnB.byt {w : World} {base tB : Nat} {p : Option Addr} {n c : Nat} {xs : List Int} (h : OwnB w base tB (.slice p n c) xs) : Byt w p n c xs ∧ n = xs.length := by
  obtain ⟨p', c', e, _⟩ := h.form
  cases e
  exact ⟨Byt.owned h.row h.small, rfl⟩
theorem OwnB.far {w : World} {base tB : Nat} {p : Option Addr} {n c : Nat} {xs : List Int} (h : OwnB w base tB (.slice p n c) xs) : ∀ a, p = some a → base ≤ a.block := by
  obtain ⟨p', c', e, hh⟩ := h.form
  simp only [Value.slice.injEq] at e
  obtain ⟨rfl, _, _⟩ := e
  exact hh
theorem OwnB.alloc {w : World} {base tB : Nat} {v : Value} {xs : List Int} (h : OwnB w base tB v xs) (o : Obj) : OwnB (w.alloc o) base tB v xs := ⟨h.row.alloc o, h.small⟩
theorem OwnB.base {w : World} {base tB : Nat} {v : Value} {xs : List Int} (h : OwnB w base tB v xs) : ∀ k, v.ownBlock = some k → base ≤ k := fun k hk => (h.row.lt k hk).1

theorem u8s_oneCell (zs : List Int) : ∀ u ∈ zs.map (Value.int .u8), u.oneCell' = true := ints_oneCell .u8 zs

theorem Byt.news {w : World} {a : Addr} {n c : Nat} {xs : List Int} (h : Byt w (some a) n c xs) : ∀ j u, (xs.map (Value.int .u8))[j]? = some u → w.cell? (a.add j) = some u := by
  intro j u hj
  have hlt : j < xs.length := by simpa using (List.getElem?_eq_some_iff.1 hj).1
  obtain ⟨b, o, e, hc⟩ := h.at (by have := h.len; omega)
  cases e
  rw [Addr.add_lit, hc j (by have := h.len; omega), ← hj]
  simp [List.getD, hlt]

/-- append(own, src...): the call's own row of bytes, and whatever slice of bytes. -/
theorem wpList_app_byt {P : Program} {tS tB : TypeId} (T : BT P tS tB) {w : World} {ops : Array Oper} {rest : List Oper} {o : Oper} {a : Act} {Q : Exit → Act → World → Prop} (hgd : o.guard = none) (s x : Operand)
    (ho : o.op = .call { callee := .builtin .append, args := #[s, x], argTypes := #[tS, tS] }) (base : Nat) (v : Value) (xs : List Int) (hs : a.eval s = v) (hown : OwnB w base tB v xs)
    (q : Option Addr) (m c : Nat) (ys : List Int) (hx : a.eval x = .slice q m c) (hy : Byt w q m c ys) (hbytes : xs.length + m ≤ 140737488355328) (hbase : base ≤ w.heap.size)
    (h : ∀ v' w', OwnB w' base tB v' (xs ++ ys) → w.grownBy w' v.ownBlock → wpList P ops Q rest (a.put o.dst v') w') : wpList P ops Q (o :: rest) a w := by
  obtain ⟨i, hi, hz0, hz1, hz2⟩ := info_parts T.info
  cases q with
  | none =>
    have hc0 := hy.nilCap rfl
    have hm0 : m = 0 := by have := hy.cap; omega
    subst hc0 hm0
    obtain rfl : ys = [] := List.eq_nil_of_length_eq_zero hy.len
    refine wpList_append_own_none hgd s x tS ho base tB i 1 T.us hi v xs.length _ hs hown.row hx ?_
    exact h v w (by simpa using hown) (World.grownBy.refl _ _)
  | some ad =>
    refine wpList_append_own w hgd s x tS ho base tB i (.int .u8 0) 1 1 T.us hi hz0 hz1 hz2 rfl (by decide) v xs.length _ hs hown.row ad m c (ys.map (Value.int .u8)) hx
      (by simp [hy.len]) hy.news (u8s_oneCell _) (by simp only [maxLen]; omega) (by omega) hbase ?_
    intro v' w' h1 h2 _
    refine h v' w' ⟨?_, hown.small.app hy.small⟩ h2
    have := hy.len
    simpa [this] using h1

/-- The same as one step of a region that draws its order. -/
theorem step_app_byt {P : Program} {tS tB : TypeId} (T : BT P tS tB) {w : World} {ops : Array Oper} {o : Oper} {a : Act} {K : Act → World → Prop} {Q : Exit → Act → World → Prop} {E : Prop} (hgd : o.guard = none) (s x : Operand)
    (ho : o.op = .call { callee := .builtin .append, args := #[s, x], argTypes := #[tS, tS] }) (base : Nat) (v : Value) (xs : List Int) (hs : a.eval s = v) (hown : OwnB w base tB v xs)
    (ad : Addr) (m c : Nat) (ys : List Int) (hx : a.eval x = .slice (some ad) m c) (hy : Byt w (some ad) m c ys) (hbytes : xs.length + m ≤ 140737488355328) (hbase : base ≤ w.heap.size)
    (h : ∀ v' w', OwnB w' base tB v' (xs ++ ys) → w.grownBy w' v.ownBlock → K (a.put o.dst v') w') :
    if Region.wanted o (yielded ops a.tmps) = true then Oper.wp P o a w K Q else E := by
  have hw : Region.wanted o (yielded ops a.tmps) = true := by simp [Region.wanted, hgd]
  rw [if_pos hw]
  obtain ⟨i, hi, hz0, hz1, hz2⟩ := info_parts T.info
  refine wp_append_own w s x tS ho base tB i (.int .u8 0) 1 1 T.us hi hz0 hz1 hz2 rfl (by decide) v xs.length _ hs hown.row ad m c (ys.map (Value.int .u8)) hx
    (by simp [hy.len]) hy.news (u8s_oneCell _) (by simp only [maxLen]; omega) (by omega) hbase ?_
  intro v' w' h1 h2 _
  refine h v' w' ⟨?_, hown.small.app hy.small⟩ h2
  have := hy.len
  simpa [this] using h1

/-- What is said of a world's cells alone is said of each world with the same heap. -/
theorem OwnB.heap {w w' : World} {base tB : Nat} {v : Value} {xs : List Int} (h : OwnB w base tB v xs) (e : w'.heap = w.heap) : OwnB w' base tB v xs :=
  ⟨⟨h.row.1, by rw [e]; exact h.row.2⟩, h.small⟩
theorem Byt.heap {w w' : World} {p : Option Addr} {n c : Nat} {xs : List Int} (h : Byt w p n c xs) (e : w'.heap = w.heap) : Byt w' p n c xs :=
  ⟨h.len, h.cap, h.most, fun hn => by
    obtain ⟨b, o, rfl, hc⟩ := h.at hn
    exact ⟨b, o, rfl, fun i hi => by rw [← hc i hi]; simp [World.cell?, e]⟩, h.nilCap, h.small⟩

/-- Two bytes in a new block of their own. -/
theorem Byt.two (w : World) (x y : Int) (t : TypeId) (h : 0 ≤ x ∧ x < 256) (k : 0 ≤ y ∧ y < 256) : Byt (w.alloc (.cells #[.int .u8 x, .int .u8 y] t)) (some ⟨w.heap.size, 0, .none⟩) 2 2 [x, y] :=
  ⟨rfl, Nat.le_refl _, by simp only [maxLen]; omega, fun _ => ⟨_, _, rfl, fun i hi => by
    have : i = 0 ∨ i = 1 := by omega
    rcases this with rfl | rfl
    · exact World.cell?_alloc_at _ _ _ _ (by simp)
    · exact World.cell?_alloc_at _ _ _ _ (by simp)⟩, (fun h => by cases h), fun z hz => by
      simp only [List.mem_cons, List.not_mem_nil, or_false] at hz
      rcases hz with rfl | rfl
      · exact h
      · exact k⟩

/-- One byte in a new block of its own. -/
theorem Byt.one (w : World) (x : Int) (t : TypeId) (h : 0 ≤ x ∧ x < 256) : Byt (w.alloc (.cells #[.int .u8 x] t)) (some ⟨w.heap.size, 0, .none⟩) 1 1 [x] :=
  ⟨rfl, Nat.le_refl _, by simp only [maxLen]; omega, fun _ => ⟨_, _, rfl, fun i hi => by
    obtain rfl : i = 0 := by omega
    exact World.cell?_alloc_at _ _ _ _ (by simp)⟩, (fun h => by cases h), fun y hy => by simp at hy; subst hy; exact h⟩

/-- Behind an append of the call's own: the frame of the call. -/
theorem Below.app {B : Nat} {w wr w' : World} {v : Value} {xs : List Int} {tB : Nat} (hb : Below B w wr) (hB : B ≤ wr.heap.size) (ho : OwnB wr B tB v xs) (hg : wr.grownBy w' v.ownBlock) : Below B w w' :=
  hb.grown hg hB ho.base

/-- The slice value p, n, c reads as slices of bytes, which read as xss. -/
structure Rows (w : World) (p : Option Addr) (n c : Nat) (xss : List (List Int)) : Prop where
  len : xss.length = n
  cap : n ≤ c
  most : c ≤ maxLen
  lies : 0 < n → ∃ b o, p = some ⟨b, o, none⟩ ∧ ∀ i, i < n → ∃ q m d, w.cell? ⟨b, o + i, none⟩ = some (.slice q m d) ∧ Byt w q m d (xss.getD i [])
  nilCap : p = none → c = 0

theorem Rows.kept {w w' : World} {p : Option Addr} {n c : Nat} {xss : List (List Int)} (h : Rows w p n c xss) (g : Gr w w') : Rows w' p n c xss :=
  ⟨h.len, h.cap, h.most, fun hn => by
    obtain ⟨b, o, e, hc⟩ := h.lies hn
    refine ⟨b, o, e, fun i hi => ?_⟩
    obtain ⟨q, m, d, h1, h2⟩ := hc i hi
    exact ⟨q, m, d, by rw [g.cell (blk_lt h1)]; exact h1, h2.kept g⟩, h.nilCap⟩

/-- The first bytes of a slice. -/
theorem Byt.pre {w : World} {p : Option Addr} {n c : Nat} {xs : List Int} (h : Byt w p n c xs) (k m : Nat) (hk : k ≤ n) (hm : k ≤ m) (hm2 : m ≤ c) : Byt w p k m (xs.take k) :=
  ⟨by have := h.len; simp; omega, hm, by have := h.most; omega, fun h0 => by
    obtain ⟨b, o, e, hc⟩ := h.at (by omega)
    refine ⟨b, o, e, fun i hi => ?_⟩
    rw [hc i (by omega)]
    simp [List.getD, hi], fun e => by have := h.nilCap e; omega, h.small.take k⟩
/-- What stands behind a place of a slice: the address is the slice's own where the cut stands at the capacity's end. -/
theorem Byt.tail {w : World} {b o n c : Nat} {xs : List Int} (h : Byt w (some ⟨b, o, none⟩) n c xs) (k : Nat) (hk : k ≤ n) (p : Option Addr) (hp : ¬ c = k → p = some ⟨b, o + k, none⟩) : Byt w p (n - k) (c - k) (xs.drop k) := by
  have hl := h.len
  have hcp := h.cap
  have hm := h.most
  refine ⟨by simp; omega, by omega, by omega, fun h0 => ?_, fun e => ?_, h.small.drop k⟩
  · obtain ⟨b', o', e, hc⟩ := h.at (by omega)
    cases e
    refine ⟨b, o + k, hp (by omega), fun i hi => ?_⟩
    rw [Nat.add_assoc, hc (k + i) (by omega)]
    simp [List.getD]
  · by_cases hck : c = k
    · omega
    · rw [hp hck] at e; cases e

/-- Three slices in a new block. -/
theorem Rows.three {w W : World} {t : TypeId} {p1 p2 p3 : Option Addr} {n1 n2 n3 c1 c2 c3 : Nat} {x1 x2 x3 : List Int} (h1 : Byt w p1 n1 c1 x1) (h2 : Byt w p2 n2 c2 x2) (h3 : Byt w p3 n3 c3 x3)
    (hW : W.heap = (w.alloc (.cells #[.slice p1 n1 c1, .slice p2 n2 c2, .slice p3 n3 c3] t)).heap) : Rows W (some ⟨w.heap.size, 0, none⟩) 3 3 [x1, x2, x3] := by
  have hg := (Below.refl w.heap.size w).alloc (Nat.le_refl _) (.cells #[.slice p1 n1 c1, .slice p2 n2 c2, .slice p3 n3 c3] t)
  have g1 := (h1.kept hg).heap hW
  have g2 := (h2.kept hg).heap hW
  have g3 := (h3.kept hg).heap hW
  have hc : ∀ i, W.cell? ⟨w.heap.size, i, none⟩ = (#[.slice p1 n1 c1, .slice p2 n2 c2, .slice p3 n3 c3] : Array Value)[i]? := fun i => by
    rw [← World.cell?_alloc_at (w := w) #[.slice p1 n1 c1, .slice p2 n2 c2, .slice p3 n3 c3] t w.heap.size i rfl]
    exact World.cell?_of_block (w := w.alloc _) (by rw [hW])
  refine ⟨rfl, Nat.le_refl _, by simp only [maxLen]; omega, fun _ => ⟨_, 0, rfl, fun i hi => ?_⟩, fun h => by cases h⟩
  have : i = 0 ∨ i = 1 ∨ i = 2 := by omega
  rcases this with rfl | rfl | rfl
  · exact ⟨p1, n1, c1, hc 0, g1⟩
  · exact ⟨p2, n2, c2, hc 1, g2⟩
  · exact ⟨p3, n3, c3, hc 2, g3⟩

/-- Answers: bytes, and an error's number; bytes alone. The bytes lie in memory of the call's own. -/
def RetBytes (er : Int) (xs : List Int) (w : World) (e : Ending) (w' : World) : Prop :=
  ∃ p n c, e = .returned (.tuple #[.slice p n c, .int .i64 er]) ∧ Byt w' p n c xs ∧ Gr w w' ∧ ∀ a, p = some a → w.heap.size ≤ a.block
def RetByte (xs : List Int) (w : World) (e : Ending) (w' : World) : Prop :=
  ∃ p n c, e = .returned (.slice p n c) ∧ Byt w' p n c xs ∧ Gr w w' ∧ ∀ a, p = some a → w.heap.size ≤ a.block

theorem RetByte.of_own {w w' : World} {tB : Nat} {p : Option Addr} {n c : Nat} {xs : List Int} (ho : OwnB w' w.heap.size tB (.slice p n c) xs) (hb : Gr w w') : RetByte xs w (.returned (.slice p n c)) w' := by
  exact ⟨p, n, c, rfl, ho.byt.1, hb, ho.far⟩

end Go.Proofs.Ytchfhgeipmfegaa
