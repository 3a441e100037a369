
/-
  The disk: what it holds, said of a world; how that stays while other blocks turn.
-/
import Derived.Test.YtkoalabacfjgbaaSec
import Derived.Test.YtkoalabacfjgbaaBlk
import Derived.Maps.Own
import Derived.Maps.OwnOps
import Derived.Maps.OwnSet
import Derived.Maps.Views
namespace Go.Proofs.Ytkoalabacfjgbaa
open Go.RowKit Go.Maps

theorem Blk.one {w : World} {g : Nat} {s : Sec} (h : Blk w g TS (sec s)) : w.rangeAt g 0 s.cells := fun j v hv => by
  rw [Nat.zero_add, h.cell j, ← hv]; simp [sec]
theorem below_setRow {B : Nat} {a w : World} (h : Below B a w) {g : Nat} (hg : B ≤ g) (cs : Array Value) : Below B a (w.setRow g cs) :=
  h.trans ⟨rfl, rfl, rfl, by simp, fun k hk => setRow_other w g k cs (by omega)⟩

/-- A sector is taken out of memory, put into memory. -/
theorem wpList_load_sec {ops : Array Oper} {rest : List Oper} {op : Oper} {a : Act} {w : World} {Q : Exit → Act → World → Prop} (hgd : op.guard = none) (x : Operand) (ho : op.op = .load TS x)
    {b o : Nat} {s : Sec} (hc : w.rangeAt b o s.cells) (hx : a.eval x = .pointer (some ⟨b, o, none⟩))
    (h : wpList Try.prog ops Q rest (a.put op.dst (.agg (sec s))) w) : wpList Try.prog ops Q (op :: rest) a w :=
  wpList_load_mid hgd TS x ho b o hx s.cells _ hc under_sec rfl (by rw [s.cells_len]; exact size_sec) h
theorem wpList_store_sec {ops : Array Oper} {rest : List Oper} {op : Oper} {a : Act} {w : World} {Q : Exit → Act → World → Prop} (hgd : op.guard = none) (x y : Operand) (ho : op.op = .store TS x y)
    {g : Nat} {old s : Sec} (hb : Blk w g TS (sec old)) (hx : a.eval x = .pointer (some ⟨g, 0, none⟩)) (hy : a.eval y = .agg (sec s))
    (h : wpList Try.prog ops Q rest (a.put op.dst undef) (w.setRow g (sec s))) : wpList Try.prog ops Q (op :: rest) a w :=
  wpList_store_row hgd TS x y ho g (sec s) hx hy TS (sec old) hb (by rw [sec_size]; exact size_sec) (by rw [sec_size, sec_size]) (sec_one s) h
theorem results_sec {fn : Func} {p : Tmp} (h : fn.results = #[.cell p TS]) (tmps : Array Value) (w : World) (g : Nat) (s : Sec)
    (hp : tmps.getD p undef = .pointer (some ⟨g, 0, none⟩)) (hb : Blk w g TS (sec s)) : (results fn tmps).run Try.prog w = .ok (.agg (sec s)) w :=
  results_cell_row h tmps w g TS (sec s) (0, 0) _ hp hb under_sec rfl (by rw [sec_size]; exact size_sec)

/-! ### What a disk is -/
structure St where
  ls : List Sec
  t : Nat → List Sec
  fuse : Int
  dead : Bool
  writes : Nat

structure St.Ok (s : St) : Prop where
  pos : 0 < s.ls.length
  most : s.ls.length ≤ 65536
  out : ∀ i, s.ls.length ≤ i → s.t i = []
  less : ∀ i, (s.t i).length ≤ s.writes
  lo : -9223372036854775808 ≤ s.fuse
  hi : s.fuse ≤ 9223372036854775807

/-- What a sector is read as. -/
def St.nw (s : St) (i : Nat) : Sec := (s.t i).getLastD (s.ls.getD i Sec.zero)

abbrev nilS : Value := .slice none 0 0
def key (i : Nat) : Lit := .int .i64 (i : Int)
/-- An element of the map reads as itself. -/
def eltR (v : Value) : Option (DataW Value × List MemPlace) := some (.held v, [])
abbrev TM : TypeId := 65
abbrev TL : TypeId := 25
abbrev TD : TypeId := 67

/-- What lies loose: block m is a map of the slices L. -/
def Loose (w : World) (m most : Nat) (N : Nat) (L : Nat → Value) (t : Nat → List Sec) : Prop :=
  ∃ (D : DataW Value) (n : Nat), w.ownsMap Try.prog TI eltR m n D ∧ n ≤ most ∧ (∀ i, i < N → D.atKey (key i) (.held nilS) = .held (L i)) ∧ (∀ i, i < N → (has D (key i) = true ↔ t i ≠ [])) ∧ (∀ k, has D k = true → ∃ i, i < N ∧ k = key i)

structure DkAt (w : World) (F : Nat → Prop) (b : Nat) (lv : Value) (m : Nat) (L : Nat → Value) (s : St) : Prop where
  ok : s.Ok
  blk : Blk w b TD #[lv, .map (some m), .int .i64 s.fuse, .bool s.dead, .int .i64 (s.writes : Int)]
  ls : Row w lv s.ls
  map : Loose w m (65536 + s.writes) s.ls.length L s.t
  rows : ∀ i, Row w (L i) (s.t i)
  apart : ∀ i j g, (L i).ownBlock = some g → (L j).ownBlock = some g → i = j
  apart0 : ∀ i g, (L i).ownBlock = some g → lv.ownBlock ≠ some g
  ownB : F b
  ownM : F m
  ownL : ∀ g, lv.ownBlock = some g → F g
  ownR : ∀ i g, (L i).ownBlock = some g → F g
  low : ∀ k, F k → k < w.heap.size

/-- The pointer p is a disk that is s; its blocks are F's. -/
def Dk (w : World) (F : Nat → Prop) (p : Value) (s : St) : Prop := ∃ b lv m L, p = .pointer (some ⟨b, 0, none⟩) ∧ DkAt w F b lv m L s

theorem ownsMap_stays {w w' : World} {P : Program} {k : TypeId} {R : Value → Option (DataW Value × List MemPlace)} {b n : Nat} {D : DataW Value} (h : w.ownsMap P k R b n D) (e : w'.heap[b]? = w.heap[b]?) : w'.ownsMap P k R b n D := by
  obtain ⟨es, clock, hb, r⟩ := h
  exact ⟨es, clock, e.trans hb, r⟩
theorem Loose.stays {w w' : World} {m q N : Nat} {L : Nat → Value} {t : Nat → List Sec} (h : Loose w m q N L t) (e : w'.heap[m]? = w.heap[m]?) : Loose w' m q N L t := by
  obtain ⟨D, n, ho, r⟩ := h
  exact ⟨D, n, ownsMap_stays ho e, r⟩
theorem Loose.lt {w : World} {m q N : Nat} {L : Nat → Value} {t : Nat → List Sec} (h : Loose w m q N L t) : m < w.heap.size := by
  obtain ⟨D, n, ho, r⟩ := h
  exact ho.lt

theorem DkAt.stays {w w' : World} {F : Nat → Prop} {b : Nat} {lv : Value} {m : Nat} {L : Nat → Value} {s : St} (h : DkAt w F b lv m L s) (e : ∀ k, F k → w'.heap[k]? = w.heap[k]?) (hs : w.heap.size ≤ w'.heap.size) : DkAt w' F b lv m L s :=
  ⟨h.ok, h.blk.stays (e b h.ownB), h.ls.stays fun g hg => e g (h.ownL g hg), h.map.stays (e m h.ownM), fun i => (h.rows i).stays fun g hg => e g (h.ownR i g hg), h.apart, h.apart0, h.ownB, h.ownM, h.ownL, h.ownR, fun k hk => Nat.lt_of_lt_of_le (h.low k hk) hs⟩
theorem DkAt.gr {w w' : World} {F : Nat → Prop} {b : Nat} {lv : Value} {m : Nat} {L : Nat → Value} {s : St} (h : DkAt w F b lv m L s) (e : Gr w w') : DkAt w' F b lv m L s := h.stays (fun k hk => e.block k (h.low k hk)) e.size
theorem Dk.stays {w w' : World} {F : Nat → Prop} {p : Value} {s : St} (h : Dk w F p s) (e : ∀ k, F k → w'.heap[k]? = w.heap[k]?) (hs : w.heap.size ≤ w'.heap.size) : Dk w' F p s := by
  obtain ⟨b, lv, m, L, hp, h⟩ := h
  exact ⟨b, lv, m, L, hp, h.stays e hs⟩
theorem Dk.gr {w w' : World} {F : Nat → Prop} {p : Value} {s : St} (h : Dk w F p s) (e : Gr w w') : Dk w' F p s := by
  obtain ⟨b, lv, m, L, hp, h⟩ := h
  exact ⟨b, lv, m, L, hp, h.gr e⟩
theorem Dk.low {w : World} {F : Nat → Prop} {p : Value} {s : St} (h : Dk w F p s) : ∀ k, F k → k < w.heap.size := by
  obtain ⟨b, lv, m, L, hp, h⟩ := h
  exact h.low
theorem Dk.ok {w : World} {F : Nat → Prop} {p : Value} {s : St} (h : Dk w F p s) : s.Ok := by
  obtain ⟨b, lv, m, L, hp, h⟩ := h
  exact h.ok

/-- Only blocks of F, and new ones, have turned; F' are blocks of F, and new ones. -/
structure Upd (F F' : Nat → Prop) (w w' : World) : Prop where
  os : w'.os = w.os
  tape : w'.tape = w.tape
  output : w'.output = w.output
  size : w.heap.size ≤ w'.heap.size
  block : ∀ k, k < w.heap.size → ¬ F k → w'.heap[k]? = w.heap[k]?
  fresh : ∀ k, F' k → F k ∨ w.heap.size ≤ k
theorem Upd.below {F F' : Nat → Prop} {w w' : World} (h : Upd F F' w w') {B : Nat} (hB : B ≤ w.heap.size) (hF : ∀ k, F k → B ≤ k) : Below B w w' :=
  ⟨h.os, h.tape, h.output, h.size, fun k hk => h.block k (by omega) fun hf => by have := hF k hf; omega⟩
theorem Upd.from {F F' : Nat → Prop} {w w' : World} (h : Upd F F' w w') {B : Nat} (hB : B ≤ w.heap.size) (hF : ∀ k, F k → B ≤ k) : ∀ k, F' k → B ≤ k := fun k hk => by
  rcases h.fresh k hk with h | h
  · exact hF k h
  · omega
/-- What lies apart stays, and lies apart still. -/
theorem Upd.other {F F' G : Nat → Prop} {w w' : World} (h : Upd F F' w w') (hG : ∀ k, G k → k < w.heap.size) (ha : ∀ k, F k → ¬ G k) : (∀ k, G k → w'.heap[k]? = w.heap[k]?) ∧ ∀ k, F' k → ¬ G k :=
  ⟨fun k hk => h.block k (hG k hk) fun hf => ha k hf hk, fun k hk hg => by
    rcases h.fresh k hk with h1 | h1
    · exact ha k h1 hg
    · have := hG k hg; omega⟩
theorem Upd.of_gr {F : Nat → Prop} {w w' : World} (h : Gr w w') : Upd F F w w' := ⟨h.os, h.tape, h.output, h.size, fun k hk _ => h.block k hk, fun k hk => .inl hk⟩

/-- The look-up of what lies loose at a place. -/
theorem Loose.look {w : World} {m q N : Nat} {L : Nat → Value} {t : Nat → List Sec} (h : Loose w m q N L t) (i : Nat) (hi : i < N) (hN : N ≤ 65536) :
    (Instr.lookup TM (.map (some m)) (.int .i64 (i : Int)) false).run Try.prog w = .ok (L i) w := by
  obtain ⟨D, n, ho, hn, ha, _, _⟩ := h
  obtain ⟨v, ps, hr, hv⟩ := ho.lookup (t := TM) (e := TL) (int_keyed Try.underlying3) Try.underlying65 (z := nilS) (show (zeroValue TL).run Try.prog w = .ok nilS w from Try.zeroValue25 w) (zd := .held nilS) (zp := []) rfl (key := .int .i64 (i : Int)) (kl := key i)
    (keyOf_int_mk Try.underlying3 (WalkArith.wf_i64 (by omega)))
  rw [ha i hi] at hv
  simp only [eltR, Option.some.injEq, Prod.mk.injEq, DataW.held.injEq] at hv
  rw [hr, hv.1]

end Go.Proofs.Ytkoalabacfjgbaa
