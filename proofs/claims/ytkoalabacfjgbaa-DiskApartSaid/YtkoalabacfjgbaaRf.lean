
/-
  The document's disk: what it holds, said of a world.
-/
import Derived.Test.YtkoalabacfjgbaaSector
namespace Go.Proofs.Ytkoalabacfjgbaa
open Go.RowKit Go.Maps

abbrev TRf : TypeId := 48
/-- A fuse below 0 is none. -/
def nrm (z : Int) : Int := if z < 0 then -1 else z
/-- A sector's list: what lasts, and what was written since. -/
def St.at (s : St) (i : Nat) : List Sec := s.ls.getD i Sec.zero :: s.t i

/-- A row of slices, known by its block: the outer list. -/
def Outer (w : World) (gs cs N : Nat) (V : Nat → Value) : Prop := w.ownsRow 0 TL 1 (.slice (some ⟨gs, 0, none⟩) N cs) N ((List.range N).map V)
theorem Outer.stays {w w' : World} {gs cs N : Nat} {V : Nat → Value} (h : Outer w gs cs N V) (e : w'.heap[gs]? = w.heap[gs]?) : Outer w' gs cs N V := by
  refine ⟨h.1, ?_⟩
  rcases h.2 with ⟨h2, _⟩ | ⟨g, cap, cur, h0, h1, hg, r⟩
  · cases h2
  · cases h0
    exact .inr ⟨gs, cs, cur, rfl, h1, e.trans hg, r⟩
theorem Outer.cell {w : World} {gs cs N : Nat} {V : Nat → Value} (h : Outer w gs cs N V) (i : Nat) (hi : i < N) : w.cell? ⟨gs, i, none⟩ = some (V i) := by
  rw [World.ownsRow.cellAt h i (by omega)]
  simp [hi]
theorem Outer.frozen {w : World} {gs cs N : Nat} {V : Nat → Value} (h : Outer w gs cs N V) (i : Nat) : w.frozen? ⟨gs, i, none⟩ = false := World.ownsRow.frozenAt h i
theorem Outer.block {w : World} {gs cs N : Nat} {V : Nat → Value} (h : Outer w gs cs N V) : ∃ cur, w.heap[gs]? = some (.cells cur TL (0, 0)) := by
  rcases h.2 with ⟨h2, _⟩ | ⟨g, cap, cur, h0, h1, hg, r⟩
  · cases h2
  · cases h0; exact ⟨cur, hg⟩
theorem Outer.lt {w : World} {gs cs N : Nat} {V : Nat → Value} (h : Outer w gs cs N V) : gs < w.heap.size := by
  obtain ⟨cur, hg⟩ := h.block
  exact (Array.getElem?_eq_some_iff.1 hg).1
theorem Outer.bound {w : World} {gs cs N : Nat} {V : Nat → Value} (h : Outer w gs cs N V) : N ≤ 9223372036854775807 := by
  rcases h.2 with ⟨h2, _⟩ | ⟨g, cap, cur, h0, h1, hg, hn, hm, r⟩
  · cases h2
  · unfold maxLen at hm; cases h0; omega
theorem Outer.set {w : World} {gs cs N : Nat} {V : Nat → Value} (h : Outer w gs cs N V) (i : Nat) (hi : i < N) (u : Value) : Outer (w.setCell ⟨gs, i, none⟩ u) gs cs N (fun j => if j = i then u else V j) := by
  have h2 := World.ownsRow.stored h i u
  unfold Outer
  have e : ((List.range N).map V).set i u = (List.range N).map (fun j => if j = i then u else V j) := by
    apply List.ext_getElem?
    intro j
    rw [List.getElem?_set]
    by_cases hj : j < N
    · by_cases hji : i = j
      · subst hji; simp [hj]
      · simp [hj, hji, Ne.symm hji]
    · have : ¬ i = j := by omega
      simp [hj, this]
  rw [← e]
  exact h2.1

structure RfAt (w : World) (G : Nat → Prop) (b gs cs : Nat) (V : Nat → Value) (s : St) : Prop where
  pos : 0 < s.ls.length
  most : s.ls.length ≤ 65536
  lo : -9223372036854775808 ≤ s.fuse
  hi : s.fuse ≤ 9223372036854775807
  blk : Blk w b TRf #[.slice (some ⟨gs, 0, none⟩) s.ls.length cs, .int .i64 (nrm s.fuse), .bool s.dead, .int .i64 (s.writes : Int)]
  outer : Outer w gs cs s.ls.length V
  rows : ∀ i, i < s.ls.length → Row w (V i) (s.at i)
  ownB : G b
  ownS : G gs
  ownR : ∀ i g, i < s.ls.length → (V i).ownBlock = some g → G g
  low : ∀ k, G k → k < w.heap.size

/-- The pointer r is the document's disk that is s; its blocks are G's. -/
def Rf (w : World) (G : Nat → Prop) (r : Value) (s : St) : Prop := ∃ b gs cs V, r = .pointer (some ⟨b, 0, none⟩) ∧ RfAt w G b gs cs V s
theorem RfAt.stays {w w' : World} {G : Nat → Prop} {b gs cs : Nat} {V : Nat → Value} {s : St} (h : RfAt w G b gs cs V s) (e : ∀ k, G k → w'.heap[k]? = w.heap[k]?) (hs : w.heap.size ≤ w'.heap.size) : RfAt w' G b gs cs V s :=
  ⟨h.pos, h.most, h.lo, h.hi, h.blk.stays (e b h.ownB), h.outer.stays (e gs h.ownS), fun i hi => (h.rows i hi).stays fun g hg => e g (h.ownR i g hi hg), h.ownB, h.ownS, h.ownR, fun k hk => Nat.lt_of_lt_of_le (h.low k hk) hs⟩
theorem RfAt.gr {w w' : World} {G : Nat → Prop} {b gs cs : Nat} {V : Nat → Value} {s : St} (h : RfAt w G b gs cs V s) (e : Gr w w') : RfAt w' G b gs cs V s := h.stays (fun k hk => e.block k (h.low k hk)) e.size
theorem Rf.stays {w w' : World} {G : Nat → Prop} {r : Value} {s : St} (h : Rf w G r s) (e : ∀ k, G k → w'.heap[k]? = w.heap[k]?) (hs : w.heap.size ≤ w'.heap.size) : Rf w' G r s := by
  obtain ⟨b, gs, cs, V, hp, h⟩ := h
  exact ⟨b, gs, cs, V, hp, h.stays e hs⟩
theorem Rf.gr {w w' : World} {G : Nat → Prop} {r : Value} {s : St} (h : Rf w G r s) (e : Gr w w') : Rf w' G r s := by
  obtain ⟨b, gs, cs, V, hp, h⟩ := h
  exact ⟨b, gs, cs, V, hp, h.gr e⟩
theorem Rf.low {w : World} {G : Nat → Prop} {r : Value} {s : St} (h : Rf w G r s) : ∀ k, G k → k < w.heap.size := by
  obtain ⟨b, gs, cs, V, hp, h⟩ := h
  exact h.low
theorem RfAt.cells {w : World} {G : Nat → Prop} {b gs cs : Nat} {V : Nat → Value} {s : St} (h : RfAt w G b gs cs V s) :
    w.cell? ⟨b, 0, none⟩ = some (.slice (some ⟨gs, 0, none⟩) s.ls.length cs) ∧ w.cell? ⟨b, 1, none⟩ = some (.int .i64 (nrm s.fuse)) ∧ w.cell? ⟨b, 2, none⟩ = some (.bool s.dead) ∧ w.cell? ⟨b, 3, none⟩ = some (.int .i64 (s.writes : Int)) :=
  ⟨h.blk.cell 0, h.blk.cell 1, h.blk.cell 2, h.blk.cell 3⟩
/-- Three kinds of blocks. -/
theorem RfAt.apart {w : World} {G : Nat → Prop} {b gs cs : Nat} {V : Nat → Value} {s : St} (h : RfAt w G b gs cs V s) : b ≠ gs ∧ (∀ i g, i < s.ls.length → (V i).ownBlock = some g → g ≠ b ∧ g ≠ gs) := by
  obtain ⟨cur, hg⟩ := h.outer.block
  have hb := h.blk
  unfold Blk at hb
  refine ⟨fun e => ?_, fun i g hi hv => ⟨fun e => ?_, fun e => ?_⟩⟩
  · subst e
    rw [hg] at hb
    simp only [Option.some.injEq, Obj.cells.injEq] at hb
    exact absurd hb.2.1 (by decide)
  · subst e
    obtain ⟨cs2, hk⟩ := (h.rows i hi).kind hv
    rw [hk] at hb
    simp only [Option.some.injEq, Obj.cells.injEq] at hb
    exact absurd hb.2.1 (by decide)
  · subst e
    obtain ⟨cs2, hk⟩ := (h.rows i hi).kind hv
    rw [hk] at hg
    simp only [Option.some.injEq, Obj.cells.injEq] at hg
    exact absurd hg.2.1 (by decide)
theorem at_ne (s : St) (i : Nat) : s.at i ≠ [] := by unfold St.at; simp
theorem at_len (s : St) (i : Nat) : (s.at i).length = (s.t i).length + 1 := rfl
theorem at_last (s : St) (i : Nat) (h : (s.t i).length < (s.at i).length) : (s.at i)[(s.t i).length] = s.nw i := by
  have h1 : (s.at i).length - 1 < (s.at i).length := by omega
  have := last_at Sec.zero (s.at i) h1
  have e : (s.at i).length - 1 = (s.t i).length := rfl
  rw [show (s.at i)[(s.t i).length] = (s.at i)[(s.at i).length - 1] from rfl, this]
  unfold St.at St.nw
  rw [List.getLastD_cons]

/-- One cell of the disk's own block is set. -/
theorem RfAt.block {w w' : World} {G : Nat → Prop} {b gs cs : Nat} {V : Nat → Value} {s s' : St} (h : RfAt w G b gs cs V s) (hls : s'.ls = s.ls) (ht : s'.t = s.t) (lo : -9223372036854775808 ≤ s'.fuse) (hi : s'.fuse ≤ 9223372036854775807)
    (hb : Blk w' b TRf #[.slice (some ⟨gs, 0, none⟩) s.ls.length cs, .int .i64 (nrm s'.fuse), .bool s'.dead, .int .i64 (s'.writes : Int)]) (e : ∀ k, G k → k ≠ b → w'.heap[k]? = w.heap[k]?) (hs : w.heap.size ≤ w'.heap.size) : RfAt w' G b gs cs V s' := by
  obtain ⟨a1, a2⟩ := h.apart
  refine ⟨by rw [hls]; exact h.pos, by rw [hls]; exact h.most, lo, hi, by rw [hls]; exact hb, by rw [hls]; exact h.outer.stays (e gs h.ownS (fun e => a1 e.symm)), fun i hl => ?_, h.ownB, h.ownS, fun i g hl hg => h.ownR i g (by rw [hls] at hl; exact hl) hg, fun k hk => Nat.lt_of_lt_of_le (h.low k hk) hs⟩
  rw [hls] at hl
  have := (h.rows i hl).stays (w' := w') fun g hg => e g (h.ownR i g hl hg) (a2 i g hl hg).1
  unfold St.at at this ⊢
  rw [hls, ht]
  exact this

/-- It tells no more of the disk than its lists. -/
theorem RfAt.ext {w : World} {G : Nat → Prop} {b gs cs : Nat} {V : Nat → Value} {s s' : St} (h : RfAt w G b gs cs V s) (hlen : s'.ls.length = s.ls.length) (hat : ∀ j, j < s.ls.length → s'.at j = s.at j) (hf : s'.fuse = s.fuse) (hd : s'.dead = s.dead) (hw : s'.writes = s.writes) : RfAt w G b gs cs V s' := by
  refine ⟨by rw [hlen]; exact h.pos, by rw [hlen]; exact h.most, by rw [hf]; exact h.lo, by rw [hf]; exact h.hi, by rw [hlen, hf, hd, hw]; exact h.blk, by rw [hlen]; exact h.outer, fun i hi => ?_, h.ownB, h.ownS, fun i g hi hg => h.ownR i g (by rw [hlen] at hi; exact hi) hg, h.low⟩
  rw [hlen] at hi
  rw [hat i hi]
  exact h.rows i hi
/-- A row is set anew. -/
theorem RfAt.put {w : World} {G : Nat → Prop} {b gs cs : Nat} {V : Nat → Value} {s s' : St} (h : RfAt w G b gs cs V s) (i : Nat) (hi : i < s.ls.length) {v : Value} (hr : Row w v (s'.at i)) (hlen : s'.ls.length = s.ls.length) (hat : ∀ j, j < s.ls.length → j ≠ i → s'.at j = s.at j) (hf : s'.fuse = s.fuse) (hd : s'.dead = s.dead) (hw : s'.writes = s.writes) :
    RfAt (w.setCell ⟨gs, i, none⟩ v) (fun k => G k ∨ v.ownBlock = some k) b gs cs (fun j => if j = i then v else V j) s' := by
  obtain ⟨a1, a2⟩ := h.apart
  have hset : ∀ k, k ≠ gs → (w.setCell ⟨gs, i, none⟩ v).heap[k]? = w.heap[k]? := fun k hk => Below.heap_setCell w _ v k hk
  have hsz : (w.setCell ⟨gs, i, none⟩ v).heap.size = w.heap.size := by simp [World.setCell]
  have hvk : ∀ g, v.ownBlock = some g → g ≠ gs := fun g hg e => by
    subst e
    obtain ⟨cur, hk⟩ := h.outer.block
    obtain ⟨cs2, hk2⟩ := hr.kind hg
    rw [hk2] at hk
    simp only [Option.some.injEq, Obj.cells.injEq] at hk
    exact absurd hk.2.1 (by decide)
  refine ⟨by rw [hlen]; exact h.pos, by rw [hlen]; exact h.most, by rw [hf]; exact h.lo, by rw [hf]; exact h.hi, by rw [hlen, hf, hd, hw]; exact h.blk.stays (hset b a1), by rw [hlen]; exact h.outer.set i hi v, fun j hj => ?_, .inl h.ownB, .inl h.ownS, fun j g hj hg => ?_, ?_⟩
  · rw [hlen] at hj
    by_cases hji : j = i
    · subst hji
      simp only [if_pos]
      exact hr.stays fun g hg => hset g (hvk g hg)
    · simp only [if_neg hji]
      rw [hat j hj hji]
      exact (h.rows j hj).stays fun g hg => hset g (a2 j g hj hg).2
  · rw [hlen] at hj
    by_cases hji : j = i
    · simp only [if_pos hji] at hg
      exact .inr hg
    · simp only [if_neg hji] at hg
      exact .inl (h.ownR j g hj hg)
  · rintro k (hk | hk)
    · rw [hsz]; exact h.low k hk
    · rw [hsz]; exact hr.lt k hk
theorem upd_put {w0 w : World} {G : Nat → Prop} (hg : Gr w0 w) {gs i : Nat} (hG : G gs) {v : Value} (hv : ∀ g, v.ownBlock = some g → w0.heap.size ≤ g) : Upd G (fun k => G k ∨ v.ownBlock = some k) w0 (w.setCell ⟨gs, i, none⟩ v) :=
  ⟨hg.os, hg.tape, hg.output, by simpa [World.setCell] using hg.size, fun k hk hG2 => (Below.heap_setCell w _ v k (fun e => hG2 (by rw [e]; exact hG))).trans (hg.block k hk), fun k hk => hk.imp id fun h => hv k h⟩

/-- An answer; the document's disk has become s. -/
def ChgR (G : Nat → Prop) (r : Value) (s : St) (v : Value) (w : World) (e : Ending) (w' : World) : Prop := ∃ G', e = .returned v ∧ Rf w' G' r s ∧ Upd G G' w w'

end Go.Proofs.Ytkoalabacfjgbaa
