
/-
  The law DiskApart: what lies there once the copies are made.
-/
import Derived.Test.YtkoalabacfjgbaaDiskPlaysWalk
import Derived.Test.YtkoalabacfjgbaaApartAll
namespace Go.Proofs.Ytkoalabacfjgbaa
open Go.RowKit Go.Maps Go.Shelf

/-- The copies lie from nX on and ahead of nE, the two disks from nB on and elsewhere; the result's cell is w's next block. -/
structure Mid (w : World) (nB nX nE j : Nat) (cp wp : Value) (Bd ab : Nat) (alv : Value) (am : Nat) (aL : Nat → Value) (Fa : Nat → Prop) (RB : Nat) (s : St) (p r : Value) (s2 : St) (W : World) : Prop where
  gr : Gr w W
  res : Blk W w.heap.size TBo #[.bool false]
  own : ∃ F G, Pair W F G p r s2 ∧ ∀ k, F k ∨ G k → nB ≤ k ∧ (k < nX ∨ nE ≤ k)
  cp : ∃ F, Dk W F cp s ∧ ∀ k, F k → nX ≤ k ∧ k < nE
  bd : Blk W Bd TPD #[.pointer (some ⟨ab, 0, none⟩)] ∧ nX ≤ Bd ∧ Bd < nE
  al : DkAt W Fa ab alv am aL s ∧ ∀ k, Fa k → nX ≤ k ∧ k < nE
  was : ∃ G, Rf W G wp (s.crash []) ∧ ∀ k, G k → nX ≤ k ∧ k < nE
  rd : ∃ u, Blk W RB TL #[u] ∧ Row W u ((List.range j).map s.nw) ∧ ∀ g, u.ownBlock = some g → nX ≤ g ∧ g < nE
  rb : nX ≤ RB ∧ RB < nE
  low : w.heap.size < nB ∧ nB ≤ nX ∧ nX ≤ nE ∧ nE ≤ W.heap.size

section
variable {w : World} {nB nX nE j : Nat} {cp wp : Value} {Bd ab : Nat} {alv : Value} {am : Nat} {aL : Nat → Value} {Fa : Nat → Prop} {RB : Nat} {s : St} {p r : Value} {s2 : St} {W : World}
theorem Mid.turn (h : Mid w nB nX nE j cp wp Bd ab alv am aL Fa RB s p r s2 W) {W' : World} {p' r' : Value} {s3 : St} (h1 : W'.os = W.os) (h2 : W'.tape = W.tape) (h3 : W'.output = W.output) (h4 : W.heap.size ≤ W'.heap.size)
    (hk : ∀ k, (k ≤ w.heap.size ∨ (nX ≤ k ∧ k < nE)) → W'.heap[k]? = W.heap[k]?) (ho : ∃ F G, Pair W' F G p' r' s3 ∧ ∀ k, F k ∨ G k → nB ≤ k ∧ (k < nX ∨ nE ≤ k)) : Mid w nB nX nE j cp wp Bd ab alv am aL Fa RB s p' r' s3 W' := by
  obtain ⟨F, hF, hF2⟩ := h.cp
  obtain ⟨G, hG, hG2⟩ := h.was
  obtain ⟨u, hu1, hu2, hu3⟩ := h.rd
  refine ⟨⟨h1.trans h.gr.os, h2.trans h.gr.tape, h3.trans h.gr.output, Nat.le_trans h.gr.size h4, fun k hk2 => (hk k (.inl (Nat.le_of_lt hk2))).trans (h.gr.block k hk2)⟩, h.res.stays (hk _ (.inl (Nat.le_refl _))), ho,
    ⟨F, hF.stays (fun k hk2 => hk k (.inr (hF2 k hk2))) h4, hF2⟩, ⟨h.bd.1.stays (hk _ (.inr h.bd.2)), h.bd.2⟩, ⟨h.al.1.stays (fun k hk2 => hk k (.inr (h.al.2 k hk2))) h4, h.al.2⟩,
    ⟨G, hG.stays (fun k hk2 => hk k (.inr (hG2 k hk2))) h4, hG2⟩, ⟨u, hu1.stays (hk _ (.inr h.rb)), hu2.stays (fun g hg => hk g (.inr (hu3 g hg))), hu3⟩, h.rb, ⟨h.low.1, h.low.2.1, h.low.2.2.1, Nat.le_trans h.low.2.2.2 h4⟩⟩
theorem Mid.grow (h : Mid w nB nX nE j cp wp Bd ab alv am aL Fa RB s p r s2 W) {W' : World} (g : Gr W W') : Mid w nB nX nE j cp wp Bd ab alv am aL Fa RB s p r s2 W' := by
  obtain ⟨F, G, h1, h2⟩ := h.own
  refine h.turn g.os g.tape g.output g.size (fun k hk => g.block k ?_) ⟨F, G, h1.stays g, h2⟩
  rcases hk with hk | hk
  · exact Nat.lt_of_le_of_lt hk h.res.lt
  · have := h.low.2.2.2; omega
theorem Mid.store (h : Mid w nB nX nE j cp wp Bd ab alv am aL Fa RB s p r s2 W) {W' : World} (g1 : Nat) (hg1 : w.heap.size < g1) (hg2 : g1 < nB) (h1 : W'.os = W.os) (h2 : W'.tape = W.tape) (h3 : W'.output = W.output) (h4 : W'.heap.size = W.heap.size)
    (hk : ∀ k, k ≠ g1 → W'.heap[k]? = W.heap[k]?) : Mid w nB nX nE j cp wp Bd ab alv am aL Fa RB s p r s2 W' := by
  obtain ⟨F, G, hp, hz⟩ := h.own
  have hl := h.low
  refine h.turn h1 h2 h3 (Nat.le_of_eq h4.symm) (fun k hk2 => hk k (by omega)) ⟨F, G, ⟨hp.dk.stays (fun k hk2 => hk k (by have := hz k (.inl hk2); omega)) (Nat.le_of_eq h4.symm), hp.rf.stays (fun k hk2 => hk k (by have := hz k (.inr hk2); omega)) (Nat.le_of_eq h4.symm), hp.apart⟩, hz⟩
/-- An act of both. -/
def MidDone (w : World) (nB nX nE j : Nat) (cp wp : Value) (Bd ab : Nat) (alv : Value) (am : Nat) (aL : Nat → Value) (Fa : Nat → Prop) (RB : Nat) (s s2 : St) (e : Ending) (W : World) : Prop := ∃ p r, e = .returned (.tuple #[p, r, .bool true]) ∧ Mid w nB nX nE j cp wp Bd ab alv am aL Fa RB s p r s2 W
theorem Mid.does (h : Mid w nB nX nE j cp wp Bd ab alv am aL Fa RB s p r s2 W) (a : Do) (ha : a.Ok) (q : Option Addr) (n c : Nat) (hz : Nums W q n c a.picks) (hw : s2.writes ≤ 1000000000) :
    Calls Try.prog 9 #[p, r, .agg (a.val (.slice q n c))] W fun e W' => MidDone w nB nX nE j cp wp Bd ab alv am aL Fa RB s (s2.does a) e W' := by
  obtain ⟨F, G, hp, ho⟩ := h.own
  refine (do_any W hp a ha q n c hz hw).mono ?_
  rintro e W' ⟨p', r', F', G', he, hp', hu⟩
  have hl := h.low
  refine ⟨p', r', he, h.turn hu.os hu.tape hu.output hu.size (fun k hk => hu.block k (by have := h.res.lt; omega) (fun hf => by have := ho k hf; omega)) ⟨F', G', hp', fun k hk => ?_⟩⟩
  rcases hu.fresh k hk with hf | hf
  · exact ho k hf
  · omega
theorem Mid.same (h : Mid w nB nX nE j cp wp Bd ab alv am aL Fa RB s p r s2 W) (hw : s2.writes ≤ 1000000000) : Calls Try.prog 8 #[p, r] W fun e w' => RetTrue W e w' := by
  obtain ⟨F, G, hp, ho⟩ := h.own
  exact same_any W hp hw
end
theorem sameS_self (s : St) : sameS s s = true := by unfold sameS; simp
theorem crash_none (s : St) (i : Nat) (hi : i < s.ls.length) : (s.crash []).nw i = s.ls.getD i Sec.zero := by
  have e : (s.crash []).nw i = s.chosen [] i := by
    unfold St.crash fresh St.nw
    simp [List.getD, hi]
  rw [e, chosen_at]
  have : s.pickOf [] i % ((s.t i).length + 1) = 0 := by
    unfold St.pickOf pickAt
    split <;> simp
  rw [this]
  unfold St.at
  simp [List.getD]
/-- Alike, up to sector i. -/
def alikeTo (s t : St) (i : Nat) : Bool := decide (∀ k, k < i → s.ls.getD k Sec.zero = t.ls.getD k Sec.zero ∧ s.nw k = t.nw k)
theorem alikeTo_succ (s t : St) (i : Nat) : alikeTo s t (i + 1) = (alikeTo s t i && (decide (s.ls.getD i Sec.zero = t.ls.getD i Sec.zero) && decide (s.nw i = t.nw i))) := by
  unfold alikeTo
  rw [← Bool.decide_and, ← Bool.decide_and]
  congr 1
  refine propext ⟨fun h => ⟨fun k hk => h k (by omega), h i (by omega)⟩, fun ⟨h, h2⟩ k hk => ?_⟩
  by_cases e : k = i
  · rw [e]; exact h2
  · exact h k (by omega)
theorem alikeTo_same {s t : St} (h : s.ls.length = t.ls.length) : alikeTo s t s.ls.length = sameS s t := by
  unfold alikeTo sameS
  rw [← Bool.decide_and]
  congr 1
  refine propext ⟨fun h1 => ⟨List.ext_getElem h fun k h2 h3 => ?_, fun k hk => (h1 k hk).2⟩, fun ⟨h1, h2⟩ k hk => ⟨by rw [h1], h2 k hk⟩⟩
  have := (h1 k h2).1
  simpa [List.getD, h2, h3] using this
/-- A function is none that is not there. -/
theorem eq_nil_func (f : Go.Fn) (g bs : Array Value) (W : World) : (binOp .eql 43 (.func f g bs) .nilFunc).run Try.prog W = .ok (.bool false) W := by
  have h : (Op.equal 43 (.func f g bs) .nilFunc).run Try.prog W = .ok false W := by
    show (Op.equalIn (9999 + 1) _ _ _).run _ _ = _
    rw [Op.equalIn]
    simp [ Sem.run_bind, Try.underlying43, Result.andThen, go_sem]
  unfold binOp
  simp [Sem.run_bind, h, Result.andThen]

end Go.Proofs.Ytkoalabacfjgbaa
