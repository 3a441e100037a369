
/-
  A range over a function, where the body is told something of what comes (it holds in the world in which it comes), and what the iterator reads between two rounds are some blocks of cells. Over whatever program.
-/
import Derived.RangeFuncNested
import Derived.RangeFuncBound
import Derived.RangeFuncCalls
import Derived.RangeFuncLeaves
import Derived.Lib.Hide
namespace Go.Proofs.Ytiffbkgohlbgeaa
open Go.RowKit

/-- Cells, or a map. -/
def firm (o : Obj) : Bool := o.isCells || o.isWalk
/-- The blocks Ks lie as they lay, so far as they are of a kind. -/
structure HoldS (κ : Obj → Bool) (Ks : Nat → Prop) (W W' : World) : Prop where
  size : W.heap.size ≤ W'.heap.size
  same : ∀ k o, Ks k → W.heap[k]? = some o → κ o = true → W'.heap[k]? = some o
theorem HoldS.refl (κ : Obj → Bool) (Ks : Nat → Prop) (W : World) : HoldS κ Ks W W := ⟨Nat.le_refl _, fun _ _ _ h _ => h⟩
theorem HoldS.trans {κ : Obj → Bool} {Ks : Nat → Prop} {X Y Z : World} (h : HoldS κ Ks X Y) (k : HoldS κ Ks Y Z) : HoldS κ Ks X Z := ⟨Nat.le_trans h.size k.size, fun i o hi h1 hc => k.same i o hi (h.same i o hi h1 hc) hc⟩
theorem HoldS.put {κ : Obj → Bool} {Ks : Nat → Prop} (W : World) (l : Nat) (o o' : Obj) (h : W.heap[l]? = some o) (hc : κ o = false) : HoldS κ Ks W (W.putObj l o') := ⟨by simp, fun k u _ hk hu => by
  by_cases e : k = l
  · subst e; rw [h] at hk; cases hk; rw [hc] at hu; cases hu
  · exact (World.putObj_heap_other e).trans hk⟩
theorem HoldS.below {κ : Obj → Bool} {Ks : Nat → Prop} {n : Nat} {W W' : World} (g : Below n W W') (h : ∀ k, Ks k → k < n) (hs : W.heap.size ≤ W'.heap.size) : HoldS κ Ks W W' := ⟨hs, fun k _ hk h1 _ => (g.block k (h k hk)).trans h1⟩

/-- What an iterator gives: the elder contract, where G is told of what comes. -/
def SeqTold {α : Type} (F : Fence) (n : Nat) (P : Program) (g : Nat) (lb : Array Value) (encs : α → Array Value) (G : List α → α → World → Prop) (Ks : Nat → Prop) (S Sp : List α → Prop) (w : World) : Prop :=
  ∀ (l : Nat) (J Jx : List α → World → Prop) (W : World), Below w.heap.size w W → OwnFrom W.heap.size J → OwnFrom W.heap.size Jx →
    (∀ pre x V, J pre V → G pre x V → YieldAt F (n - 1) P l (encs x) V fun e V' => (e = .returned (.bool true) ∧ J (pre ++ [x]) V' ∧ HoldS firm Ks V V') ∨ (e = .returned (.bool false) ∧ Jx (pre ++ [x]) V')) →
    J [] W → CallsIn F n P g (#[.func (.yield l) #[] #[]] ++ lb) W fun e V => (∃ v, e = .returned v) ∧ ((∃ xs, S xs ∧ J xs V) ∨ ∃ pre, Sp pre ∧ Jx pre V)

/-- How a round may end: on, or by a return. -/
def toldPost {α : Type} (B : Nat) (Ks : Nat → Prop) (I Ir : List α → World → Prop) (xs : List α) (W : World) : Exit → Act → World → Prop
  | .normal, _, V => KeepsFrom B W V ∧ HoldS firm Ks W V ∧ I xs V
  | .ret, _, V => KeepsFrom B W V ∧ Ir xs V
  | _, _, _ => False

variable {F : Fence} {n : Nat} {P : Program} {w : World}

/-- The law of the loop. -/
theorem wpIn_range_told {α : Type} {g : Operand} {ps : Array Tmp} {assign body : Code} {Q : Exit → Act → World → Prop} {a : Act}
    (hro : F.round = none) (h1 : 1 ≤ n) {gf : Nat} {lb : Array Value} (hg : a.eval g = .func (.func gf) #[] lb) (hFg : F.fn gf) (eg : ∀ args w, (callFunc gf args).run P w = .ok (.enter gf args) w)
    {encs : α → Array Value} {G : List α → α → World → Prop} {Ks : Nat → Prop} {S Sp : List α → Prop} {w0 : World} (hseq : SeqTold F (n - 1) P gf lb encs G Ks S Sp w0)
    (hb0 : Below w0.heap.size w0 w) (hps : ∀ x, (encs x).size = ps.size)
    (I Ir : List α → World → Prop) (hI : OwnFrom w.heap.size I) (hIr : OwnFrom w.heap.size Ir) (h0 : I [] w) (Ax : List α → α → Act → World → Prop) (hAx : ∀ pre x b, OwnFrom w.heap.size (fun (_ : Unit) W => Ax pre x b W))
    (hassign : ∀ (l : Nat) (pre : List α) (x : α) (W : World) (K : Act → World → Prop), I pre W → G pre x W → (∀ b V, KeepsFrom w.heap.size W V → HoldS firm Ks W V → I pre V → Ax pre x b V → K b V) →
      assign.wpIn (F.inRound l) (n - 1 - 1) P (Exit.then K (fun _ _ _ => False)) { tmps := (ps.zip (encs x)).foldl (fun t (p, v) => t.setIfInBounds p v) a.tmps, defers := [] } W)
    (hbody : ∀ (l : Nat) (pre : List α) (x : α) (b : Act) (W : World), w.heap.size ≤ l → I pre W → Ax pre x b W → body.wpIn (F.inRound l) (n - 1 - 1) P (toldPost w.heap.size Ks I Ir (pre ++ [x]) W) b W)
    (hdone : ∀ (D : Nat) (xs : List α) (W : World), w.heap.size ≤ D → S xs → I xs W → W.heap[D]? = some (.deferred (some [])) → Q .normal { a with defers := { target := .collected D, args := #[] } :: a.defers } W)
    (hstop : ∀ (D : Nat) (pre : List α) (W : World), w.heap.size ≤ D → Sp pre → Ir pre W → W.heap[D]? = some (.deferred (some [])) → Code.ret.wpIn F n P Q { a with defers := { target := .collected D, args := #[] } :: a.defers } W) :
    (Code.rangeFunc g ps assign body).wpIn F n P Q a w := by
  refine wpIn_rangeFunc fun fn hfn => ?_
  rw [hro]
  -- the loop's record, as it is made and as it ends; the two blocks: B for what is deferred, B + 1 for the record
  obtain ⟨B, hB⟩ : ∃ B, B = w.heap.size := ⟨_, rfl⟩
  obtain ⟨rec, hrec⟩ : ∃ rec : LoopState → Option Code → Loop, rec = fun st pe => { state := st, pending := pe, fn, tmps := a.tmps, params := ps, assign, body, defers := w.heap.size } := ⟨_, rfl⟩
  obtain ⟨V, hV⟩ : ∃ V, V = (w.alloc (.deferred (some []))).alloc (.loop (rec .ready none)) := ⟨_, rfl⟩
  -- what is said of the world all the while
  let Bk : LoopState → Option Code → World → Prop := fun st pe W => W.heap[B + 1]? = some (.loop (rec st pe)) ∧ W.heap[B]? = some (.deferred (some []))
  have hVs : V.heap.size = B + 1 + 1 := by rw [hV, hB]; simp
  have hBk : Bk .ready none V := ⟨by rw [hV, hB]; have := World.alloc_heap_new (w.alloc (.deferred (some []))) (.loop (rec .ready none)); rwa [World.size_alloc] at this,
    by rw [hV, hB]; exact (Below.heap_alloc _ _ _ (by simp)).trans (World.alloc_heap_new w _)⟩
  have hIV : I [] V := by rw [hV]; exact hI.alloc _ (hI.alloc _ h0)
  have hbV : Below w0.heap.size w0 V := by rw [hV]; exact hb0.trans ((((Below.refl _ w).alloc (Nat.le_refl _) _).alloc (by simp) _).mono hb0.size)
  have keep : ∀ {st pe} {X Y : World} {row : Option Nat}, Bk st pe X → X.grownBy Y row → (∀ r, row = some r → V.heap.size ≤ r ∧ ∃ o : Obj, X.heap[r]? = some o ∧ o.isCells = false) → Bk st pe Y := fun h hg' hr =>
    ⟨(hg'.block _ (Array.getElem?_eq_some_iff.1 h.1).1 (fun e => by have := (hr _ e.symm).1; omega)).trans h.1, (hg'.block _ (Array.getElem?_eq_some_iff.1 h.2).1 (fun e => by have := (hr _ e.symm).1; omega)).trans h.2⟩
  have cells : ∀ {X : World} {row : Option Nat}, (∀ r, row = some r → V.heap.size ≤ r ∧ ∃ o : Obj, X.heap[r]? = some o ∧ o.isCells = false) → ∀ r, row = some r → w.heap.size ≤ r ∧ ∃ o : Obj, X.heap[r]? = some o ∧ o.isCells = false := fun hr r e => by
    obtain ⟨h2, ho⟩ := hr r e
    exact ⟨by omega, ho⟩
  have turn : ∀ {st pe} (st' : LoopState) (pe' : Option Code) {X : World}, Bk st pe X → Bk st' pe' (X.putObj (B + 1) (.loop (rec st' pe'))) := fun st' pe' X h =>
    ⟨World.putObj_heap_same (Array.getElem?_eq_some_iff.1 h.1).1, (World.putObj_heap_other (by omega)).trans h.2⟩
  refine ⟨B + 1, [{ target := .collected B, args := #[] }], V, { target := .fn (.func gf) lb, args := #[.func (.yield (B + 1)) #[] #[]] }, V, gf, #[.func (.yield (B + 1)) #[] #[]] ++ lb, V, ?_, ?_, ?_, ?_, fun _ => h1, ?_⟩
  · rw [hV, hB, hrec]; exact run_enterLoop_outer _ _ _ _ _
  · simp only [resolve, hg]
    simp [go_sem]
  · intro f' hf'; simp [Target.leads] at hf'; subst hf'; exact hFg
  · simp [invoke, go_sem, eg]
  refine (hseq (B + 1) (fun pre W => I pre W ∧ Bk .ready none W) (fun pre W => Ir pre W ∧ Bk .done (some .ret) W) V hbV
    (fun s X Y row h hg' hr => ⟨hI s X Y row h.1 hg' (cells hr), keep h.2 hg' hr⟩) (fun s X Y row h hg' hr => ⟨hIr s X Y row h.1 hg' (cells hr), keep h.2 hg' hr⟩) ?round ⟨hIV, hBk⟩).mono ?after
  case round =>
    rintro pre x W ⟨hi, hk⟩ hG
    have hy := run_yield (P := P) (args := encs x) hk.1 (by rw [hrec]; exact hps x)
    rw [hrec] at hy
    refine ⟨fn, _, assign, body, hy, roundIn_of_wpIn hfn (hassign _ pre x W _ hi hG fun b X hfx hsx hix hax => ?_)⟩
    have hkx : Bk .ready none X := ⟨hfx.same _ _ (by omega) hk.1 rfl, hfx.same _ _ (by omega) hk.2 rfl⟩
    refine ⟨_, run_beginRound hkx.1 (by rw [hrec]), ?_⟩
    have hk2 := turn .busy none hkx
    have e2 : ({ rec .ready none with state := .busy } : Loop) = rec .busy none := by rw [hrec]
    rw [e2]
    refine wpIn_mono (hbody _ pre x b _ (by omega) (hI.putObj _ hix (by omega) hkx.1 rfl) ((hAx pre x b).putObj (s := ()) _ hax (by omega) hkx.1 rfl)) ?_
    have fin : ∀ (jump : Option Code) (Y : World), KeepsFrom w.heap.size (X.putObj (B + 1) (.loop (rec .busy none))) Y → Bk .busy none Y ∧
        (Instr.endRound (B + 1) jump).run P Y = .ok (.bool jump.isNone) (Y.putObj (B + 1) (.loop (rec (if jump.isNone then .ready else .done) jump))) := fun jump Y hY => by
      have h3 : Bk .busy none Y := ⟨hY.same _ _ (by omega) hk2.1 rfl, hY.same _ _ (by omega) hk2.2 rfl⟩
      have h4 := run_endRound (P := P) jump h3.1
      rw [hrec] at h4 ⊢
      exact ⟨h3, h4⟩
    rintro e c Y hp
    cases e with
    | normal =>
      obtain ⟨hf, hs, hi3⟩ := hp
      obtain ⟨h3, hr⟩ := fin none Y hf
      exact ⟨_, _, hr, .inl ⟨rfl, ⟨hI.putObj _ hi3 (by omega) h3.1 rfl, turn .ready none h3⟩, hsx.trans ((HoldS.put _ _ _ _ hkx.1 rfl).trans (hs.trans (HoldS.put _ _ _ _ h3.1 rfl)))⟩⟩
    | ret =>
      obtain ⟨hf, hi3⟩ := hp
      obtain ⟨h3, hr⟩ := fin (some .ret) Y hf
      exact ⟨_, _, hr, .inr ⟨rfl, hIr.putObj _ hi3 (by omega) h3.1 rfl, turn .done (some .ret) h3⟩⟩
    | exit id => exact hp.elim
    | goto t => exact hp.elim
    | panic ch => exact hp.elim
    | outgrown => exact hp.elim
  case after =>
    rintro e W2 ⟨⟨v, rfl⟩, ⟨xs, hS, hi, hk⟩ | ⟨pre, hSp, hi, hk⟩⟩
    · have he := run_endLoop (P := P) hk.1 (by rw [hrec]; simp)
      rw [hrec] at he
      exact ⟨none, _, he, by rw [hB]; exact hdone _ xs _ (Nat.le_refl _) hS (by rw [← hB]; exact hI.putObj _ hi (by omega) hk.1 rfl) (by rw [← hB]; exact (World.putObj_heap_other (by omega)).trans hk.2)⟩
    · have he := run_endLoop (P := P) hk.1 (by rw [hrec]; simp)
      rw [hrec] at he
      exact ⟨some .ret, _, he, by rw [hB]; exact hstop _ pre _ (Nat.le_refl _) hSp (by rw [← hB]; exact hIr.putObj _ hi (by omega) hk.1 rfl) (by rw [← hB]; exact (World.putObj_heap_other (by omega)).trans hk.2)⟩

end Go.Proofs.Ytiffbkgohlbgeaa
