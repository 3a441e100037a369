/-
  Texts on locks, put together: Told Lk53 Lk54.
-/
import Derived.RangeFuncNested
import Derived.RangeFuncBound
import Derived.RangeFuncCalls
import Derived.RangeFuncLeaves
import Derived.Lib.Hide
import Derived.LoopNIn
import Derived.LoopIn
import Derived.TacticsInMore
import Derived.OwnWalkIn
import Derived.Stop.RegionWithIn
import Derived.Test.YtbmcdlcoojmppaaA17
import Derived.Test.YtbmcdlcoojmppaaA19
import Derived.Test.YtbmcdlcoojmppaaA24
import Derived.Test.YtbmcdlcoojmppaaA28
/-
  A range over a function, where the body is told something of what comes (it holds in the world in which it comes), and what the iterator reads between two rounds are some blocks of cells. Over whatever program.
-/
namespace Go.Proofs.Ytbmcdlcoojmppaa
open Go.RowKit

/-- Cells, or a map. -/
def firm (o : Obj) : Bool := o.isCells || o.isWalk
/-- The blocks Ks lie as they lay, so far as they are of a kind. -/
structure HoldS (κ : Obj → Bool) (Ks : Nat → Prop) (W W' : World) : Prop where
  size : W.heap.size ≤ W'.heap.size
  same : ∀ k o, Ks k → W.heap[k]? = some o → κ o = true → W'.heap[k]? = some o
theorem HoldS.refl (κ : Obj → Bool) (Ks : Nat → Prop) (W : World) : HoldS κ Ks W W := ⟨Nat.le_refl _, fun _ _ _ h _ => h⟩
theorem HoldS.trans {κ : Obj → Bool} {Ks : Nat → Prop} {X Y Z : World} (h : HoldS κ Ks X Y) (k : HoldS κ Ks Y Z) : HoldS κ Ks X Z := ⟨Nat.le_trans h.size k.size, fun i o hi h1 hc => k.same i o hi (h.same i o hi h1 hc) hc⟩
theorem HoldS.put {κ : Obj → Bool} {Ks : Nat → Prop} (W : World) (l : Nat) (o o' : Obj) (h : W.heap[l]? = some o) (hc : κ o = false) : HoldS κ Ks W (W.putObj l o') := ⟨by simp, fun k u _ hk hu => by
  by_cases e : k = l
  · subst e; rw [h] at hk; cases hk; rw [hc] at hu; cases hu
  · exact (World.putObj_heap_other e).trans hk⟩
theorem HoldS.below {κ : Obj → Bool} {Ks : Nat → Prop} {n : Nat} {W W' : World} (g : Below n W W') (h : ∀ k, Ks k → k < n) (hs : W.heap.size ≤ W'.heap.size) : HoldS κ Ks W W' := ⟨hs, fun k _ hk h1 _ => (g.block k (h k hk)).trans h1⟩

/-- What an iterator gives: the elder contract, where G is told of what comes. -/
def SeqTold {α : Type} (F : Fence) (n : Nat) (P : Program) (g : Nat) (lb : Array Value) (encs : α → Array Value) (G : List α → α → World → Prop) (Ks : Nat → Prop) (S Sp : List α → Prop) (w : World) : Prop :=
  ∀ (l : Nat) (J Jx : List α → World → Prop) (W : World), Below w.heap.size w W → OwnFrom W.heap.size J → OwnFrom W.heap.size Jx →
    (∀ pre x V, J pre V → G pre x V → YieldAt F (n - 1) P l (encs x) V fun e V' => (e = .returned (.bool true) ∧ J (pre ++ [x]) V' ∧ HoldS firm Ks V V') ∨ (e = .returned (.bool false) ∧ Jx (pre ++ [x]) V')) →
    J [] W → CallsIn F n P g (#[.func (.yield l) #[] #[]] ++ lb) W fun e V => (∃ v, e = .returned v) ∧ ((∃ xs, S xs ∧ J xs V) ∨ ∃ pre, Sp pre ∧ Jx pre V)

/-- How a round may end: on, or by a return. -/
def toldPost {α : Type} (B : Nat) (Ks : Nat → Prop) (I Ir : List α → World → Prop) (xs : List α) (W : World) : Exit → Act → World → Prop
  | .normal, _, V => KeepsFrom B W V ∧ HoldS firm Ks W V ∧ I xs V
  | .ret, _, V => KeepsFrom B W V ∧ Ir xs V
  | _, _, _ => False

variable {F : Fence} {n : Nat} {P : Program} {w : World}

/-- The law of the loop. -/
theorem wpIn_range_told {α : Type} {g : Operand} {ps : Array Tmp} {assign body : Code} {Q : Exit → Act → World → Prop} {a : Act}
    (hro : F.round = none) (h1 : 1 ≤ n) {gf : Nat} {lb : Array Value} (hg : a.eval g = .func (.func gf) #[] lb) (hFg : F.fn gf) (eg : ∀ args w, (callFunc gf args).run P w = .ok (.enter gf args) w)
    {encs : α → Array Value} {G : List α → α → World → Prop} {Ks : Nat → Prop} {S Sp : List α → Prop} {w0 : World} (hseq : SeqTold F (n - 1) P gf lb encs G Ks S Sp w0)
    (hb0 : Below w0.heap.size w0 w) (hps : ∀ x, (encs x).size = ps.size)
    (I Ir : List α → World → Prop) (hI : OwnFrom w.heap.size I) (hIr : OwnFrom w.heap.size Ir) (h0 : I [] w) (Ax : List α → α → Act → World → Prop) (hAx : ∀ pre x b, OwnFrom w.heap.size (fun (_ : Unit) W => Ax pre x b W))
    (hassign : ∀ (l : Nat) (pre : List α) (x : α) (W : World) (K : Act → World → Prop), I pre W → G pre x W → (∀ b V, KeepsFrom w.heap.size W V → HoldS firm Ks W V → I pre V → Ax pre x b V → K b V) →
      assign.wpIn (F.inRound l) (n - 1 - 1) P (Exit.then K (fun _ _ _ => False)) { tmps := (ps.zip (encs x)).foldl (fun t (p, v) => t.setIfInBounds p v) a.tmps, defers := [] } W)
    (hbody : ∀ (l : Nat) (pre : List α) (x : α) (b : Act) (W : World), w.heap.size ≤ l → I pre W → Ax pre x b W → body.wpIn (F.inRound l) (n - 1 - 1) P (toldPost w.heap.size Ks I Ir (pre ++ [x]) W) b W)
    (hdone : ∀ (D : Nat) (xs : List α) (W : World), w.heap.size ≤ D → S xs → I xs W → W.heap[D]? = some (.deferred (some [])) → Q .normal { a with defers := { target := .collected D, args := #[] } :: a.defers } W)
    (hstop : ∀ (D : Nat) (pre : List α) (W : World), w.heap.size ≤ D → Sp pre → Ir pre W → W.heap[D]? = some (.deferred (some [])) → Code.ret.wpIn F n P Q { a with defers := { target := .collected D, args := #[] } :: a.defers } W) :
    (Code.rangeFunc g ps assign body).wpIn F n P Q a w := by
  refine wpIn_rangeFunc fun fn hfn => ?_
  rw [hro]
  -- the loop's record, as it is made and as it ends; the two blocks: B for what is deferred, B + 1 for the record
  obtain ⟨B, hB⟩ : ∃ B, B = w.heap.size := ⟨_, rfl⟩
  obtain ⟨rec, hrec⟩ : ∃ rec : LoopState → Option Code → Loop, rec = fun st pe => { state := st, pending := pe, fn, tmps := a.tmps, params := ps, assign, body, defers := w.heap.size } := ⟨_, rfl⟩
  obtain ⟨V, hV⟩ : ∃ V, V = (w.alloc (.deferred (some []))).alloc (.loop (rec .ready none)) := ⟨_, rfl⟩
  -- what is said of the world all the while
  let Bk : LoopState → Option Code → World → Prop := fun st pe W => W.heap[B + 1]? = some (.loop (rec st pe)) ∧ W.heap[B]? = some (.deferred (some []))
  have hVs : V.heap.size = B + 1 + 1 := by rw [hV, hB]; simp
  have hBk : Bk .ready none V := ⟨by rw [hV, hB]; have := World.alloc_heap_new (w.alloc (.deferred (some []))) (.loop (rec .ready none)); rwa [World.size_alloc] at this,
    by rw [hV, hB]; exact (Below.heap_alloc _ _ _ (by simp)).trans (World.alloc_heap_new w _)⟩
  have hIV : I [] V := by rw [hV]; exact hI.alloc _ (hI.alloc _ h0)
  have hbV : Below w0.heap.size w0 V := by rw [hV]; exact hb0.trans ((((Below.refl _ w).alloc (Nat.le_refl _) _).alloc (by simp) _).mono hb0.size)
  have keep : ∀ {st pe} {X Y : World} {row : Option Nat}, Bk st pe X → X.grownBy Y row → (∀ r, row = some r → V.heap.size ≤ r ∧ ∃ o : Obj, X.heap[r]? = some o ∧ o.isCells = false) → Bk st pe Y := fun h hg' hr =>
    ⟨(hg'.block _ (Array.getElem?_eq_some_iff.1 h.1).1 (fun e => by have := (hr _ e.symm).1; omega)).trans h.1, (hg'.block _ (Array.getElem?_eq_some_iff.1 h.2).1 (fun e => by have := (hr _ e.symm).1; omega)).trans h.2⟩
  have cells : ∀ {X : World} {row : Option Nat}, (∀ r, row = some r → V.heap.size ≤ r ∧ ∃ o : Obj, X.heap[r]? = some o ∧ o.isCells = false) → ∀ r, row = some r → w.heap.size ≤ r ∧ ∃ o : Obj, X.heap[r]? = some o ∧ o.isCells = false := fun hr r e => by
    obtain ⟨h2, ho⟩ := hr r e
    exact ⟨by omega, ho⟩
  have turn : ∀ {st pe} (st' : LoopState) (pe' : Option Code) {X : World}, Bk st pe X → Bk st' pe' (X.putObj (B + 1) (.loop (rec st' pe'))) := fun st' pe' X h =>
    ⟨World.putObj_heap_same (Array.getElem?_eq_some_iff.1 h.1).1, (World.putObj_heap_other (by omega)).trans h.2⟩
  refine ⟨B + 1, [{ target := .collected B, args := #[] }], V, { target := .fn (.func gf) lb, args := #[.func (.yield (B + 1)) #[] #[]] }, V, gf, #[.func (.yield (B + 1)) #[] #[]] ++ lb, V, ?_, ?_, ?_, ?_, fun _ => h1, ?_⟩
  · rw [hV, hB, hrec]; exact run_enterLoop_outer _ _ _ _ _
  · simp only [resolve, hg]
    simp [go_sem]
  · intro f' hf'; simp [Target.leads] at hf'; subst hf'; exact hFg
  · simp [invoke, go_sem, eg]
  refine (hseq (B + 1) (fun pre W => I pre W ∧ Bk .ready none W) (fun pre W => Ir pre W ∧ Bk .done (some .ret) W) V hbV
    (fun s X Y row h hg' hr => ⟨hI s X Y row h.1 hg' (cells hr), keep h.2 hg' hr⟩) (fun s X Y row h hg' hr => ⟨hIr s X Y row h.1 hg' (cells hr), keep h.2 hg' hr⟩) ?round ⟨hIV, hBk⟩).mono ?after
  case round =>
    rintro pre x W ⟨hi, hk⟩ hG
    have hy := run_yield (P := P) (args := encs x) hk.1 (by rw [hrec]; exact hps x)
    rw [hrec] at hy
    refine ⟨fn, _, assign, body, hy, roundIn_of_wpIn hfn (hassign _ pre x W _ hi hG fun b X hfx hsx hix hax => ?_)⟩
    have hkx : Bk .ready none X := ⟨hfx.same _ _ (by omega) hk.1 rfl, hfx.same _ _ (by omega) hk.2 rfl⟩
    refine ⟨_, run_beginRound hkx.1 (by rw [hrec]), ?_⟩
    have hk2 := turn .busy none hkx
    have e2 : ({ rec .ready none with state := .busy } : Loop) = rec .busy none := by rw [hrec]
    rw [e2]
    refine wpIn_mono (hbody _ pre x b _ (by omega) (hI.putObj _ hix (by omega) hkx.1 rfl) ((hAx pre x b).putObj (s := ()) _ hax (by omega) hkx.1 rfl)) ?_
    have fin : ∀ (jump : Option Code) (Y : World), KeepsFrom w.heap.size (X.putObj (B + 1) (.loop (rec .busy none))) Y → Bk .busy none Y ∧
        (Instr.endRound (B + 1) jump).run P Y = .ok (.bool jump.isNone) (Y.putObj (B + 1) (.loop (rec (if jump.isNone then .ready else .done) jump))) := fun jump Y hY => by
      have h3 : Bk .busy none Y := ⟨hY.same _ _ (by omega) hk2.1 rfl, hY.same _ _ (by omega) hk2.2 rfl⟩
      have h4 := run_endRound (P := P) jump h3.1
      rw [hrec] at h4 ⊢
      exact ⟨h3, h4⟩
    rintro e c Y hp
    cases e with
    | normal =>
      obtain ⟨hf, hs, hi3⟩ := hp
      obtain ⟨h3, hr⟩ := fin none Y hf
      exact ⟨_, _, hr, .inl ⟨rfl, ⟨hI.putObj _ hi3 (by omega) h3.1 rfl, turn .ready none h3⟩, hsx.trans ((HoldS.put _ _ _ _ hkx.1 rfl).trans (hs.trans (HoldS.put _ _ _ _ h3.1 rfl)))⟩⟩
    | ret =>
      obtain ⟨hf, hi3⟩ := hp
      obtain ⟨h3, hr⟩ := fin (some .ret) Y hf
      exact ⟨_, _, hr, .inr ⟨rfl, hIr.putObj _ hi3 (by omega) h3.1 rfl, turn .done (some .ret) h3⟩⟩
    | exit id => exact hp.elim
    | goto t => exact hp.elim
    | panic ch => exact hp.elim
    | outgrown => exact hp.elim
  case after =>
    rintro e W2 ⟨⟨v, rfl⟩, ⟨xs, hS, hi, hk⟩ | ⟨pre, hSp, hi, hk⟩⟩
    · have he := run_endLoop (P := P) hk.1 (by rw [hrec]; simp)
      rw [hrec] at he
      exact ⟨none, _, he, by rw [hB]; exact hdone _ xs _ (Nat.le_refl _) hS (by rw [← hB]; exact hI.putObj _ hi (by omega) hk.1 rfl) (by rw [← hB]; exact (World.putObj_heap_other (by omega)).trans hk.2)⟩
    · have he := run_endLoop (P := P) hk.1 (by rw [hrec]; simp)
      rw [hrec] at he
      exact ⟨some .ret, _, he, by rw [hB]; exact hstop _ pre _ (Nat.le_refl _) hSp (by rw [← hB]; exact hIr.putObj _ hi (by omega) hk.1 rfl) (by rw [← hB]; exact (World.putObj_heap_other (by omega)).trans hk.2)⟩

end Go.Proofs.Ytbmcdlcoojmppaa

/-
  What Held's function tells.
-/
namespace Go.Proofs.Ytbmcdlcoojmppaa
open Go.RowKit Go.Maps

/-- The blocks that Held's function reads between two rounds. -/
def hKs (kb mb : Nat) (kv' mv : Value) : Nat → Prop := fun k => k = kb ∨ k = mb ∨ kv'.ownBlock = some k ∨ mv.ownBlock = some k
theorem ownsRow_hold {w w' : World} {base e size n : Nat} {v : Value} {xs : List Value} {Ks : Nat → Prop} (h : w.ownsRow base e size v n xs) (g : HoldS firm Ks w w') (hk : ∀ k, v.ownBlock = some k → Ks k) : w'.ownsRow base e size v n xs := by
  refine ⟨h.1, ?_⟩
  rcases h.2 with h0 | ⟨q, cap, cur, h0, hb, hc, h3⟩
  · exact .inl h0
  · exact .inr ⟨q, cap, cur, h0, hb, g.same q _ (hk q (by rw [h0]; rfl)) hc rfl, h3⟩
theorem HeldAt.held {w0 w w' : World} {kb mb : Nat} {kv' mv : Value} {ks : List Key} {ms : List Int} (H : HeldAt w0 w kb mb kv' mv ks ms) (g : HoldS firm (hKs kb mb kv' mv) w w') : HeldAt w0 w' kb mb kv' mv ks ms :=
  ⟨g.same kb _ (.inl rfl) H.bk rfl, g.same mb _ (.inr (.inl rfl)) H.bm rfl, ownsRow_hold H.rk g (fun k e => .inr (.inr (.inl e))), ownsRow_hold H.rm g (fun k e => .inr (.inr (.inr e))), H.kl, H.ml⟩
theorem gr_holds {κ : Obj → Bool} {Ks : Nat → Prop} {W W' : World} (g : Gr W W') : HoldS κ Ks W W' := ⟨g.size, fun k _ _ h1 _ => (g.block k (Array.getElem?_eq_some_iff.1 h1).1).trans h1⟩
/-- How a round ends: on, or not. -/
def RetYield (A B : World → Prop) (e : Ending) (V : World) : Prop := ∃ b : Bool, e = .returned (.bool b) ∧ (b = true → A V) ∧ (b = false → B V)
/-- What is told: a key and its mode. -/
def encK (x : Key × Int) : Array Value := #[kv x.1, .int .i64 x.2]

set_option maxRecDepth 100000 in
set_option maxHeartbeats 4000000 in
theorem held1_told (n : Nat) (hn : 2 ≤ n) {w0 w : World} {kb mb : Nat} {kv' mv : Value} {ks : List Key} {ms : List Int} (h : HeldAt w0 w kb mb kv' mv ks ms) (hl : ms.length = ks.length) (hb : ks.length ≤ 1000000) :
    SeqTold Fence.wide n Try.prog 36 #[.pointer (some ⟨kb, 0, none⟩), .pointer (some ⟨mb, 0, none⟩)] encK (fun pre x _ => (ks.zip ms)[pre.length]? = some x) (hKs kb mb kv' mv) (fun ys => ys = ks.zip ms) (fun _ => True) w := fun l J Jx W hW hJ hJx hY h0 => by
  have h1 : 1 ≤ n := by omega
  have HJ := Lib.hid hJ
  have HY := Lib.hid hY
  have H0 := Lib.hid h0
  have HD := Lib.hid (h.held (gr_holds hW))
  obtain ⟨p, cap, hkf, -⟩ := h.rk.form
  subst hkf
  obtain ⟨q, cap2, hmf⟩ : ∃ q cap2, mv = .slice q ms.length cap2 := by
    rcases (show World.ownsRow w w0.heap.size TMd 1 mv ms.length _ from h.rm).2 with ⟨h0, h1⟩ | ⟨g, _, _, h0, _⟩
    · exact ⟨_, _, by rw [h0, h1]⟩
    · exact ⟨_, _, h0⟩
  subst hmf
  rw [hl] at HD HY
  obtain ⟨N, hN⟩ : ∃ N, N = ks.length := ⟨_, rfl⟩
  rw [← hN] at HD HY hb
  have HN := Lib.hid (And.intro hN hl)
  clear hW hJ hJx hY h0 h hl hN
  refine callsIn_of_wp Try.func36 rfl trivial ?_ rfl
  simp only [Try.ntmps36, List.size_toArray, List.length_cons, List.length_nil, Nat.reduceAdd, Nat.reduceSub, Array.replicate_succ, Array.replicate_zero, List.push_toArray, List.append_toArray, List.nil_append, List.cons_append]
  have c0 := HD.out.bk.cell 0
  simp at c0
  gi_wp2_with fail
  clear c0
  gi_loopw [8] (fun iv wr => ∃ (j : Nat), j ≤ N ∧ iv = .int .i64 j ∧ Hid (HeldAt w0 wr kb mb (.slice p N cap) (.slice q N cap2) ks ms ∧ J ((ks.zip ms).take j) wr)) (fun iv _ => N - (intOf iv).toNat)
  case atStart => exact ⟨0, Nat.zero_le _, rfl, Lib.hid ⟨HD.out, H0.out⟩⟩
  case round =>
    obtain ⟨j, hj, rfl, hh⟩ := hrel
    by_cases hlt : j < N
    · have hjl : j < ks.length := by have := HN.out.1; omega
      obtain ⟨g, hpg, -, -, k0, k1⟩ := Kr.at' hh.out.1.rk j hjl
      obtain ⟨X, hX⟩ : ∃ X, X = ks.getD j (0, 0) := ⟨_, rfl⟩
      rw [← hX] at k0 k1
      obtain ⟨x1, x2⟩ := X
      have g6 : Gr wr (wr.alloc (.cells #[.int .i64 x1, .int .i64 x2] TKey)) := (Gr.refl _).alloc (Nat.le_refl _) _
      have k6 := Blk.new wr TKey #[.int .i64 x1, .int .i64 x2]
      obtain ⟨W6, hW6⟩ : ∃ W6, W6 = wr.alloc (.cells #[.int .i64 x1, .int .i64 x2] TKey) := ⟨_, rfl⟩
      rw [← hW6] at g6 k6
      obtain ⟨xb, hxb⟩ : ∃ xb, xb = wr.heap.size := ⟨_, rfl⟩
      rw [← hxb] at k6
      have g6d : Gr wr W6.drew := Gr.trans g6 (Gr.refl _).drew
      have hH := hh.out.1.held (gr_holds g6d)
      have hJ6 : J ((ks.zip ms).take j) W6.drew := HJ.out _ _ _ none hh.out.2 ⟨g6d.os, g6d.tape, g6d.output, g6d.size, fun k hk _ => g6d.block k hk⟩ (fun r e => by cases e)
      obtain ⟨gm, hqg⟩ : ∃ gm, q = some ⟨gm, 0, none⟩ := by
        rcases (show World.ownsRow W6.drew w0.heap.size TMd 1 _ ms.length _ from hH.rm).2 with ⟨h0, h1⟩ | ⟨g, _, _, h0, _⟩
        · have := HN.out; omega
        · cases h0; exact ⟨g, rfl⟩
      subst hqg hpg
      have hml : N = ms.length := by have := HN.out; omega
      have q5 := Ms.cellAt hH.rm hml j hlt
      have q1 := hH.bm.cell 0
      have q2 := (k6.gr (Gr.refl _).drew).cell 0
      have q3 := (k6.gr (Gr.refl _).drew).cell 1
      simp at q1 q2 q3
      have hZ : (ks.zip ms)[((ks.zip ms).take j).length]? = some ((x1, x2), ms.getD j 0) := by
        rw [List.length_take, List.length_zip, Nat.min_eq_left (by have := HN.out; omega), List.getElem?_eq_getElem (by rw [List.length_zip]; have := HN.out; omega), List.getElem_zip, hX]
        simp [List.getD, hjl, show j < ms.length by omega]
      have hZ2 : (ks.zip ms).take (j + 1) = (ks.zip ms).take j ++ [((x1, x2), ms.getD j 0)] := by
        have hz : j < (ks.zip ms).length := by rw [List.length_zip]; have := HN.out; omega
        rw [List.take_succ_eq_append_getElem hz]
        rw [List.length_take, Nat.min_eq_left (by omega), List.getElem?_eq_getElem hz] at hZ
        rw [Option.some.inj hZ]
      obtain ⟨MD, hMD⟩ : ∃ MD, MD = ms.getD j 0 := ⟨_, rfl⟩
      rw [← hMD] at q5 hZ hZ2
      obtain ⟨fn, tmps, assign, body, hyl, hR⟩ := HY.out _ _ W6.drew hJ6 hZ
      dsimp only [encK, kv] at hyl
      have HR := Lib.hid (RoundIn.mono hR (R' := RetYield (fun V => J ((ks.zip ms).take (j + 1)) V ∧ HoldS firm (hKs kb mb (.slice (some ⟨g, 0, none⟩) N cap) (.slice (some ⟨gm, 0, none⟩) N cap2)) W6.drew V) (fun V => Jx ((ks.zip ms).take (j + 1)) V)) (fun e V h => by
        rcases h with ⟨rfl, a, b⟩ | ⟨rfl, a⟩
        · exact ⟨true, rfl, fun _ => ⟨by rw [hZ2]; exact a, b⟩, fun e => by cases e⟩
        · exact ⟨false, rfl, fun e => (by cases e), fun _ => by rw [hZ2]; exact a⟩))
      have HH6 := Lib.hid (And.intro hH (And.intro hW6 (And.intro hxb hZ2)))
      have hNb : N ≤ 1000000000 := by omega
      clear hR hH hJ6 hZ hZ2 hMD hml hW6 hxb g6d g6 k6 hjl hX hh HY HD H0 hb
      gi_wp2_with fail
      rw [show (wr.alloc (.cells #[.int .i64 x1, .int .i64 x2] 29)) = W6 from HH6.out.2.1.symm, ← HH6.out.2.2.1]
      gi_region_with ((refine HR.out.mono ?_; rintro e V' ⟨b, rfl, hb⟩; have HB := Lib.hid hb; clear hb))
      all_goals
        cases b
        · gi_wp2_with fail
          refine bodyPost_ret (results_none rfl _ _ _) rfl ?_
          exact ⟨⟨_, rfl⟩, .inr (Exists.intro _ (HB.out.2 (by simp)))⟩
        · have hh3 : Hid (HeldAt w0 V' kb mb (.slice (some ⟨g, 0, none⟩) N cap) (.slice (some ⟨gm, 0, none⟩) N cap2) ks ms ∧ J ((ks.zip ms).take (j + 1)) V') := Lib.hid ⟨HH6.out.1.held (HB.out.1 (by simp)).2, (HB.out.1 (by simp)).1⟩
          clear HB HH6 HR hyl
          gi_wp2_with fail
          go_roundw
          case rel => exact ⟨j + 1, by omega, by go_num, hh3⟩
          case measure => simp [intOf]; omega
    · obtain rfl : j = N := by omega
      gi_wp2_with fail
      go_end0
      exact ⟨⟨_, rfl⟩, .inl ⟨_, List.take_of_length_le (by rw [List.length_zip]; have := HN.out; omega), hh.out.2⟩⟩

end Go.Proofs.Ytbmcdlcoojmppaa

/-
  The law LockHolds: how it stands while acts go in.
-/
namespace Go.Proofs.Ytbmcdlcoojmppaa
open Go.RowKit Go.Maps

theorem ready_oo_mem {X : Key → Prop} {T : Tb} (h : InvX X T) (o : Nat) (k : Key) (q : Nat) (hq : q ∈ (T.ready o k).oo) : q = o ∨ q ∈ T.oo := by
  refine (made_oo_mem h o q).1 ?_
  unfold Tb.ready Tb.locked at hq
  cases e : (T.made o).lk k <;> rw [e] at hq <;> exact hq
theorem ask_oo {T : Tb} (h : Inv T) (o : Nat) (k : Key) (m : Int) (R : Bool) : ∀ q, q ∈ (T.ask o k m R).2.oo → q = o ∨ q ∈ T.oo := by
  intro q
  unfold Tb.ask
  split
  · exact .inr
  split
  · exact .inr
  split
  · exact .inr
  split
  · exact .inr
  split
  · exact .inr
  split
  · exact fun hq => ready_oo_mem h o k q hq
  split
  · exact .inr
  · exact fun hq => (made_oo_mem h o q).1 hq
theorem freed_oo {T : Tb} (h : Inv T) (o : Nat) (ho : T.oo.length ≤ 10000) (hk : T.kk.length ≤ 10000) : ∀ q, q ∈ (T.freed o).oo → q ∈ T.oo := by
  obtain ⟨a, b, c, d⟩ := nexts_inv (T.fks o) (fun k => k ∈ T.fks o) (T.lv o) (lv_inv h o) (fks_nodup h o) (fun _ e => e) (fun k e => ⟨e, (fks_some h o e).1, (fks_some h o e).2⟩)
    (by rw [lv_oo]; exact Nat.le_trans (delK_len _ _) ho) (by rw [lv_kk]; exact hk)
  intro q hq
  unfold Tb.freed at hq
  rw [c, lv_oo, mem_delK] at hq
  exact hq.1
theorem sumN_snoc (f : Nat → Nat) : ∀ (L : List Nat) (a : Nat), sumN f (L ++ [a]) = sumN f L + f a
  | [], a => by simp [sumN]
  | b :: r, a => by
    show f b + sumN f (r ++ [a]) = f b + sumN f r + f a
    rw [sumN_snoc f r a]
    omega
theorem sumN_take (f : Nat → Nat) (L : List Nat) (i : Nat) (hi : i < L.length) : sumN f (L.take (i + 1)) = sumN f (L.take i) + f (L.getD i 0) := by
  rw [List.take_succ_eq_append_getElem hi, sumN_snoc]
  simp [List.getD, hi]

theorem step_app_run {ops : Array Oper} {o : Oper} {a : Act} {w w' : World} {K : Act → World → Prop} {Q : Exit → Act → World → Prop} {E : Prop} (hg : o.guard = none) (s x : Operand) {t : TypeId} (ho : o.op = .call { callee := .builtin .append, args := #[s, x], argTypes := #[t, t] })
    {vs vx v' : Value} (hs : a.eval s = vs) (hx : a.eval x = vx) (hr : (Builtin.append_ #[t, t] o.type #[vs, vx]).run Try.prog w = .ok v' w') (h : K (a.put o.dst v') w') :
    if Region.wanted o (yielded ops a.tmps) = true then Oper.wp Try.prog o a w K Q else E := by
  have hw : Region.wanted o (yielded ops a.tmps) = true := by simp [Region.wanted, hg]
  rw [if_pos hw]
  unfold Oper.wp execOp
  simp only [ho, resolve, invoke, builtin, Sem.run_bind, Sem.run_pure, Result.andThen_ok, List.map_toArray, List.map_cons, List.map_nil, hs, hx, hr]
  exact h
abbrev TBl : TypeId := 4
abbrev TPt : TypeId := 24
/-- How it stands so many acts in: e are the owners that are not yet in the law's own row. -/
structure HlAt (w0 w : World) (t km om rb vb ob : Nat) (B : Tag → Option Nat) (T : Tb) (ow : List Nat) (ov : Value) (e : List Nat) (j : Nat) : Prop where
  tb : TbAt w t km om B T
  inv : Inv T
  ol : T.oo.length ≤ j
  kl : T.kk.length ≤ j
  sub : ∀ x, x ∈ T.oo → x ∈ ow ∨ x ∈ e
  nd : ow.Nodup
  lo : ow.length ≤ j
  dm : ∀ x, x ∈ ow → KO.dom x
  br : Blk w rb TBl #[.bool false]
  bv : Blk w vb TPt #[.pointer (some ⟨t, 0, none⟩)]
  bo : Blk w ob TUs #[ov]
  us : Us w w0.heap.size ov ow
  fw : ∀ n, FB B n → w0.heap.size ≤ n
  gr : Gr w0 w
  ge : w0.heap.size ≤ rb ∧ w0.heap.size ≤ vb ∧ w0.heap.size ≤ ob
section
variable {w0 w w' : World} {t km om rb vb ob o j : Nat} {B : Tag → Option Nat} {T : Tb} {ow e : List Nat} {ov : Value}
theorem HlAt.more (h : HlAt w0 w t km om rb vb ob B T ow ov e j) (g : Gr w w') : HlAt w0 w' t km om rb vb ob B T ow ov e j :=
  { h with tb := h.tb.gr g, br := h.br.gr g, bv := h.bv.gr g, bo := h.bo.gr g, us := h.us.gr g, gr := Gr.trans h.gr g }
theorem HlAt.turned (h : HlAt w0 w t km om rb vb ob B T ow ov [] j) {B' : Tag → Option Nat} {T' : Tb} (r : TbAt w' t km om B' T') (n : Tn w w' B B') (hi : Inv T') (h1 : T'.oo.length ≤ j + 1) (h2 : T'.kk.length ≤ j + 1) (h3 : ∀ q, q ∈ T'.oo → q = o ∨ q ∈ T.oo) :
    HlAt w0 w' t km om rb vb ob B' T' ow ov [o] (j + 1) := by
  obtain ⟨a, b⟩ := n.from0 h.gr h.fw
  have far : ∀ {g : Nat} {cs : Array Value} {ty : TypeId}, Blk w g ty cs → ty ≠ TTb → ty ≠ TLk → ty ≠ TPy → ty ≠ TWt → Blk w' g ty cs := fun hb q1 q2 q3 q4 => n.blk hb (h.tb.far_ty hb q1 q2 q3 q4)
  have hsub : ∀ x, x ∈ T'.oo → x ∈ ow ∨ x ∈ [o] := fun x hx => by
    rcases h3 x hx with e | e
    · exact .inr (by simp [e])
    · rcases h.sub x e with e | e
      · exact .inl e
      · cases e
  exact ⟨r, hi, h1, h2, hsub, h.nd, Nat.le_succ_of_le h.lo, h.dm, far h.br (by decide) (by decide) (by decide) (by decide), far h.bv (by decide) (by decide) (by decide) (by decide), far h.bo (by decide) (by decide) (by decide) (by decide), h.us.tn n (h.us.far h.tb), b, a, h.ge⟩
theorem HlAt.asked (h : HlAt w0 w t km om rb vb ob B T ow ov [] j) (hj : j ≤ 60) (ho : KO.dom o) {k : Key} (hk : KL.dom k) {m : Int} {x : Ending} (r : RetAskI t km om B T o k m w x w') :
    ∃ B' T' c, x = .returned (.int .i64 c) ∧ HlAt w0 w' t km om rb vb ob B' T' ow ov [o] (j + 1) := by
  obtain ⟨R, hR, B', rfl, r1, r2⟩ := r
  obtain ⟨i1, i2, i3⟩ := ask_inv (k := k) (m := m) (R := R) h.inv ho hk (fun e1 e2 e3 => by
    have := (hR e1).2 e3
    rw [e2] at this
    cases this)
  exact ⟨B', _, _, rfl, h.turned r1 r2 i1 (by have := h.ol; omega) (by have := h.kl; omega) (ask_oo h.inv o k m R)⟩
theorem HlAt.freed (h : HlAt w0 w t km om rb vb ob B T ow ov [] j) (hj : j ≤ 60) {x : Ending} (r : RetFree t km om B (T.freed o) (T.came o) w x w') :
    ∃ v B' T', x = .returned v ∧ HlAt w0 w' t km om rb vb ob B' T' ow ov [o] (j + 1) := by
  obtain ⟨v, B', rfl, -, r1, r2, -⟩ := r
  have hol := h.ol
  have hkl := h.kl
  obtain ⟨i1, i2, i3⟩ := freed_inv h.inv o (by omega) (by omega)
  exact ⟨v, B', _, rfl, h.turned r1 r2 i1 (by omega) (by omega) (fun q hq => .inr (freed_oo h.inv o (by omega) (by omega) q hq))⟩
theorem HlAt.had (h : HlAt w0 w t km om rb vb ob B T ow ov [o] j) (ho : o ∈ ow) : HlAt w0 w t km om rb vb ob B T ow ov [] j :=
  have hs : ∀ x, x ∈ T.oo → x ∈ ow ∨ x ∈ [] := fun x hx => by
    rcases h.sub x hx with e | e
    · exact .inl e
    · simp at e
      exact .inl (by rw [e]; exact ho)
  { h with sub := hs }
theorem HlAt.app (h : HlAt w0 w t km om rb vb ob B T ow ov [o] (j + 1)) (hl : ow.length ≤ j) (hj : j ≤ 60) (hn : o ∉ ow) (hd : KO.dom o) :
    ∃ v' p' N' c' w', v' = .slice p' N' c' ∧ (Builtin.append_ #[TUs, TUs] TUs #[ov, .slice (some ⟨w.heap.size, 0, none⟩) 1 1]).run Try.prog (w.alloc (.cells #[.int .u64 (o : Int)] TOw)) = .ok v' w' ∧
      w'.cell? ⟨ob, 0, none⟩ = some ov ∧ w'.frozen? ⟨ob, 0, none⟩ = false ∧ Gr w0 w' ∧ HlAt w0 (w'.setCell ⟨ob, 0, none⟩ v') t km om rb vb ob B T (ow ++ [o]) v' [] (j + 1) := by
  have g1 : Gr w (w.alloc (.cells #[.int .u64 (o : Int)] TOw)) := (Gr.refl w).alloc (Nat.le_refl _) _
  have h1 := h.more g1
  obtain ⟨i, hi, hz, hsz, hbb⟩ := inf_parts u64_info
  obtain ⟨v', w', hr, h2, h3, -⟩ := run_append_own (P := Try.prog) (w.alloc (.cells #[.int .u64 (o : Int)] TOw)) w0.heap.size TUs TUs TOw i (.int .u64 0) 1 8 Try.underlying26 hi hz hsz hbb rfl (by decide) ov ow.length _ h1.us ⟨w.heap.size, 0, none⟩ 1 1 [u64v o] rfl
    (fun q u hq => by
      have : q = 0 := by have := (List.getElem?_eq_some_iff.1 hq).1; simp at this; exact this
      subst this
      cases hq
      exact (Blk.new w TOw #[u64v o]).cell 0) (fun u hu => by simp at hu; subst hu; rfl) (by simp only [maxLen]; omega) (by omega) h1.gr.size
  have us2 : Us w' w0.heap.size v' (ow ++ [o]) := by
    unfold Us
    rw [List.length_append, List.map_append]
    exact h2
  have hne : ∀ {g : Nat} {cs : Array Value} {ty : TypeId}, Blk (w.alloc (.cells #[.int .u64 (o : Int)] TOw)) g ty cs → ty ≠ TOw → Blk w' g ty cs := fun {g cs ty} hb ht => hb.stays (h3.block g hb.lt fun e => by
    rcases h1.us.2 with ⟨h0, _⟩ | ⟨g', cap, cur, h0, _, hh, _⟩
    · rw [h0] at e; cases e
    · rw [h0] at e
      cases e
      unfold Blk at hb
      rw [hh] at hb
      cases hb
      exact ht rfl)
  have br2 := hne h1.br (by decide)
  have bv2 := hne h1.bv (by decide)
  have bo2 := hne h1.bo (by decide)
  have c2 := bo2.cell 0
  simp at c2
  have nrb : rb ≠ ob := fun e => by have a := h.br; have b := h.bo; unfold Blk at a b; rw [e, b] at a; cases a
  have nvb : vb ≠ ob := fun e => by have a := h.bv; have b := h.bo; unfold Blk at a b; rw [e, b] at a; cases a
  have tb2 : TbAt w' t km om B T := h1.tb.row h3 (h1.us.far h1.tb)
  have hfo : ¬ FB B ob := h.tb.far_ty h.bo (by decide) (by decide) (by decide) (by decide)
  have g2 : Gr w0 w' := by
    have g := h1.gr
    exact ⟨h3.os.trans g.os, h3.tape.trans g.tape, h3.output.trans g.output, Nat.le_trans g.size h3.size, fun n hn => (h3.block n (Nat.lt_of_lt_of_le hn g.size) (fun e => by have := (h1.us.lt n e.symm).1; omega)).trans (g.block n hn)⟩
  obtain ⟨p', c', hv'⟩ := us2.form
  refine ⟨v', p', _, c', w', hv', hr, c2, bo2.frozen 0, g2, tb2.stays (fun a n hn => Below.heap_setCell _ _ _ _ (fun e => hfo ⟨a, by rw [hn]; exact congrArg some e⟩)), h.inv, h.ol, h.kl, fun x hx => .inl ?_, ?_, by rw [List.length_append]; simp; omega, fun x hx => ?_, br2.far nrb _, bv2.far nvb _, bo2.set 0 _, us2.stays fun g hg => ?_, h.fw, ?_, h.ge⟩
  · rcases h.sub x hx with e | e <;> simp at e ⊢
    · exact .inl e
    · exact .inr e
  · rw [List.nodup_append]
    refine ⟨h.nd, by simp, fun a ha b hb e => ?_⟩
    simp at hb
    exact hn (by rw [← hb, ← e]; exact ha)
  · rcases List.mem_append.1 hx with e | e
    · exact h.dm x e
    · simp at e; rw [e]; exact hd
  · refine Below.heap_setCell _ _ _ _ fun e => ?_
    rcases us2.2 with ⟨h0, _⟩ | ⟨g', cap, cur, h0, _, hh, _⟩
    · rw [h0] at hg; cases hg
    · rw [h0] at hg
      cases hg
      have e9 : g' = ob := e
      unfold Blk at bo2
      rw [← e9, hh] at bo2
      cases bo2
  · exact g2.setCell (p := ⟨ob, 0, none⟩) h.ge.2.2 _
end
end Go.Proofs.Ytbmcdlcoojmppaa

