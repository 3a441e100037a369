/-
  Texts on locks, put together: Told Lk53 Held ToldK.
-/
import Derived.RangeFuncNested
import Derived.RangeFuncBound
import Derived.RangeFuncCalls
import Derived.RangeFuncLeaves
import Derived.Lib.Hide
import Derived.LoopNIn
import Derived.LoopIn
import Derived.TacticsInMore
import Derived.OwnWalkIn
import Derived.Stop.RegionWithIn
import Derived.Test.YtadopbpfnnpnaaaGreatProg
import Derived.Test.YtadopbpfnnpnaaaGreatL1
import Derived.Test.YtadopbpfnnpnaaaGreatL48
set_option linter.unusedVariables false
set_option linter.unusedSimpArgs false
/-
  A range over a function, where the body is told something of what comes (it holds in the world in which it comes), and what the iterator reads between two rounds are some blocks of cells. Over whatever program.
-/
namespace Go.Proofs.YtadopbpfnnpnaaaGreat
open Go.RowKit

/-- Cells, or a map. -/
def firm (o : Obj) : Bool := o.isCells || o.isWalk
/-- The blocks Ks lie as they lay, so far as they are of a kind. -/
structure HoldS (κ : Obj → Bool) (Ks : Nat → Prop) (W W' : World) : Prop where
  size : W.heap.size ≤ W'.heap.size
  same : ∀ k o, Ks k → W.heap[k]? = some o → κ o = true → W'.heap[k]? = some o
theorem HoldS.trans {κ : Obj → Bool} {Ks : Nat → Prop} {X Y Z : World} (h : HoldS κ Ks X Y) (k : HoldS κ Ks Y Z) : HoldS κ Ks X Z := ⟨Nat.le_trans h.size k.size, fun i o hi h1 hc => k.same i o hi (h.same i o hi h1 hc) hc⟩
theorem HoldS.put {κ : Obj → Bool} {Ks : Nat → Prop} (W : World) (l : Nat) (o o' : Obj) (h : W.heap[l]? = some o) (hc : κ o = false) : HoldS κ Ks W (W.putObj l o') := ⟨by simp, fun k u _ hk hu => by
  by_cases e : k = l
  · subst e; rw [h] at hk; cases hk; rw [hc] at hu; cases hu
  · exact (World.putObj_heap_other e).trans hk⟩
/-- What an iterator gives: the elder contract, where G is told of what comes. -/
def SeqTold {α : Type} (F : Fence) (n : Nat) (P : Program) (g : Nat) (lb : Array Value) (encs : α → Array Value) (G : List α → α → World → Prop) (Ks : Nat → Prop) (S Sp : List α → Prop) (w : World) : Prop :=
  ∀ (l : Nat) (J Jx : List α → World → Prop) (W : World), Below w.heap.size w W → OwnFrom W.heap.size J → OwnFrom W.heap.size Jx →
    (∀ pre x V, J pre V → G pre x V → YieldAt F (n - 1) P l (encs x) V fun e V' => (e = .returned (.bool true) ∧ J (pre ++ [x]) V' ∧ HoldS firm Ks V V') ∨ (e = .returned (.bool false) ∧ Jx (pre ++ [x]) V')) →
    J [] W → CallsIn F n P g (#[.func (.yield l) #[] #[]] ++ lb) W fun e V => (∃ v, e = .returned v) ∧ ((∃ xs, S xs ∧ J xs V) ∨ ∃ pre, Sp pre ∧ Jx pre V)

/-- How a round may end: on, or by a return. -/
def toldPost {α : Type} (B : Nat) (Ks : Nat → Prop) (I Ir : List α → World → Prop) (xs : List α) (W : World) : Exit → Act → World → Prop
  | .normal, _, V => KeepsFrom B W V ∧ HoldS firm Ks W V ∧ I xs V
  | .ret, _, V => KeepsFrom B W V ∧ Ir xs V
  | _, _, _ => False

variable {F : Fence} {n : Nat} {P : Program} {w : World}

end Go.Proofs.YtadopbpfnnpnaaaGreat

/-
  What Held's function tells.
-/
namespace Go.Proofs.YtadopbpfnnpnaaaGreat
open Go.RowKit Go.Maps

/-- The blocks that Held's function reads between two rounds. -/
def hKs (kb mb : Nat) (kv' mv : Value) : Nat → Prop := fun k => k = kb ∨ k = mb ∨ kv'.ownBlock = some k ∨ mv.ownBlock = some k
theorem ownsRow_hold {w w' : World} {base e size n : Nat} {v : Value} {xs : List Value} {Ks : Nat → Prop} (h : w.ownsRow base e size v n xs) (g : HoldS firm Ks w w') (hk : ∀ k, v.ownBlock = some k → Ks k) : w'.ownsRow base e size v n xs := by
  refine ⟨h.1, ?_⟩
  rcases h.2 with h0 | ⟨q, cap, cur, h0, hb, hc, h3⟩
  · exact .inl h0
  · exact .inr ⟨q, cap, cur, h0, hb, g.same q _ (hk q (by rw [h0]; rfl)) hc rfl, h3⟩
theorem HeldAt.held {w0 w w' : World} {kb mb : Nat} {kv' mv : Value} {ks : List Key} {ms : List Int} (H : HeldAt w0 w kb mb kv' mv ks ms) (g : HoldS firm (hKs kb mb kv' mv) w w') : HeldAt w0 w' kb mb kv' mv ks ms :=
  ⟨g.same kb _ (.inl rfl) H.bk rfl, g.same mb _ (.inr (.inl rfl)) H.bm rfl, ownsRow_hold H.rk g (fun k e => .inr (.inr (.inl e))), ownsRow_hold H.rm g (fun k e => .inr (.inr (.inr e))), H.kl, H.ml⟩
theorem gr_holds {κ : Obj → Bool} {Ks : Nat → Prop} {W W' : World} (g : Gr W W') : HoldS κ Ks W W' := ⟨g.size, fun k _ _ h1 _ => (g.block k (Array.getElem?_eq_some_iff.1 h1).1).trans h1⟩
/-- How a round ends: on, or not. -/
def RetYield (A B : World → Prop) (e : Ending) (V : World) : Prop := ∃ b : Bool, e = .returned (.bool b) ∧ (b = true → A V) ∧ (b = false → B V)
/-- What is told: a key and its mode. -/
def encK (x : Key × Int) : Array Value := #[kv x.1, .int .i64 x.2]

set_option maxRecDepth 100000 in
set_option maxHeartbeats 4000000 in
theorem held1_told (n : Nat) (hn : 2 ≤ n) {w0 w : World} {kb mb : Nat} {kv' mv : Value} {ks : List Key} {ms : List Int} (h : HeldAt w0 w kb mb kv' mv ks ms) (hl : ms.length = ks.length) (hb : ks.length ≤ 1000000) :
    SeqTold Fence.wide n Tryz.prog 64 #[.pointer (some ⟨kb, 0, none⟩), .pointer (some ⟨mb, 0, none⟩)] encK (fun pre x _ => (ks.zip ms)[pre.length]? = some x) (hKs kb mb kv' mv) (fun ys => ys = ks.zip ms) (fun _ => True) w := fun l J Jx W hW hJ hJx hY h0 => by
  have h1 : 1 ≤ n := by omega
  have HJ := Lib.hid hJ
  have HY := Lib.hid hY
  have H0 := Lib.hid h0
  have HD := Lib.hid (h.held (gr_holds hW))
  obtain ⟨p, cap, hkf, -⟩ := h.rk.form
  subst hkf
  obtain ⟨q, cap2, hmf⟩ : ∃ q cap2, mv = .slice q ms.length cap2 := by
    rcases (show World.ownsRow w w0.heap.size TMd 1 mv ms.length _ from h.rm).2 with ⟨h0, h1⟩ | ⟨g, _, _, h0, _⟩
    · exact ⟨_, _, by rw [h0, h1]⟩
    · exact ⟨_, _, h0⟩
  subst hmf
  rw [hl] at HD HY
  obtain ⟨N, hN⟩ : ∃ N, N = ks.length := ⟨_, rfl⟩
  rw [← hN] at HD HY hb
  have HN := Lib.hid (And.intro hN hl)
  clear hW hJ hJx hY h0 h hl hN
  refine callsIn_of_wp Tryz.func64 rfl trivial ?_ rfl
  simp only [Tryz.ntmps64, List.size_toArray, List.length_cons, List.length_nil, Nat.reduceAdd, Nat.reduceSub, Array.replicate_succ, Array.replicate_zero, List.push_toArray, List.append_toArray, List.nil_append, List.cons_append]
  have c0 := HD.out.bk.cell 0
  simp at c0
  gi_wp2_with fail
  clear c0
  gi_loopw [8] (fun iv wr => ∃ (j : Nat), j ≤ N ∧ iv = .int .i64 j ∧ Hid (HeldAt w0 wr kb mb (.slice p N cap) (.slice q N cap2) ks ms ∧ J ((ks.zip ms).take j) wr)) (fun iv _ => N - (intOf iv).toNat)
  case atStart => exact ⟨0, Nat.zero_le _, rfl, Lib.hid ⟨HD.out, H0.out⟩⟩
  case round =>
    obtain ⟨j, hj, rfl, hh⟩ := hrel
    by_cases hlt : j < N
    · have hjl : j < ks.length := by have := HN.out.1; omega
      obtain ⟨g, hpg, -, -, k0, k1⟩ := Kr.at' hh.out.1.rk j hjl
      obtain ⟨X, hX⟩ : ∃ X, X = ks.getD j (0, 0) := ⟨_, rfl⟩
      rw [← hX] at k0 k1
      obtain ⟨x1, x2⟩ := X
      have g6 : Gr wr (wr.alloc (.cells #[.int .i64 x1, .int .i64 x2] TKey)) := (Gr.refl _).alloc (Nat.le_refl _) _
      have k6 := Blk.new wr TKey #[.int .i64 x1, .int .i64 x2]
      obtain ⟨W6, hW6⟩ : ∃ W6, W6 = wr.alloc (.cells #[.int .i64 x1, .int .i64 x2] TKey) := ⟨_, rfl⟩
      rw [← hW6] at g6 k6
      obtain ⟨xb, hxb⟩ : ∃ xb, xb = wr.heap.size := ⟨_, rfl⟩
      rw [← hxb] at k6
      have g6d : Gr wr W6.drew := Gr.trans g6 (Gr.refl _).drew
      have hH := hh.out.1.held (gr_holds g6d)
      have hJ6 : J ((ks.zip ms).take j) W6.drew := HJ.out _ _ _ none hh.out.2 ⟨g6d.os, g6d.tape, g6d.output, g6d.size, fun k hk _ => g6d.block k hk⟩ (fun r e => by cases e)
      obtain ⟨gm, hqg⟩ : ∃ gm, q = some ⟨gm, 0, none⟩ := by
        rcases (show World.ownsRow W6.drew w0.heap.size TMd 1 _ ms.length _ from hH.rm).2 with ⟨h0, h1⟩ | ⟨g, _, _, h0, _⟩
        · have := HN.out; omega
        · cases h0; exact ⟨g, rfl⟩
      subst hqg hpg
      have hml : N = ms.length := by have := HN.out; omega
      have q5 := Ms.cellAt hH.rm hml j hlt
      have q1 := hH.bm.cell 0
      have q2 := (k6.gr (Gr.refl _).drew).cell 0
      have q3 := (k6.gr (Gr.refl _).drew).cell 1
      simp at q1 q2 q3
      have hZ : (ks.zip ms)[((ks.zip ms).take j).length]? = some ((x1, x2), ms.getD j 0) := by
        rw [List.length_take, List.length_zip, Nat.min_eq_left (by have := HN.out; omega), List.getElem?_eq_getElem (by rw [List.length_zip]; have := HN.out; omega), List.getElem_zip, hX]
        simp [List.getD, hjl, show j < ms.length by omega]
      have hZ2 : (ks.zip ms).take (j + 1) = (ks.zip ms).take j ++ [((x1, x2), ms.getD j 0)] := by
        have hz : j < (ks.zip ms).length := by rw [List.length_zip]; have := HN.out; omega
        rw [List.take_succ_eq_append_getElem hz]
        rw [List.length_take, Nat.min_eq_left (by omega), List.getElem?_eq_getElem hz] at hZ
        rw [Option.some.inj hZ]
      obtain ⟨MD, hMD⟩ : ∃ MD, MD = ms.getD j 0 := ⟨_, rfl⟩
      rw [← hMD] at q5 hZ hZ2
      obtain ⟨fn, tmps, assign, body, hyl, hR⟩ := HY.out _ _ W6.drew hJ6 hZ
      dsimp only [encK, kv] at hyl
      have HR := Lib.hid (RoundIn.mono hR (R' := RetYield (fun V => J ((ks.zip ms).take (j + 1)) V ∧ HoldS firm (hKs kb mb (.slice (some ⟨g, 0, none⟩) N cap) (.slice (some ⟨gm, 0, none⟩) N cap2)) W6.drew V) (fun V => Jx ((ks.zip ms).take (j + 1)) V)) (fun e V h => by
        rcases h with ⟨rfl, a, b⟩ | ⟨rfl, a⟩
        · exact ⟨true, rfl, fun _ => ⟨by rw [hZ2]; exact a, b⟩, fun e => by cases e⟩
        · exact ⟨false, rfl, fun e => (by cases e), fun _ => by rw [hZ2]; exact a⟩))
      have HH6 := Lib.hid (And.intro hH (And.intro hW6 (And.intro hxb hZ2)))
      have hNb : N ≤ 1000000000 := by omega
      clear hR hH hJ6 hZ hZ2 hMD hml hW6 hxb g6d g6 k6 hjl hX hh HY HD H0 hb
      gi_wp2_with fail
      rw [show (wr.alloc (.cells #[.int .i64 x1, .int .i64 x2] 33)) = W6 from HH6.out.2.1.symm, ← HH6.out.2.2.1]
      gi_region_with ((refine HR.out.mono ?_; rintro e V' ⟨b, rfl, hb⟩; have HB := Lib.hid hb; clear hb))
      all_goals
        cases b
        · gi_wp2_with fail
          refine bodyPost_ret (results_none rfl _ _ _) rfl ?_
          exact ⟨⟨_, rfl⟩, .inr (Exists.intro _ (HB.out.2 (by simp)))⟩
        · have hh3 : Hid (HeldAt w0 V' kb mb (.slice (some ⟨g, 0, none⟩) N cap) (.slice (some ⟨gm, 0, none⟩) N cap2) ks ms ∧ J ((ks.zip ms).take (j + 1)) V') := Lib.hid ⟨HH6.out.1.held (HB.out.1 (by simp)).2, (HB.out.1 (by simp)).1⟩
          clear HB HH6 HR hyl
          gi_wp2_with fail
          go_roundw
          case rel => exact ⟨j + 1, by omega, by go_num, hh3⟩
          case measure => simp [intOf]; omega
    · obtain rfl : j = N := by omega
      gi_wp2_with fail
      go_end0
      exact ⟨⟨_, rfl⟩, .inl ⟨_, List.take_of_length_le (by rw [List.length_zip]; have := HN.out; omega), hh.out.2⟩⟩

end Go.Proofs.YtadopbpfnnpnaaaGreat

/-
  Blocks of cells, held while other blocks turn; a result that lies in a cell. 
-/
namespace Go.Proofs.YtadopbpfnnpnaaaGreat
open Go.RowKit

abbrev TBo : TypeId := 4
/-- What turns no cells keeps them. -/
theorem hold_grown {W W' : World} {row : Option Nat} (g : W.grownBy W' row) (hr : ∀ r, row = some r → ∃ o : Obj, W.heap[r]? = some o ∧ o.isCells = false) : HoldS Obj.isCells (fun _ => True) W W' :=
  ⟨g.size, fun k o _ hk hc => (g.block k (Array.getElem?_eq_some_iff.1 hk).1 (fun e => by
    obtain ⟨o2, h1, h2⟩ := hr k e.symm
    rw [hk] at h1
    cases h1
    rw [hc] at h2
    cases h2)).trans hk⟩
theorem Blk.held {W W' : World} {g : Nat} {t : TypeId} {cs : Array Value} (h : Blk W g t cs) (k : HoldS Obj.isCells (fun _ => True) W W') : Blk W' g t cs := k.same g _ trivial h rfl
theorem results_cell_one {fn : Func} {p : Tmp} {ty : TypeId} (h : fn.results = #[.cell p ty]) (ha : ∀ w, (isAgg ty).run Tryz.prog w = .ok false w) (tmps : Array Value) (w : World) (a : Addr) (v : Value) (hp : tmps.getD p undef = .pointer (some a)) (hc : w.cell? a = some v) : (results fn tmps).run Tryz.prog w = .ok v w := by
  simp only [results, h]
  simp [-Array.getD_eq_getD_getElem?, Sem.run_bind, Result.andThen, hp, asAddr, loadVar, ha, hc]

end Go.Proofs.YtadopbpfnnpnaaaGreat

/-
  A range over a function (XTold's), where the iterator is told besides that a round leaves what it laid itself (an iterator that ranges over another iterator, and yields in its rounds, wants that). Over whatever program.
-/
namespace Go.Proofs.YtadopbpfnnpnaaaGreat
open Go.RowKit

/-- What an iterator gives: the elder contract, where G is told of what comes. -/
def SeqToldK {α : Type} (F : Fence) (n : Nat) (P : Program) (g : Nat) (lb : Array Value) (encs : α → Array Value) (G : List α → α → World → Prop) (Ks : Nat → Prop) (S Sp : List α → Prop) (w : World) : Prop :=
  ∀ (l : Nat) (J Jx : List α → World → Prop) (W : World), Below w.heap.size w W → OwnFrom W.heap.size J → OwnFrom W.heap.size Jx →
    (∀ pre x V, J pre V → G pre x V → YieldAt F (n - 1) P l (encs x) V fun e V' => (e = .returned (.bool true) ∧ J (pre ++ [x]) V' ∧ HoldS firm Ks V V' ∧ KeepsFrom W.heap.size V V') ∨ (e = .returned (.bool false) ∧ Jx (pre ++ [x]) V' ∧ KeepsFrom W.heap.size V V')) →
    J [] W → CallsIn F n P g (#[.func (.yield l) #[] #[]] ++ lb) W fun e V => (∃ v, e = .returned v) ∧ ((∃ xs, S xs ∧ J xs V) ∨ ∃ pre, Sp pre ∧ Jx pre V)

/-- The elder contract is one of these. -/
theorem SeqTold.keeps {α : Type} {F : Fence} {n : Nat} {P : Program} {g : Nat} {lb : Array Value} {encs : α → Array Value} {G : List α → α → World → Prop} {Ks : Nat → Prop} {S Sp : List α → Prop} {w : World} (h : SeqTold F n P g lb encs G Ks S Sp w) : SeqToldK F n P g lb encs G Ks S Sp w :=
  fun l J Jx W hW hJ hJx hY h0 => h l J Jx W hW hJ hJx (fun pre x V hj hg => (hY pre x V hj hg).mono (fun e V' he => by
    rcases he with ⟨h1, h2, h3, _⟩ | ⟨h1, h2, _⟩
    · exact .inl ⟨h1, h2, h3⟩
    · exact .inr ⟨h1, h2⟩)) h0

variable {F : Fence} {n : Nat} {P : Program} {w : World}

/-- The law of the loop. -/
theorem wpIn_range_toldK {α : Type} {g : Operand} {ps : Array Tmp} {assign body : Code} {Q : Exit → Act → World → Prop} {a : Act}
    (hro : F.round = none) (h1 : 1 ≤ n) {gf : Nat} {lb : Array Value} (hg : a.eval g = .func (.func gf) #[] lb) (hFg : F.fn gf) (eg : ∀ args w, (callFunc gf args).run P w = .ok (.enter gf args) w)
    {encs : α → Array Value} {G : List α → α → World → Prop} {Ks : Nat → Prop} {S Sp : List α → Prop} {w0 : World} (hseq : SeqToldK F (n - 1) P gf lb encs G Ks S Sp w0)
    (hb0 : Below w0.heap.size w0 w) (hps : ∀ x, (encs x).size = ps.size)
    (I Ir : List α → World → Prop) (hI : OwnFrom w.heap.size I) (hIr : OwnFrom w.heap.size Ir) (h0 : I [] w) (Ax : List α → α → Act → World → Prop) (hAx : ∀ pre x b, OwnFrom w.heap.size (fun (_ : Unit) W => Ax pre x b W))
    (hassign : ∀ (l : Nat) (pre : List α) (x : α) (W : World) (K : Act → World → Prop), I pre W → G pre x W → (∀ b V, KeepsFrom w.heap.size W V → HoldS firm Ks W V → I pre V → Ax pre x b V → K b V) →
      assign.wpIn (F.inRound l) (n - 1 - 1) P (Exit.then K (fun _ _ _ => False)) { tmps := (ps.zip (encs x)).foldl (fun t (p, v) => t.setIfInBounds p v) a.tmps, defers := [] } W)
    (hbody : ∀ (l : Nat) (pre : List α) (x : α) (b : Act) (W : World), w.heap.size ≤ l → I pre W → Ax pre x b W → body.wpIn (F.inRound l) (n - 1 - 1) P (toldPost w.heap.size Ks I Ir (pre ++ [x]) W) b W)
    (hdone : ∀ (D : Nat) (xs : List α) (W : World), w.heap.size ≤ D → S xs → I xs W → W.heap[D]? = some (.deferred (some [])) → Q .normal { a with defers := { target := .collected D, args := #[] } :: a.defers } W)
    (hstop : ∀ (D : Nat) (pre : List α) (W : World), w.heap.size ≤ D → Sp pre → Ir pre W → W.heap[D]? = some (.deferred (some [])) → Code.ret.wpIn F n P Q { a with defers := { target := .collected D, args := #[] } :: a.defers } W) :
    (Code.rangeFunc g ps assign body).wpIn F n P Q a w := by
  refine wpIn_rangeFunc fun fn hfn => ?_
  rw [hro]
  -- the loop's record, as it is made and as it ends; the two blocks: B for what is deferred, B + 1 for the record
  obtain ⟨B, hB⟩ : ∃ B, B = w.heap.size := ⟨_, rfl⟩
  obtain ⟨rec, hrec⟩ : ∃ rec : LoopState → Option Code → Loop, rec = fun st pe => { state := st, pending := pe, fn, tmps := a.tmps, params := ps, assign, body, defers := w.heap.size } := ⟨_, rfl⟩
  obtain ⟨V, hV⟩ : ∃ V, V = (w.alloc (.deferred (some []))).alloc (.loop (rec .ready none)) := ⟨_, rfl⟩
  -- what is said of the world all the while
  let Bk : LoopState → Option Code → World → Prop := fun st pe W => W.heap[B + 1]? = some (.loop (rec st pe)) ∧ W.heap[B]? = some (.deferred (some []))
  have hVs : V.heap.size = B + 1 + 1 := by rw [hV, hB]; simp
  have hBk : Bk .ready none V := ⟨by rw [hV, hB]; have := World.alloc_heap_new (w.alloc (.deferred (some []))) (.loop (rec .ready none)); rwa [World.size_alloc] at this,
    by rw [hV, hB]; exact (Below.heap_alloc _ _ _ (by simp)).trans (World.alloc_heap_new w _)⟩
  have hIV : I [] V := by rw [hV]; exact hI.alloc _ (hI.alloc _ h0)
  have hbV : Below w0.heap.size w0 V := by rw [hV]; exact hb0.trans ((((Below.refl _ w).alloc (Nat.le_refl _) _).alloc (by simp) _).mono hb0.size)
  have keep : ∀ {st pe} {X Y : World} {row : Option Nat}, Bk st pe X → X.grownBy Y row → (∀ r, row = some r → V.heap.size ≤ r ∧ ∃ o : Obj, X.heap[r]? = some o ∧ o.isCells = false) → Bk st pe Y := fun h hg' hr =>
    ⟨(hg'.block _ (Array.getElem?_eq_some_iff.1 h.1).1 (fun e => by have := (hr _ e.symm).1; omega)).trans h.1, (hg'.block _ (Array.getElem?_eq_some_iff.1 h.2).1 (fun e => by have := (hr _ e.symm).1; omega)).trans h.2⟩
  have cells : ∀ {X : World} {row : Option Nat}, (∀ r, row = some r → V.heap.size ≤ r ∧ ∃ o : Obj, X.heap[r]? = some o ∧ o.isCells = false) → ∀ r, row = some r → w.heap.size ≤ r ∧ ∃ o : Obj, X.heap[r]? = some o ∧ o.isCells = false := fun hr r e => by
    obtain ⟨h2, ho⟩ := hr r e
    exact ⟨by omega, ho⟩
  have turn : ∀ {st pe} (st' : LoopState) (pe' : Option Code) {X : World}, Bk st pe X → Bk st' pe' (X.putObj (B + 1) (.loop (rec st' pe'))) := fun st' pe' X h =>
    ⟨World.putObj_heap_same (Array.getElem?_eq_some_iff.1 h.1).1, (World.putObj_heap_other (by omega)).trans h.2⟩
  refine ⟨B + 1, [{ target := .collected B, args := #[] }], V, { target := .fn (.func gf) lb, args := #[.func (.yield (B + 1)) #[] #[]] }, V, gf, #[.func (.yield (B + 1)) #[] #[]] ++ lb, V, ?_, ?_, ?_, ?_, fun _ => h1, ?_⟩
  · rw [hV, hB, hrec]; exact run_enterLoop_outer _ _ _ _ _
  · simp only [resolve, hg]
    simp [go_sem]
  · intro f' hf'; simp [Target.leads] at hf'; subst hf'; exact hFg
  · simp [invoke, go_sem, eg]
  refine (hseq (B + 1) (fun pre W => I pre W ∧ Bk .ready none W) (fun pre W => Ir pre W ∧ Bk .done (some .ret) W) V hbV
    (fun s X Y row h hg' hr => ⟨hI s X Y row h.1 hg' (cells hr), keep h.2 hg' hr⟩) (fun s X Y row h hg' hr => ⟨hIr s X Y row h.1 hg' (cells hr), keep h.2 hg' hr⟩) ?round ⟨hIV, hBk⟩).mono ?after
  case round =>
    rintro pre x W ⟨hi, hk⟩ hG
    have hy := run_yield (P := P) (args := encs x) hk.1 (by rw [hrec]; exact hps x)
    rw [hrec] at hy
    refine ⟨fn, _, assign, body, hy, roundIn_of_wpIn hfn (hassign _ pre x W _ hi hG fun b X hfx hsx hix hax => ?_)⟩
    have hkx : Bk .ready none X := ⟨hfx.same _ _ (by omega) hk.1 rfl, hfx.same _ _ (by omega) hk.2 rfl⟩
    refine ⟨_, run_beginRound hkx.1 (by rw [hrec]), ?_⟩
    have hk2 := turn .busy none hkx
    have e2 : ({ rec .ready none with state := .busy } : Loop) = rec .busy none := by rw [hrec]
    rw [e2]
    refine wpIn_mono (hbody _ pre x b _ (by omega) (hI.putObj _ hix (by omega) hkx.1 rfl) ((hAx pre x b).putObj (s := ()) _ hax (by omega) hkx.1 rfl)) ?_
    have fin : ∀ (jump : Option Code) (Y : World), KeepsFrom w.heap.size (X.putObj (B + 1) (.loop (rec .busy none))) Y → Bk .busy none Y ∧
        (Instr.endRound (B + 1) jump).run P Y = .ok (.bool jump.isNone) (Y.putObj (B + 1) (.loop (rec (if jump.isNone then .ready else .done) jump))) := fun jump Y hY => by
      have h3 : Bk .busy none Y := ⟨hY.same _ _ (by omega) hk2.1 rfl, hY.same _ _ (by omega) hk2.2 rfl⟩
      have h4 := run_endRound (P := P) jump h3.1
      rw [hrec] at h4 ⊢
      exact ⟨h3, h4⟩
    have put : ∀ (Z : World) (o : Obj), KeepsFrom V.heap.size Z (Z.putObj (B + 1) o) := fun Z o => KeepsFrom.of_grownBy (grownBy_putObj' Z (B + 1) o) (fun j e => by cases e; omega)
    have low : ∀ {Y Z : World}, KeepsFrom w.heap.size Y Z → KeepsFrom V.heap.size Y Z := fun h => ⟨h.size, fun k o hB hk ho => h.same k o (by omega) hk ho⟩
    have kf : ∀ (jump : Option Code) (Y : World), KeepsFrom w.heap.size (X.putObj (B + 1) (.loop (rec .busy none))) Y → KeepsFrom V.heap.size W (Y.putObj (B + 1) (.loop (rec (if jump.isNone then .ready else .done) jump))) := fun jump Y hY => (low hfx).trans ((put _ _).trans ((low hY).trans (put _ _)))
    rintro e c Y hp
    cases e with
    | normal =>
      obtain ⟨hf, hs, hi3⟩ := hp
      obtain ⟨h3, hr⟩ := fin none Y hf
      exact ⟨_, _, hr, .inl ⟨rfl, ⟨hI.putObj _ hi3 (by omega) h3.1 rfl, turn .ready none h3⟩, hsx.trans ((HoldS.put _ _ _ _ hkx.1 rfl).trans (hs.trans (HoldS.put _ _ _ _ h3.1 rfl))), kf none Y hf⟩⟩
    | ret =>
      obtain ⟨hf, hi3⟩ := hp
      obtain ⟨h3, hr⟩ := fin (some .ret) Y hf
      exact ⟨_, _, hr, .inr ⟨rfl, ⟨hIr.putObj _ hi3 (by omega) h3.1 rfl, turn .done (some .ret) h3⟩, kf (some .ret) Y hf⟩⟩
    | exit id => exact hp.elim
    | goto t => exact hp.elim
    | panic ch => exact hp.elim
    | outgrown => exact hp.elim
  case after =>
    rintro e W2 ⟨⟨v, rfl⟩, ⟨xs, hS, hi, hk⟩ | ⟨pre, hSp, hi, hk⟩⟩
    · have he := run_endLoop (P := P) hk.1 (by rw [hrec]; simp)
      rw [hrec] at he
      exact ⟨none, _, he, by rw [hB]; exact hdone _ xs _ (Nat.le_refl _) hS (by rw [← hB]; exact hI.putObj _ hi (by omega) hk.1 rfl) (by rw [← hB]; exact (World.putObj_heap_other (by omega)).trans hk.2)⟩
    · have he := run_endLoop (P := P) hk.1 (by rw [hrec]; simp)
      rw [hrec] at he
      exact ⟨some .ret, _, he, by rw [hB]; exact hstop _ pre _ (Nat.le_refl _) hSp (by rw [← hB]; exact hIr.putObj _ hi (by omega) hk.1 rfl) (by rw [← hB]; exact (World.putObj_heap_other (by omega)).trans hk.2)⟩

/-- The law, where a round's frame is the loop's own with some slots set. -/
theorem wpIn_range_toldF {α ρ : Type} {g : Operand} {ps : Array Tmp} {assign body : Code} {Q : Exit → Act → World → Prop} {a : Act}
    (hro : F.round = none) (h1 : 1 ≤ n) {gf : Nat} {lb : Array Value} (hg : a.eval g = .func (.func gf) #[] lb) (hFg : F.fn gf) (eg : ∀ args w, (callFunc gf args).run P w = .ok (.enter gf args) w)
    {encs : α → Array Value} {G : List α → α → World → Prop} {Ks : Nat → Prop} {S Sp : List α → Prop} {w0 : World} (hseq : SeqToldK F (n - 1) P gf lb encs G Ks S Sp w0)
    (hb0 : Below w0.heap.size w0 w) (hps : ∀ x, (encs x).size = ps.size)
    (I Ir : List α → World → Prop) (hI : OwnFrom w.heap.size I) (hIr : OwnFrom w.heap.size Ir) (h0 : I [] w) (upd : Array Value → α → ρ → Array Value) (Bx : List α → α → ρ → World → Prop) (hBx : ∀ pre x R, OwnFrom w.heap.size (fun (_ : Unit) W => Bx pre x R W))
    (hassign : ∀ (l : Nat) (pre : List α) (x : α) (W : World) (K : Act → World → Prop), I pre W → G pre x W → (∀ R V, KeepsFrom w.heap.size W V → HoldS firm Ks W V → I pre V → Bx pre x R V → K { tmps := upd a.tmps x R, defers := [] } V) →
      assign.wpIn (F.inRound l) (n - 1 - 1) P (Exit.then K (fun _ _ _ => False)) { tmps := (ps.zip (encs x)).foldl (fun t (p, v) => t.setIfInBounds p v) a.tmps, defers := [] } W)
    (hbody : ∀ (l : Nat) (pre : List α) (x : α) (R : ρ) (W : World), w.heap.size ≤ l → I pre W → Bx pre x R W → body.wpIn (F.inRound l) (n - 1 - 1) P (toldPost w.heap.size Ks I Ir (pre ++ [x]) W) { tmps := upd a.tmps x R, defers := [] } W)
    (hdone : ∀ (D : Nat) (xs : List α) (W : World), w.heap.size ≤ D → S xs → I xs W → W.heap[D]? = some (.deferred (some [])) → Q .normal { a with defers := { target := .collected D, args := #[] } :: a.defers } W)
    (hstop : ∀ (D : Nat) (pre : List α) (W : World), w.heap.size ≤ D → Sp pre → Ir pre W → W.heap[D]? = some (.deferred (some [])) → Code.ret.wpIn F n P Q { a with defers := { target := .collected D, args := #[] } :: a.defers } W) :
    (Code.rangeFunc g ps assign body).wpIn F n P Q a w :=
  wpIn_range_toldK hro h1 hg hFg eg hseq hb0 hps I Ir hI hIr h0 (fun pre x b V => ∃ R, Bx pre x R V ∧ b = { tmps := upd a.tmps x R, defers := [] })
    (fun pre x b s X Y row ⟨R, h, e⟩ hg hr => ⟨R, hBx pre x R () X Y row h hg hr, e⟩)
    (fun l pre x W K hi hx hK => hassign l pre x W K hi hx fun R V h1 h2 h3 h4 => hK _ V h1 h2 h3 ⟨R, h4, rfl⟩)
    (fun l pre x b W hl hi ⟨R, h, e⟩ => by subst e; exact hbody l pre x R W hl hi h) hdone hstop

end Go.Proofs.YtadopbpfnnpnaaaGreat

