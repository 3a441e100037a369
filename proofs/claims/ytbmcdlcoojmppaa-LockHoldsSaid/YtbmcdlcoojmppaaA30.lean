/-
  Texts on locks, put together: Held FlowIn Lk55.
-/
import Derived.Test.YtbmcdlcoojmppaaProg
import Derived.OrdersIn
import Derived.RangeFuncCalls
import Derived.OwnWalkIn
import Derived.RangeFuncLeaves
import Derived.Deep.RegionHeld3
import Derived.Test.YtbmcdlcoojmppaaA1
import Derived.Test.YtbmcdlcoojmppaaA3
import Derived.Test.YtbmcdlcoojmppaaA29
/-
  Blocks of cells, held while other blocks turn; a result that lies in a cell. 
-/
namespace Go.Proofs.Ytbmcdlcoojmppaa
open Go.RowKit

abbrev TBo : TypeId := 4
/-- What turns no cells keeps them. -/
theorem hold_grown {W W' : World} {row : Option Nat} (g : W.grownBy W' row) (hr : ∀ r, row = some r → ∃ o : Obj, W.heap[r]? = some o ∧ o.isCells = false) : HoldS Obj.isCells (fun _ => True) W W' :=
  ⟨g.size, fun k o _ hk hc => (g.block k (Array.getElem?_eq_some_iff.1 hk).1 (fun e => by
    obtain ⟨o2, h1, h2⟩ := hr k e.symm
    rw [hk] at h1
    cases h1
    rw [hc] at h2
    cases h2)).trans hk⟩
theorem Blk.held {W W' : World} {g : Nat} {t : TypeId} {cs : Array Value} (h : Blk W g t cs) (k : HoldS Obj.isCells (fun _ => True) W W') : Blk W' g t cs := k.same g _ trivial h rfl
theorem results_cell_one {fn : Func} {p : Tmp} {ty : TypeId} (h : fn.results = #[.cell p ty]) (ha : ∀ w, (isAgg ty).run Try.prog w = .ok false w) (tmps : Array Value) (w : World) (a : Addr) (v : Value) (hp : tmps.getD p undef = .pointer (some a)) (hc : w.cell? a = some v) : (results fn tmps).run Try.prog w = .ok v w := by
  simp only [results, h]
  simp [-Array.getD_eq_getD_getElem?, Sem.run_bind, Result.andThen, hp, asAddr, loadVar, ha, hc]

end Go.Proofs.Ytbmcdlcoojmppaa

/-
  A region that draws its order, told slot by slot, in a round of a loop over a function. Over whatever program.
-/
namespace Go.Proofs.Ytbmcdlcoojmppaa
namespace Flow
open Go

def notDefer : Op → Bool
  | .defer _ => false
  | _ => true
theorem notDefer_of {ops : Array Oper} (h : (ops.all fun o => notDefer o.op) = true) {i : Nat} {o : Oper} (ho : ops[i]? = some o) : ∀ c, o.op ≠ .defer c := by
  have h2 := Array.all_eq_true_iff_forall_mem.1 h o (Array.mem_of_getElem? ho)
  intro c e
  rw [e] at h2
  cases h2

theorem rows_in {n l : Nat} {P : Program} {row : String} {args : Array Value} {w : World} {R : Value → World → Prop} (h : Go.Rows P row args w R) : RowsIn (Fence.wide.inRound l) n P row args w R := fun c cs _ => by
  obtain ⟨v, w', r, s⟩ := h c cs
  exact ⟨v, w', r, stepsIn_wide.2 s⟩
/-- What is carried out anywhere is carried out in a round. -/
theorem oper_in {n l : Nat} {P : Program} {o : Oper} {a : Act} {w : World} {K : Act → World → Prop} {Q : Exit → Act → World → Prop} (hd : ∀ c, o.op ≠ .defer c) (h : o.wp P a w K Q) : o.wpIn (Fence.wide.inRound l) n P a w K Q := by
  unfold Oper.wpIn
  refine ⟨fun _ _ => trivial, ?_⟩
  rw [Oper.semAt_plain _ _ _ hd]
  unfold Oper.wp at h
  generalize (execOp a.eval o).run P w = r at h ⊢
  cases r with
  | ok x w' =>
    cases x with
    | enter f args => exact ⟨(fun hh => by cases hh), (callsIn_wide.2 h).inRound l⟩
    | row row args => exact ⟨(fun hh => by cases hh), rows_in h⟩
    | round => exact h.elim
    | _ => exact h
  | halt x w' => cases x <;> exact h
theorem wpOpIn_step {n l : Nat} {P : Program} {ops : Array Oper} {Q : Exit → Act → World → Prop} {i : Nat} {o : Oper} {next : Act → World → Prop} {a : Act} {w : World} (ho : ops[i]? = some o) (hd : ∀ c, o.op ≠ .defer c)
    (h : ∀ K : Act → World → Prop, (∀ a w, next a w → K a w) → if Region.wanted o (yielded ops a.tmps) = true then o.wp P a w K Q else K (a.put o.dst undef) w) : wpOpIn (Fence.wide.inRound l) n P ops Q i next a w := by
  have h1 := h next (fun _ _ h => h)
  unfold wpOpIn
  rw [ho]
  dsimp only
  split
  · rename_i hw
    rw [if_pos hw] at h1
    exact oper_in hd h1
  · rename_i hw
    rw [if_neg hw] at h1
    exact ⟨fun _ _ => trivial, h1⟩

section
variable {P : Program} {ops : Array Oper} {Q : Exit → Act → World → Prop} {md : Region.Mode} {l n : Nat}
variable {Sl : Nat → Value → World → Prop} {Inv : World → Prop} {G : World → World → Prop} {a0 : Act}

theorem walkIn (hnd : (ops.all fun o => notDefer o.op) = true) (hmono : ∀ d v w w', Sl d v w → G w w' → Sl d v w') (hf : fine a0.tmps.size ops = true) (hs : ∀ (i : Nat) (o : Oper), ops[i]? = some o → Step P md ops Q Sl Inv G a0 o)
    (hfin : ∀ a w, Same ops a0 a → Inv w → (∀ (i : Nat) (o : Oper) d, ops[i]? = some o → o.dst = some d → Sl d (a.tmps.getD d undef) w) → Q .normal a w) :
    ∀ (fuel : Nat) (listed : Array Bool) (a : Act) (w : World), left listed ops.size ≤ fuel → listed.size = ops.size → Same ops a0 a → Inv w →
      (∀ (i : Nat) (o : Oper) d, ops[i]? = some o → listed.getD i true = true → o.dst = some d → Sl d (a.tmps.getD d undef) w) → wpAnyIn (Fence.wide.inRound l) n P md ops Q fuel listed a w := by
  have ends : ∀ (listed : Array Bool) (a : Act) (w : World), (∀ i, i < ops.size → listed.getD i true = true) → Same ops a0 a → Inv w →
      (∀ (i : Nat) (o : Oper) d, ops[i]? = some o → listed.getD i true = true → o.dst = some d → Sl d (a.tmps.getD d undef) w) → Q .normal a w := fun listed a w hl hsame hinv hsl =>
    hfin a w hsame hinv fun i o d ho hd => hsl i o d ho (hl i (Array.getElem?_eq_some_iff.1 ho).1) hd
  have alls : ∀ listed : Array Bool, listed.size = ops.size → Region.ready md ops listed = [] → ∀ i, i < ops.size → listed.getD i true = true := by
    intro listed hsz hr i
    induction i using Nat.strongRecOn with
    | _ i ih =>
      intro hi
      cases hg : listed.getD i true with
      | true => rfl
      | false =>
        exfalso
        have : i ∈ Region.ready md ops listed := mem_ready.2 ⟨hg, ops[i], Array.getElem?_eq_getElem hi, fun e he _ => by
          have hlt := fine_down hf (Array.getElem?_eq_getElem hi) e he
          have h1 := ih e.on hlt (by omega)
          have h2 : e.on < listed.size := by omega
          simp only [Array.getD_eq_getD_getElem?, Array.getElem?_eq_getElem h2, Option.getD_some] at h1 ⊢
          exact h1⟩
        rw [hr] at this
        cases this
  intro fuel
  induction fuel with
  | zero =>
    intro listed a w hl hsz hsame hinv hsl
    have hall := left_zero (listed := listed) (n := ops.size) (by omega)
    refine ⟨?_, ends listed a w hall hsame hinv hsl⟩
    cases hr : Region.ready md ops listed with
    | nil => rfl
    | cons j r =>
      have hj : j ∈ Region.ready md ops listed := by rw [hr]; exact List.mem_cons_self ..
      obtain ⟨hun, o, ho, _⟩ := mem_ready.1 hj
      rw [hall j (Array.getElem?_eq_some_iff.1 ho).1] at hun
      cases hun
  | succ fuel ih =>
    intro listed a w hl hsz hsame hinv hsl
    refine ⟨fun hr => ends listed a w (alls listed hsz hr) hsame hinv hsl, fun i hi => ?_⟩
    obtain ⟨hun, o, ho, hdep⟩ := mem_ready.1 hi
    have hib : i < ops.size := (Array.getElem?_eq_some_iff.1 ho).1
    refine wpOpIn_step ho (notDefer_of hnd ho) fun K hK => hs i o ho a w hsame hinv ?_ K ?_
    · intro d hd
      have hd' : d ∈ needs md ops o := by simpa using hd
      obtain ⟨e, he, hed⟩ := List.mem_filterMap.1 hd'
      obtain ⟨he1, he2⟩ := List.mem_filter.1 he
      cases hoe : ops[e.on]? with
      | none => rw [hoe] at hed; cases hed
      | some oe =>
        rw [hoe] at hed
        have hl1 := hdep e (by simpa using he1) he2
        refine hsl e.on oe d hoe ?_ hed
        have h2 : e.on < listed.size := by have := (Array.getElem?_eq_some_iff.1 hoe).1; omega
        simp only [Array.getD_eq_getD_getElem?, Array.getElem?_eq_getElem h2, Option.getD_some] at hl1 ⊢
        exact hl1
    · intro v w' hg hinv' hv
      refine hK _ _ (ih (listed.setIfInBounds i true) (a.put o.dst v) w' ?_ (by simpa using hsz) ⟨(put_defers ..).trans hsame.defers, (put_size ..).trans hsame.size, fun d hd => ?_⟩ hinv' ?_)
      · have := left_less hun hib; omega
      · rw [getD_put_other (hd i o ho)]; exact hsame.old d hd
      · intro j oj d hoj hlj hdj
        by_cases hji : j = i
        · subst hji
          rw [ho] at hoj
          cases hoj
          have hds := (fine_slot hf ho hdj).1
          rw [hdj, getD_put_same (by rw [hsame.size]; exact hds)]
          exact hv d hdj
        · rw [getD_put_other (fun e => hji (fine_one hf hoj ho hdj e))]
          rw [getD_set_ne true (Ne.symm hji)] at hlj
          exact hmono _ _ _ _ (hsl j oj d hoj hlj hdj) hg

/-- **The law**: a region that draws its order. -/
theorem regionIn (l n : Nat) {id : Nat} {w : World} (Sl : Nat → Value → World → Prop) (Inv : World → Prop) (G : World → World → Prop) (hm : P.follows .mixedOrders = true) (hf : fine a0.tmps.size ops = true) (hnd : (ops.all fun o => notDefer o.op) = true)
    (hmono : ∀ d v w w', Sl d v w → G w w' → Sl d v w') (h0 : Inv w.drew) (hs : Steps P .any ops Q Sl Inv G a0 ops.toList)
    (hfin : ∀ a w, Same ops a0 a → Inv w → (∀ (i : Nat) (o : Oper) d, ops[i]? = some o → o.dst = some d → Sl d (a.tmps.getD d undef) w) → Q .normal a w) :
    (Code.region id ops true).wpIn (Fence.wide.inRound l) n P Q a0 w := by
  refine wpIn_region_any hm ?_
  refine walkIn hnd hmono hf (fun i o ho => hs.at o (by simpa using Array.mem_of_getElem? ho)) hfin _ _ a0 w.drew ?_ (by simp) ⟨rfl, rfl, fun _ _ => rfl⟩ h0 ?_
  · have : ∀ n, left (Array.replicate ops.size false) n ≤ n := by
      intro n
      induction n with
      | zero => exact Nat.le_refl _
      | succ n ih => simp only [left]; split <;> omega
    exact this _
  · intro i o d ho hl _
    have hi : i < ops.size := (Array.getElem?_eq_some_iff.1 ho).1
    simp [hi] at hl

end
end Flow
end Go.Proofs.Ytbmcdlcoojmppaa

/-
  The law LockHolds: a range over what an owner holds.
-/
namespace Go.Proofs.Ytbmcdlcoojmppaa
open Go.RowKit Go.Maps

/-- The first range over a function that a function holds. -/
def firstRange : Code → Option Code
  | .seq a b => match firstRange a with
    | some c => some c
    | none => firstRange b
  | .cond _ a b => match firstRange a with
    | some c => some c
    | none => firstRange b
  | .block _ a => firstRange a
  | .loop a => firstRange a
  | .scope a => firstRange a
  | .rangeFunc f p a b => some (.rangeFunc f p a b)
  | _ => none
def rangeOf (f : Func) : Code := match f.body with
  | some c => (firstRange c).getD .skip
  | none => .skip

/-! ### What a loop over a function leaves in its function's frame -/
def dmark (D : Nat) : Deferred := { target := .collected D, args := #[] }
theorem leaves_marks {F : Fence} {n : Nat} {P : Program} {fn : Func} {tmps : Array Value} {R : Ending → World → Prop} : ∀ (Ds : List Nat) (W : World), Ds.Nodup → (∀ D, D ∈ Ds → W.heap[D]? = some (.deferred (some []))) →
    (∀ W', Onl (fun k => k ∈ Ds) W W' → LeavesInM F n P fn tmps R [] .returning W') → LeavesInM F n P fn tmps R (Ds.map dmark) .returning W
  | [], W, _, _, h => h W (Onl.refl _ _)
  | D :: r, W, hn, hD, h => by
    obtain ⟨h1, h2⟩ := List.nodup_cons.1 hn
    have hK := hD D (by simp)
    refine ⟨by simp, .inl ⟨D, _, rfl, run_takeDeferred hK, ?_⟩⟩
    have g := grownBy_putObj' W D (.deferred none)
    refine leaves_marks r _ h2 (fun E hE => (g.block E (Array.getElem?_eq_some_iff.1 (hD E (by simp [hE]))).1 fun e => by cases e; exact h1 hE).trans (hD E (by simp [hE]))) fun W' hw => h W' ?_
    exact (Onl.of_grown (S := fun k => k ∈ D :: r) g (by simp)).trans hw fun k _ hk => by simp [hk]

/-- The law of the range, where a round's frame is the loop's own with some slots set. -/
theorem wpIn_range_toldG {F : Fence} {n : Nat} {P : Program} {w : World} {α ρ : Type} {g : Operand} {ps : Array Tmp} {assign body : Code} {Q : Exit → Act → World → Prop} {a : Act}
    (hro : F.round = none) (h1 : 1 ≤ n) {gf : Nat} {lb : Array Value} (hg : a.eval g = .func (.func gf) #[] lb) (hFg : F.fn gf) (eg : ∀ args w, (callFunc gf args).run P w = .ok (.enter gf args) w)
    {encs : α → Array Value} {G : List α → α → World → Prop} {Ks : Nat → Prop} {S : List α → Prop} {w0 : World} (hseq : SeqTold F (n - 1) P gf lb encs G Ks S (fun _ => True) w0)
    (hb0 : Below w0.heap.size w0 w) (hps : ∀ x, (encs x).size = ps.size)
    (I : List α → World → Prop) (hI : OwnFrom w.heap.size I) (h0 : I [] w) (upd : Array Value → α → ρ → Array Value) (Bx : List α → α → ρ → World → Prop) (hBx : ∀ pre x R, OwnFrom w.heap.size (fun (_ : Unit) W => Bx pre x R W))
    (hassign : ∀ (l : Nat) (pre : List α) (x : α) (W : World) (K : Act → World → Prop), I pre W → G pre x W → (∀ R V, KeepsFrom w.heap.size W V → HoldS firm Ks W V → I pre V → Bx pre x R V → K { tmps := upd a.tmps x R, defers := [] } V) →
      assign.wpIn (F.inRound l) (n - 1 - 1) P (Exit.then K (fun _ _ _ => False)) { tmps := (ps.zip (encs x)).foldl (fun t (p, v) => t.setIfInBounds p v) a.tmps, defers := [] } W)
    (hbody : ∀ (l : Nat) (pre : List α) (x : α) (R : ρ) (W : World), w.heap.size ≤ l → I pre W → Bx pre x R W → body.wpIn (F.inRound l) (n - 1 - 1) P (toldPost w.heap.size Ks I (fun _ _ => False) (pre ++ [x]) W) { tmps := upd a.tmps x R, defers := [] } W)
    (hdone : ∀ (D : Nat) (xs : List α) (W : World), w.heap.size ≤ D → S xs → I xs W → W.heap[D]? = some (.deferred (some [])) → Q .normal { a with defers := { target := .collected D, args := #[] } :: a.defers } W) :
    (Code.rangeFunc g ps assign body).wpIn F n P Q a w :=
  wpIn_range_told hro h1 hg hFg eg hseq hb0 hps I (fun _ _ => False) hI (fun _ _ _ _ h _ _ => h) h0 (fun pre x b V => ∃ R, Bx pre x R V ∧ b = { tmps := upd a.tmps x R, defers := [] })
    (fun pre x b s X Y row ⟨R, h, e⟩ hg hr => ⟨R, hBx pre x R () X Y row h hg hr, e⟩)
    (fun l pre x W K hi hx hK => hassign l pre x W K hi hx fun R V h1 h2 h3 h4 => hK _ V h1 h2 h3 ⟨R, h4, rfl⟩)
    (fun l pre x b W hl hi ⟨R, h, e⟩ => by subst e; exact hbody l pre x R W hl hi h) hdone (fun _ _ _ _ _ h _ => h.elim)

/-! ### How it stands as the range begins, and while it goes -/
abbrev TSn : TypeId := 52
structure RgX (X : World) (t km om vb ob ib sb mm g4 N c4 i o : Nat) (B : Tag → Option Nat) (T : Tb) : Prop where
  tb : TbAt X t km om B T
  bv : Blk X vb TPt #[.pointer (some ⟨t, 0, none⟩)]
  bo : Blk X ob TUs #[.slice (some ⟨g4, 0, none⟩) N c4]
  bi : Blk X ib TI #[.int .i64 (i : Int)]
  bs : Blk X sb TSn #[.map (some mm)]
  ro : X.cell? ⟨g4, i, none⟩ = some (.int .u64 (o : Int))
structure RgFar (X : World) (ib nb mm g4 : Nat) (B : Tag → Option Nat) : Prop where
  fm : ¬ FB B mm
  im : ∃ es c, X.heap[mm]? = some (.map es c)
  cn : ∃ v, Blk X nb TI #[v]
  ne : ib ≠ nb
  rw : ∃ cur, X.heap[g4]? = some (.cells cur TOw (0, 0))
theorem RgX.onl {X V : World} {t km om vb ob ib sb nb mm g4 N c4 i o : Nat} {B : Tag → Option Nat} {T : Tb} (h : RgX X t km om vb ob ib sb mm g4 N c4 i o B T) (f : RgFar X ib nb mm g4 B) (g : Onl (fun n => n = nb ∨ n = mm) X V) :
    RgX V t km om vb ob ib sb mm g4 N c4 i o B T := by
  obtain ⟨es, ck, hm⟩ := f.im
  obtain ⟨v, hn⟩ := f.cn
  obtain ⟨cur, hr⟩ := f.rw
  have hfn : ¬ FB B nb := h.tb.far_ty hn (by decide) (by decide) (by decide) (by decide)
  have keep : ∀ {q : Nat} {ty : TypeId} {cs : Array Value}, Blk X q ty cs → q ≠ nb → Blk V q ty cs := fun {q ty cs} hb hq => hb.stays (g.block q hb.lt fun e => by
    rcases e with e | e
    · exact hq e
    · unfold Blk at hb
      rw [e, hm] at hb
      cases hb)
  have nt : ∀ {q : Nat} {ty : TypeId} {cs : Array Value}, Blk X q ty cs → ty ≠ TI → q ≠ nb := fun {q ty cs} hb ht e => by
    unfold Blk at hb hn
    rw [e, hn] at hb
    cases hb
    exact ht rfl
  refine ⟨h.tb.stays fun a n ha => g.block n (h.tb.lt a n ha) fun e => ?_, keep h.bv (nt h.bv (by decide)), keep h.bo (nt h.bo (by decide)), keep h.bi f.ne, keep h.bs (nt h.bs (by decide)), ?_⟩
  · rcases e with e | e
    · exact hfn ⟨a, by rw [ha, e]⟩
    · exact f.fm ⟨a, by rw [ha, e]⟩
  · have e9 : V.heap[g4]? = X.heap[g4]? := g.block g4 (Array.getElem?_eq_some_iff.1 hr).1 fun e => by
      rcases e with e | e
      · unfold Blk at hn
        rw [e, hn] at hr
        cases hr
      · rw [e, hm] at hr
        cases hr
    have := h.ro
    unfold World.cell? at this ⊢
    simp only [e9] at this ⊢
    exact this
def seenF (pre : List (Key × Int)) (k : Key) : Option Value := if k ∈ pre.map Prod.fst then some (.bool true) else none
structure HgAt (X V : World) (nb mm c : Nat) (L : List (Key × Int)) (pre : List (Key × Int)) : Prop where
  onl : Onl (fun n => n = nb ∨ n = mm) X V
  bn : Blk V nb TI #[.int .i64 ((c + pre.length : Nat) : Int)]
  mp : ∃ sk, Mp Try.prog KL V mm (seenF pre) sk
  pre : pre = L.take pre.length
theorem HgAt.more {X V V' : World} {nb mm c : Nat} {L pre : List (Key × Int)} (h : HgAt X V nb mm c L pre) (g : Gr V V') : HgAt X V' nb mm c L pre := by
  obtain ⟨sk, hm⟩ := h.mp
  exact ⟨h.onl.trans (Onl.of_gr (S := fun n => n = nb ∨ n = mm) g) (fun _ _ e => e), h.bn.gr g, ⟨sk, hm.stays (g.block mm hm.lt)⟩, h.pre⟩
theorem hgAt_own {X : World} {nb mm c : Nat} {L : List (Key × Int)} (hn : nb < X.heap.size) (hm : mm < X.heap.size) : OwnFrom X.heap.size (fun pre V => HgAt X V nb mm c L pre) := fun pre W W' row h hg hr => by
  obtain ⟨sk, hp⟩ := h.mp
  have hne : ∀ k, k < X.heap.size → W'.heap[k]? = W.heap[k]? := fun k hk => hg.block k (Nat.lt_of_lt_of_le hk h.onl.size) fun e => by have := (hr k e.symm).1; omega
  exact ⟨⟨hg.os.trans h.onl.os, hg.tape.trans h.onl.tape, hg.output.trans h.onl.output, Nat.le_trans h.onl.size hg.size, fun k hk hs => (hne k hk).trans (h.onl.block k hk hs)⟩, h.bn.stays (hne nb hn), ⟨sk, hp.stays (hne mm hm)⟩, h.pre⟩
theorem HgAt.next {X W W9 : World} {nb mm c : Nat} {L pre : List (Key × Int)} {x : Key × Int} (h : HgAt X W nb mm c L pre) (hne : nb ≠ mm) (hG : W.grownBy W9 (some mm)) {sk : List Key} (hM : Mp Try.prog KL W9 mm (seenF (pre ++ [x])) sk) (hp : pre ++ [x] = L.take (pre ++ [x]).length) :
    HgAt X (W9.setCell ⟨nb, 0, none⟩ (.int .i64 ((c + pre.length + 1 : Nat) : Int))) nb mm c L (pre ++ [x]) := by
  have b9 : Blk W9 nb TI #[.int .i64 ((c + pre.length : Nat) : Int)] := h.bn.stays (hG.block nb h.bn.lt fun e => hne (Option.some.inj e))
  refine ⟨(h.onl.trans (Onl.of_grown (S := fun n => n = nb ∨ n = mm) hG (.inr rfl)) (fun _ _ e => e)).trans (Onl.of_set (S := fun n => n = nb ∨ n = mm) _ (.inl rfl)) (fun _ _ e => e), ?_, ⟨sk, hM.stays (Below.heap_setCell _ _ _ _ fun e => hne e.symm)⟩, hp⟩
  rw [List.length_append, List.length_singleton, ← Nat.add_assoc]
  exact b9.set 0 _
theorem seen_store (pre : List (Key × Int)) (x : Key × Int) : updF (seenF pre) x.1 (some (.bool true)) = seenF (pre ++ [x]) := by
  funext k
  unfold seenF
  by_cases e : k = x.1
  · subst e
    rw [updF_same, if_pos (by simp)]
  · rw [updF_other _ _ e]
    by_cases e2 : k ∈ pre.map Prod.fst
    · rw [if_pos e2, if_pos (by simp only [List.map_append, List.mem_append]; exact .inl e2)]
    · rw [if_neg e2, if_neg (by simp only [List.map_append, List.mem_append, List.map_cons, List.map_nil, List.mem_singleton]; exact fun e3 => e3.elim e2 e)]
end Go.Proofs.Ytbmcdlcoojmppaa

