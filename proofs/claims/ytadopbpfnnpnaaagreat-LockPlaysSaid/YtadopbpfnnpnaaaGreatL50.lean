/-
  Texts on locks, put together: FlowIn Lk37.
-/
import Derived.OrdersIn
import Derived.RangeFuncCalls
import Derived.OwnWalkIn
import Derived.Test.YtadopbpfnnpnaaaGreatL2
import Derived.Test.YtadopbpfnnpnaaaGreatL14
import Derived.Test.YtadopbpfnnpnaaaGreatL48
set_option linter.unusedVariables false
set_option linter.unusedSimpArgs false
/-
  A region that draws its order, told slot by slot, in a round of a loop over a function. Over whatever program.
-/
namespace Go.Proofs.YtadopbpfnnpnaaaGreat
namespace Flow
open Go

def notDefer : Op → Bool
  | .defer _ => false
  | _ => true
theorem notDefer_of {ops : Array Oper} (h : (ops.all fun o => notDefer o.op) = true) {i : Nat} {o : Oper} (ho : ops[i]? = some o) : ∀ c, o.op ≠ .defer c := by
  have h2 := Array.all_eq_true_iff_forall_mem.1 h o (Array.mem_of_getElem? ho)
  intro c e
  rw [e] at h2
  cases h2

theorem rows_in {n l : Nat} {P : Program} {row : String} {args : Array Value} {w : World} {R : Value → World → Prop} (h : Go.Rows P row args w R) : RowsIn (Fence.wide.inRound l) n P row args w R := fun c cs _ => by
  obtain ⟨v, w', r, s⟩ := h c cs
  exact ⟨v, w', r, stepsIn_wide.2 s⟩
/-- What is carried out anywhere is carried out in a round. -/
theorem oper_in {n l : Nat} {P : Program} {o : Oper} {a : Act} {w : World} {K : Act → World → Prop} {Q : Exit → Act → World → Prop} (hd : ∀ c, o.op ≠ .defer c) (h : o.wp P a w K Q) : o.wpIn (Fence.wide.inRound l) n P a w K Q := by
  unfold Oper.wpIn
  refine ⟨fun _ _ => trivial, ?_⟩
  rw [Oper.semAt_plain _ _ _ hd]
  unfold Oper.wp at h
  generalize (execOp a.eval o).run P w = r at h ⊢
  cases r with
  | ok x w' =>
    cases x with
    | enter f args => exact ⟨(fun hh => by cases hh), (callsIn_wide.2 h).inRound l⟩
    | row row args => exact ⟨(fun hh => by cases hh), rows_in h⟩
    | round => exact h.elim
    | _ => exact h
  | halt x w' => cases x <;> exact h
theorem wpOpIn_step {n l : Nat} {P : Program} {ops : Array Oper} {Q : Exit → Act → World → Prop} {i : Nat} {o : Oper} {next : Act → World → Prop} {a : Act} {w : World} (ho : ops[i]? = some o) (hd : ∀ c, o.op ≠ .defer c)
    (h : ∀ K : Act → World → Prop, (∀ a w, next a w → K a w) → if Region.wanted o (yielded ops a.tmps) = true then o.wp P a w K Q else K (a.put o.dst undef) w) : wpOpIn (Fence.wide.inRound l) n P ops Q i next a w := by
  have h1 := h next (fun _ _ h => h)
  unfold wpOpIn
  rw [ho]
  dsimp only
  split
  · rename_i hw
    rw [if_pos hw] at h1
    exact oper_in hd h1
  · rename_i hw
    rw [if_neg hw] at h1
    exact ⟨fun _ _ => trivial, h1⟩

section
variable {P : Program} {ops : Array Oper} {Q : Exit → Act → World → Prop} {md : Region.Mode} {l n : Nat}
variable {Sl : Nat → Value → World → Prop} {Inv : World → Prop} {G : World → World → Prop} {a0 : Act}

theorem walkIn (hnd : (ops.all fun o => notDefer o.op) = true) (hmono : ∀ d v w w', Sl d v w → G w w' → Sl d v w') (hf : fine a0.tmps.size ops = true) (hs : ∀ (i : Nat) (o : Oper), ops[i]? = some o → Step P md ops Q Sl Inv G a0 o)
    (hfin : ∀ a w, Same ops a0 a → Inv w → (∀ (i : Nat) (o : Oper) d, ops[i]? = some o → o.dst = some d → Sl d (a.tmps.getD d undef) w) → Q .normal a w) :
    ∀ (fuel : Nat) (listed : Array Bool) (a : Act) (w : World), left listed ops.size ≤ fuel → listed.size = ops.size → Same ops a0 a → Inv w →
      (∀ (i : Nat) (o : Oper) d, ops[i]? = some o → listed.getD i true = true → o.dst = some d → Sl d (a.tmps.getD d undef) w) → wpAnyIn (Fence.wide.inRound l) n P md ops Q fuel listed a w := by
  have ends : ∀ (listed : Array Bool) (a : Act) (w : World), (∀ i, i < ops.size → listed.getD i true = true) → Same ops a0 a → Inv w →
      (∀ (i : Nat) (o : Oper) d, ops[i]? = some o → listed.getD i true = true → o.dst = some d → Sl d (a.tmps.getD d undef) w) → Q .normal a w := fun listed a w hl hsame hinv hsl =>
    hfin a w hsame hinv fun i o d ho hd => hsl i o d ho (hl i (Array.getElem?_eq_some_iff.1 ho).1) hd
  have alls : ∀ listed : Array Bool, listed.size = ops.size → Region.ready md ops listed = [] → ∀ i, i < ops.size → listed.getD i true = true := by
    intro listed hsz hr i
    induction i using Nat.strongRecOn with
    | _ i ih =>
      intro hi
      cases hg : listed.getD i true with
      | true => rfl
      | false =>
        exfalso
        have : i ∈ Region.ready md ops listed := mem_ready.2 ⟨hg, ops[i], Array.getElem?_eq_getElem hi, fun e he _ => by
          have hlt := fine_down hf (Array.getElem?_eq_getElem hi) e he
          have h1 := ih e.on hlt (by omega)
          have h2 : e.on < listed.size := by omega
          simp only [Array.getD_eq_getD_getElem?, Array.getElem?_eq_getElem h2, Option.getD_some] at h1 ⊢
          exact h1⟩
        rw [hr] at this
        cases this
  intro fuel
  induction fuel with
  | zero =>
    intro listed a w hl hsz hsame hinv hsl
    have hall := left_zero (listed := listed) (n := ops.size) (by omega)
    refine ⟨?_, ends listed a w hall hsame hinv hsl⟩
    cases hr : Region.ready md ops listed with
    | nil => rfl
    | cons j r =>
      have hj : j ∈ Region.ready md ops listed := by rw [hr]; exact List.mem_cons_self ..
      obtain ⟨hun, o, ho, _⟩ := mem_ready.1 hj
      rw [hall j (Array.getElem?_eq_some_iff.1 ho).1] at hun
      cases hun
  | succ fuel ih =>
    intro listed a w hl hsz hsame hinv hsl
    refine ⟨fun hr => ends listed a w (alls listed hsz hr) hsame hinv hsl, fun i hi => ?_⟩
    obtain ⟨hun, o, ho, hdep⟩ := mem_ready.1 hi
    have hib : i < ops.size := (Array.getElem?_eq_some_iff.1 ho).1
    refine wpOpIn_step ho (notDefer_of hnd ho) fun K hK => hs i o ho a w hsame hinv ?_ K ?_
    · intro d hd
      have hd' : d ∈ needs md ops o := by simpa using hd
      obtain ⟨e, he, hed⟩ := List.mem_filterMap.1 hd'
      obtain ⟨he1, he2⟩ := List.mem_filter.1 he
      cases hoe : ops[e.on]? with
      | none => rw [hoe] at hed; cases hed
      | some oe =>
        rw [hoe] at hed
        have hl1 := hdep e (by simpa using he1) he2
        refine hsl e.on oe d hoe ?_ hed
        have h2 : e.on < listed.size := by have := (Array.getElem?_eq_some_iff.1 hoe).1; omega
        simp only [Array.getD_eq_getD_getElem?, Array.getElem?_eq_getElem h2, Option.getD_some] at hl1 ⊢
        exact hl1
    · intro v w' hg hinv' hv
      refine hK _ _ (ih (listed.setIfInBounds i true) (a.put o.dst v) w' ?_ (by simpa using hsz) ⟨(put_defers ..).trans hsame.defers, (put_size ..).trans hsame.size, fun d hd => ?_⟩ hinv' ?_)
      · have := left_less hun hib; omega
      · rw [getD_put_other (hd i o ho)]; exact hsame.old d hd
      · intro j oj d hoj hlj hdj
        by_cases hji : j = i
        · subst hji
          rw [ho] at hoj
          cases hoj
          have hds := (fine_slot hf ho hdj).1
          rw [hdj, getD_put_same (by rw [hsame.size]; exact hds)]
          exact hv d hdj
        · rw [getD_put_other (fun e => hji (fine_one hf hoj ho hdj e))]
          rw [getD_set_ne true (Ne.symm hji)] at hlj
          exact hmono _ _ _ _ (hsl j oj d hoj hlj hdj) hg

/-- **The law**: a region that draws its order. -/
theorem regionIn (l n : Nat) {id : Nat} {w : World} (Sl : Nat → Value → World → Prop) (Inv : World → Prop) (G : World → World → Prop) (hm : P.follows .mixedOrders = true) (hf : fine a0.tmps.size ops = true) (hnd : (ops.all fun o => notDefer o.op) = true)
    (hmono : ∀ d v w w', Sl d v w → G w w' → Sl d v w') (h0 : Inv w.drew) (hs : Steps P .any ops Q Sl Inv G a0 ops.toList)
    (hfin : ∀ a w, Same ops a0 a → Inv w → (∀ (i : Nat) (o : Oper) d, ops[i]? = some o → o.dst = some d → Sl d (a.tmps.getD d undef) w) → Q .normal a w) :
    (Code.region id ops true).wpIn (Fence.wide.inRound l) n P Q a0 w := by
  refine wpIn_region_any hm ?_
  refine walkIn hnd hmono hf (fun i o ho => hs.at o (by simpa using Array.mem_of_getElem? ho)) hfin _ _ a0 w.drew ?_ (by simp) ⟨rfl, rfl, fun _ _ => rfl⟩ h0 ?_
  · have : ∀ n, left (Array.replicate ops.size false) n ≤ n := by
      intro n
      induction n with
      | zero => exact Nat.le_refl _
      | succ n ih => simp only [left]; split <;> omega
    exact this _
  · intro i o d ho hl _
    have hi : i < ops.size := (Array.getElem?_eq_some_iff.1 ho).1
    simp [hi] at hl

end
end Flow
end Go.Proofs.YtadopbpfnnpnaaaGreat

/-
  The law's nothing: a table that is not there.
-/
namespace Go.Proofs.YtadopbpfnnpnaaaGreat
open Go.RowKit Go.Maps Go.Shelf
attribute [local go_sem] Oper.semAt_some

abbrev TSq : TypeId := 92
theorem seq_nil_func (f : Go.Fn) (g bs : Array Value) (W : World) : (binOp .eql TSq (.func f g bs) .nilFunc).run Tryz.prog W = .ok (.bool false) W := by
  have h : (Op.equal TSq (.func f g bs) .nilFunc).run Tryz.prog W = .ok false W := by
    unfold Op.equal
    have h2 : ∀ D : Nat, (Op.equalIn (D + 1) TSq (.func f g bs) .nilFunc).run Tryz.prog W = .ok false W := fun D => by
      simp [Op.equalIn, run_underlying Tryz.underlying92]
    exact h2 _
  unfold binOp
  simp [h]
end Go.Proofs.YtadopbpfnnpnaaaGreat

