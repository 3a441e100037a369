/-
  Texts, put together: FlowL.
-/
import Derived.Test.YtaemmknijmhnoaaGreatK4
set_option linter.unusedVariables false
set_option linter.unusedSimpArgs false
/-
  A region that draws its order, told slot by slot (XFlow's), where an edge that does not bind may go forward. Over whatever program.
-/
namespace Go.Proofs.YtaemmknijmhnoaaGreat
namespace Flow
open Go

section
variable {P : Program} {ops : Array Oper} {Q : Exit → Act → World → Prop} {md : Region.Mode}
variable {Sl : Nat → Value → World → Prop} {Inv : World → Prop} {G : World → World → Prop} {a0 : Act}

theorem walkL (hmono : ∀ d v w w', Sl d v w → G w w' → Sl d v w') (hf : fineB md a0.tmps.size ops = true) (hs : ∀ (i : Nat) (o : Oper), ops[i]? = some o → Step P md ops Q Sl Inv G a0 o)
    (hfin : ∀ a w, Same ops a0 a → Inv w → (∀ (i : Nat) (o : Oper) d, ops[i]? = some o → o.dst = some d → Sl d (a.tmps.getD d undef) w) → Q .normal a w) :
    ∀ (fuel : Nat) (listed : Array Bool) (a : Act) (w : World), left listed ops.size ≤ fuel → listed.size = ops.size → Same ops a0 a → Inv w →
      (∀ (i : Nat) (o : Oper) d, ops[i]? = some o → listed.getD i true = true → o.dst = some d → Sl d (a.tmps.getD d undef) w) → wpAny P md ops Q fuel listed a w := by
  have ends : ∀ (listed : Array Bool) (a : Act) (w : World), (∀ i, i < ops.size → listed.getD i true = true) → Same ops a0 a → Inv w →
      (∀ (i : Nat) (o : Oper) d, ops[i]? = some o → listed.getD i true = true → o.dst = some d → Sl d (a.tmps.getD d undef) w) → Q .normal a w := fun listed a w hl hsame hinv hsl =>
    hfin a w hsame hinv fun i o d ho hd => hsl i o d ho (hl i (Array.getElem?_eq_some_iff.1 ho).1) hd
  have alls : ∀ listed : Array Bool, listed.size = ops.size → Region.ready md ops listed = [] → ∀ i, i < ops.size → listed.getD i true = true := by
    intro listed hsz hr i
    induction i using Nat.strongRecOn with
    | _ i ih =>
      intro hi
      cases hg : listed.getD i true with
      | true => rfl
      | false =>
        exfalso
        have : i ∈ Region.ready md ops listed := mem_ready.2 ⟨hg, ops[i], Array.getElem?_eq_getElem hi, fun e he hbd => by
          have hlt := fineB_down hf (Array.getElem?_eq_getElem hi) e he hbd
          have h1 := ih e.on hlt (by omega)
          have h2 : e.on < listed.size := by omega
          simp only [Array.getD_eq_getD_getElem?, Array.getElem?_eq_getElem h2, Option.getD_some] at h1 ⊢
          exact h1⟩
        rw [hr] at this
        cases this
  intro fuel
  induction fuel with
  | zero =>
    intro listed a w hl hsz hsame hinv hsl
    have hall := left_zero (listed := listed) (n := ops.size) (by omega)
    refine ⟨?_, ends listed a w hall hsame hinv hsl⟩
    cases hr : Region.ready md ops listed with
    | nil => rfl
    | cons j r =>
      have hj : j ∈ Region.ready md ops listed := by rw [hr]; exact List.mem_cons_self ..
      obtain ⟨hun, o, ho, _⟩ := mem_ready.1 hj
      rw [hall j (Array.getElem?_eq_some_iff.1 ho).1] at hun
      cases hun
  | succ fuel ih =>
    intro listed a w hl hsz hsame hinv hsl
    refine ⟨fun hr => ends listed a w (alls listed hsz hr) hsame hinv hsl, fun i hi => ?_⟩
    obtain ⟨hun, o, ho, hdep⟩ := mem_ready.1 hi
    have hib : i < ops.size := (Array.getElem?_eq_some_iff.1 ho).1
    refine wpOp_step ho fun K hK => hs i o ho a w hsame hinv ?_ K ?_
    · intro d hd
      have hd' : d ∈ needs md ops o := by simpa using hd
      obtain ⟨e, he, hed⟩ := List.mem_filterMap.1 hd'
      obtain ⟨he1, he2⟩ := List.mem_filter.1 he
      cases hoe : ops[e.on]? with
      | none => rw [hoe] at hed; cases hed
      | some oe =>
        rw [hoe] at hed
        have hl1 := hdep e (by simpa using he1) he2
        refine hsl e.on oe d hoe ?_ hed
        have h2 : e.on < listed.size := by have := (Array.getElem?_eq_some_iff.1 hoe).1; omega
        simp only [Array.getD_eq_getD_getElem?, Array.getElem?_eq_getElem h2, Option.getD_some] at hl1 ⊢
        exact hl1
    · intro v w' hg hinv' hv
      refine hK _ _ (ih (listed.setIfInBounds i true) (a.put o.dst v) w' ?_ (by simpa using hsz) ⟨(put_defers ..).trans hsame.defers, (put_size ..).trans hsame.size, fun d hd => ?_⟩ hinv' ?_)
      · have := left_less hun hib; omega
      · rw [getD_put_other (hd i o ho)]; exact hsame.old d hd
      · intro j oj d hoj hlj hdj
        by_cases hji : j = i
        · subst hji
          rw [ho] at hoj
          cases hoj
          have hds := (fineB_slot hf ho hdj).1
          rw [hdj, getD_put_same (by rw [hsame.size]; exact hds)]
          exact hv d hdj
        · rw [getD_put_other (fun e => hji (fineB_one hf hoj ho hdj e))]
          rw [getD_set_ne true (Ne.symm hji)] at hlj
          exact hmono _ _ _ _ (hsl j oj d hoj hlj hdj) hg

/-- **The law**: a region that draws its order. -/
theorem regionL {id : Nat} {w : World} (Sl : Nat → Value → World → Prop) (Inv : World → Prop) (G : World → World → Prop) (hm : P.follows .mixedOrders = true) (hf : fineB .any a0.tmps.size ops = true)
    (hmono : ∀ d v w w', Sl d v w → G w w' → Sl d v w') (h0 : Inv w.drew) (hs : Steps P .any ops Q Sl Inv G a0 ops.toList)
    (hfin : ∀ a w, Same ops a0 a → Inv w → (∀ (i : Nat) (o : Oper) d, ops[i]? = some o → o.dst = some d → Sl d (a.tmps.getD d undef) w) → Q .normal a w) :
    (Code.region id ops true).wp P Q a0 w := by
  refine wp_region_any hm ?_
  refine walkL hmono hf (fun i o ho => hs.at o (by simpa using Array.mem_of_getElem? ho)) hfin _ _ a0 w.drew ?_ (by simp) ⟨rfl, rfl, fun _ _ => rfl⟩ h0 ?_
  · have : ∀ n, left (Array.replicate ops.size false) n ≤ n := by
      intro n
      induction n with
      | zero => exact Nat.le_refl _
      | succ n ih => simp only [left]; split <;> omega
    exact this _
  · intro i o d ho hl _
    have hi : i < ops.size := (Array.getElem?_eq_some_iff.1 ho).1
    simp [hi] at hl

end
end Flow
end Go.Proofs.YtaemmknijmhnoaaGreat

