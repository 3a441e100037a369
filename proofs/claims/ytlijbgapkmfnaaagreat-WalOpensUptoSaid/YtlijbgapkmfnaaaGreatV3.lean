/-
  Part 3 of what the laws of stage 6 rest on: contracts of the functions that they call, and what these rest on.
-/
import Derived.Deep.DeepCutAuto
import Derived.Deep.CutBlock
import Derived.Test.YtlijbgapkmfnaaaGreatV1
import Derived.Test.YtlijbgapkmfnaaaGreatV2
set_option linter.unusedVariables false
set_option linter.unusedSimpArgs false
namespace Go.Proofs.YtlijbgapkmfnaaaGreat
namespace Flow
open Go
section
variable {P : Program} {ops : Array Oper} {Q : Exit → Act → World → Prop} {md : Region.Mode}
def reads (md : Region.Mode) (ops : Array Oper) (o : Oper) : List Nat := (o.after.toList.filter fun e => Region.binds md e && (match e.ground with
 | .data => true
 | _ => false)).filterMap fun e => (ops[e.on]?).bind (·.dst)
theorem early {b : Bool} {p : Prop} (h : cond b p True) (e : b = true) : p := by subst e; exact h
def bears2 (md : Region.Mode) (ops : Array Oper) (keep : List Nat) (fuel : Nat) (i d : Nat) : Bool :=
 ((List.range ops.size).any fun j => match ops[j]? with
  | some o => o.dst == some d && !waits md ops i fuel j
  | none => false) &&
 (keep.contains d || (List.range ops.size).any fun j => j != i && !waits md ops j fuel i && match ops[j]? with
  | some o => (reads md ops o).contains d
  | none => false)
theorem bears2_only {keep : List Nat} {fl i d : Nat} (l : List Nat) (h : (ops.toList.all fun o => match o.dst with
  | some e => !(bears2 md ops keep fl i e) || l.contains e
  | none => true) = true) (hb : bears2 md ops keep fl i d = true) : d ∈ l := by
 have h1 := hb
 unfold bears2 at h1
 rw [Bool.and_eq_true] at h1
 obtain ⟨j, _, hj⟩ := List.any_eq_true.1 h1.1
 cases ho : ops[j]? with
 | none => rw [ho] at hj; cases hj
 | some o =>
  rw [ho] at hj
  simp only [Bool.and_eq_true, beq_iff_eq] at hj
  have h2 := List.all_eq_true.1 h o (by simpa using Array.mem_of_getElem? ho)
  rw [hj.1] at h2
  simp only [hb, Bool.not_true, Bool.false_or] at h2
  simpa using h2
def StepV (P : Program) (md : Region.Mode) (ops : Array Oper) (Q : Exit → Act → World → Prop) (Sl : Nat → Value → World → Prop) (I J E : World → Prop) (early here : Bool) (G : World → World → Prop) (a0 : Act) (o : Oper) : Prop :=
 ∀ a w, Same ops a0 a → I w → cond early (E w) True → (∀ d, (reads md ops o).contains d = true → Sl d (a.tmps.getD d undef) w) →
  ∀ K : Act → World → Prop, (∀ v w', G w w' → J w' → cond here True (E w → E w') → (∀ d, o.dst = some d → Sl d v w') → K (a.put o.dst v) w') →
   if Region.wanted o (yielded ops a.tmps) = true then o.wp P a w K Q else K (a.put o.dst undef) w
def StepsZ (P : Program) (md : Region.Mode) (ops : Array Oper) (Q : Exit → Act → World → Prop) (Sl : Nat → Value → World → Prop) (Inv Fin Ear : World → Prop) (G : Nat → World → World → Prop) (a0 : Act) (z y fl : Nat) : Nat → List Oper → Prop
 | _, [] => True
 | i, o :: r => StepV P md ops Q Sl Inv (cond (i == z) Fin Inv) Ear (waits md ops i fl y) (i == y || i == z) (G i) a0 o ∧ StepsZ P md ops Q Sl Inv Fin Ear G a0 z y fl (i + 1) r
theorem StepsZ.cons {Sl : Nat → Value → World → Prop} {Inv Fin Ear : World → Prop} {G : Nat → World → World → Prop} {a0 : Act} {z y fl i : Nat} {o : Oper} {r : List Oper} (h : StepV P md ops Q Sl Inv (cond (i == z) Fin Inv) Ear (waits md ops i fl y) (i == y || i == z) (G i) a0 o) (k : StepsZ P md ops Q Sl Inv Fin Ear G a0 z y fl (i + 1) r) : StepsZ P md ops Q Sl Inv Fin Ear G a0 z y fl i (o :: r) := ⟨h, k⟩
theorem StepsZ.at {Sl : Nat → Value → World → Prop} {Inv Fin Ear : World → Prop} {G : Nat → World → World → Prop} {a0 : Act} {z y fl : Nat} : ∀ {l : List Oper} {i : Nat}, StepsZ P md ops Q Sl Inv Fin Ear G a0 z y fl i l → ∀ (j : Nat) (o : Oper), l[j]? = some o → StepV P md ops Q Sl Inv (cond (i + j == z) Fin Inv) Ear (waits md ops (i + j) fl y) (i + j == y || i + j == z) (G (i + j)) a0 o
 | [], _, _, _, _, h => by simp at h
 | x :: r, i, h, 0, o, ho => by
  simp only [List.getElem?_cons_zero, Option.some.injEq] at ho
  subst ho; exact h.1
 | x :: r, i, h, j + 1, o, ho => by
  simp only [List.getElem?_cons_succ] at ho
  have := StepsZ.at h.2 j o ho
  rwa [show i + 1 + j = i + (j + 1) by omega] at this
variable {Sl : Nat → Value → World → Prop} {Inv Fin Ear : World → Prop} {G : Nat → World → World → Prop} {a0 : Act}
theorem walkZ (z y : Nat) (oz : Oper) (hoz : ops[z]? = some oz) (keep : List Nat) (fl : Nat) (hall : ∀ j, j < ops.size → waits md ops j fl z = true) (hmono : ∀ i d v w w', bears2 md ops keep fl i d = true → Sl d v w → G i w w' → Sl d v w') (hf : fine a0.tmps.size ops = true) (hs : ∀ (i : Nat) (o : Oper), ops[i]? = some o → StepV P md ops Q Sl Inv (cond (i == z) Fin Inv) Ear (waits md ops i fl y) (i == y || i == z) (G i) a0 o)
  (hfin : ∀ a w, Same ops a0 a → Fin w → (∀ (i : Nat) (o : Oper) d, ops[i]? = some o → o.dst = some d → d ∈ keep → Sl d (a.tmps.getD d undef) w) → Q .normal a w) :
  ∀ (fuel : Nat) (listed : Array Bool) (a : Act) (w : World), left listed ops.size ≤ fuel → listed.size = ops.size → Closed md ops listed → Same ops a0 a → (listed.getD z true = false → Inv w) → (listed.getD z true = true → Fin w) → (listed.getD y true = false → Ear w) →
   (∀ (i : Nat) (o : Oper) d, ops[i]? = some o → listed.getD i true = true → o.dst = some d → (d ∈ keep ∨ ∃ (j : Nat) (oj : Oper), ops[j]? = some oj ∧ listed.getD j true = false ∧ d ∈ reads md ops oj) → Sl d (a.tmps.getD d undef) w) → wpAny P md ops Q fuel listed a w := by
 have hzb : z < ops.size := (Array.getElem?_eq_some_iff.1 hoz).1
 have ends : ∀ (listed : Array Bool) (a : Act) (w : World), (∀ i, i < ops.size → listed.getD i true = true) → Same ops a0 a → (listed.getD z true = true → Fin w) →
   (∀ (i : Nat) (o : Oper) d, ops[i]? = some o → listed.getD i true = true → o.dst = some d → (d ∈ keep ∨ ∃ (j : Nat) (oj : Oper), ops[j]? = some oj ∧ listed.getD j true = false ∧ d ∈ reads md ops oj) → Sl d (a.tmps.getD d undef) w) → Q .normal a w := fun listed a w hl hsame hinv hsl =>
  hfin a w hsame (hinv (hl z hzb)) fun i o d ho hd hk => hsl i o d ho (hl i (Array.getElem?_eq_some_iff.1 ho).1) hd (.inl hk)
 have alls : ∀ listed : Array Bool, listed.size = ops.size → Region.ready md ops listed = [] → ∀ i, i < ops.size → listed.getD i true = true := by
  intro listed hsz hr i
  induction i using Nat.strongRecOn with
  | _ i ih =>
   intro hi
   cases hg : listed.getD i true with
   | true => rfl
   | false =>
    exfalso
    have : i ∈ Region.ready md ops listed := mem_ready.2 ⟨hg, ops[i], Array.getElem?_eq_getElem hi, fun e he _ => by
     have hlt := fine_down hf (Array.getElem?_eq_getElem hi) e he; have h1 := ih e.on hlt (by omega)
     have h2 : e.on < listed.size := by omega
     simp only [Array.getD_eq_getD_getElem?, Array.getElem?_eq_getElem h2, Option.getD_some] at h1 ⊢
     exact h1⟩
    rw [hr] at this
    cases this
 intro fuel
 induction fuel with
 | zero =>
  intro listed a w hl hsz hcl hsame hinv hfz hear hsl
  have hall2 := left_zero (listed := listed) (n := ops.size) (by omega); refine ⟨?_, ends listed a w hall2 hsame hfz hsl⟩
  cases hr : Region.ready md ops listed with
  | nil => rfl
  | cons j r =>
   have hj : j ∈ Region.ready md ops listed := by rw [hr]; exact List.mem_cons_self ..
   obtain ⟨hun, o, ho, _⟩ := mem_ready.1 hj
   rw [hall2 j (Array.getElem?_eq_some_iff.1 ho).1] at hun
   cases hun
 | succ fuel ih =>
  intro listed a w hl hsz hcl hsame hinv hfz hear hsl
  refine ⟨fun hr => ends listed a w (alls listed hsz hr) hsame hfz hsl, fun i hi => ?_⟩; obtain ⟨hun, o, ho, hdep⟩ := mem_ready.1 hi; have hib : i < ops.size := (Array.getElem?_eq_some_iff.1 ho).1
  have flip : ∀ j, j < ops.size → listed.getD j false = true → listed.getD j true = true := fun j hj h => by
   have h2 : j < listed.size := by omega
   simp only [Array.getD_eq_getD_getElem?, Array.getElem?_eq_getElem h2, Option.getD_some] at h ⊢
   exact h
  have anc : ∀ j, waits md ops j fl i = true → j ≠ i → listed.getD j true = true := fun j hw hne => by
   cases fl with
   | zero => exact absurd (by simpa [waits] using hw) hne
   | succ f =>
    simp only [waits, Bool.or_eq_true] at hw
    rcases hw with hw | hw
    · exact absurd (by simpa using hw) hne
    ·
     rw [ho] at hw
     obtain ⟨k, hk, h2⟩ := Array.any_eq_true.1 hw
     simp only [Bool.and_eq_true] at h2
     have hmem := Array.getElem_mem hk; have hei := fine_down hf ho _ hmem; exact waits_listed hcl f _ h2.2 (flip _ (by omega) (hdep _ hmem h2.1))
  have hzn : listed.getD z true = false := by
   cases hzl : listed.getD z true with
   | false => rfl
   | true => rw [waits_listed hcl fl z (hall i hib) hzl] at hun; cases hun
  have hyn : cond (waits md ops i fl y) (Ear w) True := by
   cases hw : waits md ops i fl y with
   | false => exact True.intro
   | true =>
    refine hear ?_
    cases hyl : listed.getD y true with
    | false => rfl
    | true => rw [waits_listed hcl fl y hw hyl] at hun; cases hun
  refine wpOp_step ho fun K hK => hs i o ho a w hsame (hinv hzn) hyn ?_ K ?_
  ·
   intro d hd
   have hd' : d ∈ reads md ops o := by simpa using hd
   obtain ⟨e, he, hed⟩ := List.mem_filterMap.1 hd'; obtain ⟨he1, he3⟩ := List.mem_filter.1 he
   have he2 : Region.binds md e = true := by simp only [Bool.and_eq_true] at he3; exact he3.1
   cases hoe : ops[e.on]? with
   | none => rw [hoe] at hed; cases hed
   | some oe =>
    rw [hoe] at hed
    have hl1 := hdep e (by simpa using he1) he2; exact hsl e.on oe d hoe (flip _ (Array.getElem?_eq_some_iff.1 hoe).1 hl1) hed (.inr ⟨i, o, ho, hun, hd'⟩)
  ·
   intro v w' hg hinv' hear' hv
   have hset : ∀ j, listed.getD j true = true → (listed.setIfInBounds i true).getD j true = true := fun j h => by
    by_cases hji : i = j
    ·
     subst hji
     have : i < listed.size := by omega
     simp [this]
    · rw [getD_set_ne true hji]; exact h
   refine hK _ _ (ih (listed.setIfInBounds i true) (a.put o.dst v) w' ?_ (by simpa using hsz) ?_ ⟨(put_defers ..).trans hsame.defers, (put_size ..).trans hsame.size, fun d hd => ?_⟩ ?_ ?_ ?_ ?_)
   · have := left_less hun hib; omega
   ·
    intro j oj hoj hlj e he hb
    by_cases hji : i = j
    ·
     subst hji
     rw [ho] at hoj
     cases hoj
     have hei : e.on < ops.size := by have := fine_down hf ho e he; omega
     exact hset _ (flip _ hei (hdep e he hb))
    ·
     rw [getD_set_ne true hji] at hlj
     exact hset _ (hcl j oj hoj hlj e he hb)
   · rw [getD_put_other (hd i o ho)]; exact hsame.old d hd
   ·
    intro h
    by_cases hiz : i = z
    ·
     subst hiz
     have : i < listed.size := by omega
     simp [this] at h
    ·
     have e : (i == z) = false := by simpa using hiz
     rw [e] at hinv'
     exact hinv'
   ·
    intro h
    by_cases hiz : i = z
    ·
     have e : (i == z) = true := by simpa using hiz
     rw [e] at hinv'
     exact hinv'
    ·
     rw [getD_set_ne true hiz, hzn] at h
     cases h
   ·
    intro h
    by_cases hiy : i = y
    ·
     subst hiy
     have : i < listed.size := by omega
     simp [this] at h
    ·
     rw [getD_set_ne true hiy] at h
     by_cases hiz : i = z
     ·
      subst hiz
      have hyb : y < ops.size := by
       rcases Nat.lt_or_ge y ops.size with h' | h'
       · exact h'
       · simp [Array.getElem?_eq_none (show listed.size ≤ y by omega)] at h
      have := anc y (hall y hyb) (fun e => hiy e.symm)
      rw [this] at h
      cases h
     ·
      have e : (i == y || i == z) = false := by simp [hiy, hiz]
      rw [e] at hear'
      exact hear' (hear h)
   ·
    intro j oj d hoj hlj hdj hlive
    by_cases hji : j = i
    ·
     subst hji
     rw [ho] at hoj
     cases hoj
     have hds := (fine_slot hf ho hdj).1; rw [hdj, getD_put_same (by rw [hsame.size]; exact hds)]; exact hv d hdj
    ·
     rw [getD_put_other (fun e => hji (fine_one hf hoj ho hdj e))]
     rw [getD_set_ne true (Ne.symm hji)] at hlj
     have hjb : j < ops.size := (Array.getElem?_eq_some_iff.1 hoj).1; refine hmono i d _ _ _ ?_ (hsl j oj d hoj hlj hdj ?_) hg
     ·
      unfold bears2
      rw [Bool.and_eq_true]
      constructor
      ·
       refine List.any_eq_true.2 ⟨j, List.mem_range.2 hjb, ?_⟩; rw [hoj]
       have hnw : waits md ops i fl j = false := by
        cases hw : waits md ops i fl j with
        | false => rfl
        | true => rw [waits_listed hcl fl j hw hlj] at hun; cases hun
       simp [hdj, hnw]
      ·
       rw [Bool.or_eq_true]
       rcases hlive with hk | ⟨j', oj', hoj', hl', hn'⟩
       · exact .inl (by simpa using hk)
       ·
        right
        have hne : j' ≠ i := by
         rintro rfl
         have : j' < listed.size := by omega
         simp [this] at hl'
        have hnw2 : waits md ops j' fl i = false := by
         cases hw : waits md ops j' fl i with
         | false => rfl
         | true =>
          exfalso
          have hl3 := anc j' hw hne
          have hlj : listed.getD j' true = false := by
           cases hlj' : listed.getD j' true with
           | false => rfl
           | true => rw [hset j' hlj'] at hl'; cases hl'
          rw [hl3] at hlj
          cases hlj
        refine List.any_eq_true.2 ⟨j', List.mem_range.2 (Array.getElem?_eq_some_iff.1 hoj').1, ?_⟩; rw [hoj']
        simp [hne, hn', hnw2]
     ·
      rcases hlive with hk | ⟨j', oj', hoj', hl', hn'⟩
      · exact .inl hk
      ·
       refine .inr ⟨j', oj', hoj', ?_, hn'⟩
       cases hlj' : listed.getD j' true with
       | false => rfl
       | true => rw [hset j' hlj'] at hl'; cases hl'
theorem regionZ {id : Nat} {w : World} (z y : Nat) (hzz : (ops[z]?).isSome = true) (keep : List Nat) (fl : Nat) (Sl : Nat → Value → World → Prop) (Inv Fin Ear : World → Prop) (G : Nat → World → World → Prop) (hm : P.follows .mixedOrders = true) (hall : ((List.range ops.size).all fun j => waits .any ops j fl z) = true) (hf : fine a0.tmps.size ops = true)
  (hmono : ∀ i d v w w', bears2 .any ops keep fl i d = true → Sl d v w → G i w w' → Sl d v w') (h0 : Inv w.drew) (h1 : Ear w.drew) (hs : StepsZ P .any ops Q Sl Inv Fin Ear G a0 z y fl 0 ops.toList)
  (hfin : ∀ a w, Same ops a0 a → Fin w → (∀ (i : Nat) (o : Oper) d, ops[i]? = some o → o.dst = some d → d ∈ keep → Sl d (a.tmps.getD d undef) w) → Q .normal a w) :
  (Code.region id ops true).wp P Q a0 w := by
 obtain ⟨oz, hoz⟩ := Option.isSome_iff_exists.1 hzz; refine wp_region_any hm ?_
 have hun : ∀ (i : Nat) (o : Oper), ops[i]? = some o → (Array.replicate ops.size false).getD i true = true → False := fun i o ho hl => by
  have hi : i < ops.size := (Array.getElem?_eq_some_iff.1 ho).1
  simp [hi] at hl
 refine walkZ z y oz hoz keep fl (fun j hj => List.all_eq_true.1 hall j (List.mem_range.2 hj)) hmono hf (fun i o ho => ?_) hfin _ _ a0 w.drew ?_ (by simp) (fun j o ho hl => (hun j o ho hl).elim) ⟨rfl, rfl, fun _ _ => rfl⟩ (fun _ => h0) (fun h => (hun z oz hoz h).elim) (fun _ => h1) (fun i o d ho hl _ _ => (hun i o ho hl).elim)
 ·
  have := hs.at i o (by simpa using ho)
  rwa [Nat.zero_add] at this
 ·
  have : ∀ n, left (Array.replicate ops.size false) n ≤ n := by
   intro n
   induction n with
   | zero => exact Nat.le_refl _
   | succ n ih => simp only [left]; split <;> omega
  exact this _
end
end Flow
end Go.Proofs.YtlijbgapkmfnaaaGreat
namespace Go.Proofs.YtlijbgapkmfnaaaGreat
namespace Flow
open Go
section
variable {P : Program} {ops : Array Oper} {Q : Exit → Act → World → Prop} {md : Region.Mode}
def upd (ℓ : Nat → Bool) (i : Nat) : Nat → Bool := fun j => if j = i then true else ℓ j
theorem upd_same (ℓ : Nat → Bool) (i : Nat) : upd ℓ i i = true := if_pos rfl
theorem upd_other (ℓ : Nat → Bool) {i j : Nat} (h : j ≠ i) : upd ℓ i j = ℓ j := if_neg h
def StepS (P : Program) (md : Region.Mode) (ops : Array Oper) (Q : Exit → Act → World → Prop) (Sl : Nat → Value → World → Prop) (Inv : (Nat → Bool) → World → Prop) (G : World → World → Prop) (a0 : Act) (fl i : Nat) (o : Oper) : Prop :=
 ∀ (ℓ : Nat → Bool) a w, Same ops a0 a → ℓ i = false → (∀ j, j ≠ i → waits md ops i fl j = true → ℓ j = false) → (∀ j, j ≠ i → waits md ops j fl i = true → ℓ j = true) → Inv ℓ w → (∀ d, (reads md ops o).contains d = true → Sl d (a.tmps.getD d undef) w) →
  ∀ K : Act → World → Prop, (∀ v w', G w w' → Inv (upd ℓ i) w' → (∀ d, o.dst = some d → Sl d v w') → K (a.put o.dst v) w') →
   if Region.wanted o (yielded ops a.tmps) = true then o.wp P a w K Q else K (a.put o.dst undef) w
def StepsS (P : Program) (md : Region.Mode) (ops : Array Oper) (Q : Exit → Act → World → Prop) (Sl : Nat → Value → World → Prop) (Inv : (Nat → Bool) → World → Prop) (G : Nat → World → World → Prop) (a0 : Act) (fl : Nat) : Nat → List Oper → Prop
 | _, [] => True
 | i, o :: r => StepS P md ops Q Sl Inv (G i) a0 fl i o ∧ StepsS P md ops Q Sl Inv G a0 fl (i + 1) r
theorem StepsS.cons {Sl : Nat → Value → World → Prop} {Inv : (Nat → Bool) → World → Prop} {G : Nat → World → World → Prop} {a0 : Act} {fl i : Nat} {o : Oper} {r : List Oper} (h : StepS P md ops Q Sl Inv (G i) a0 fl i o) (k : StepsS P md ops Q Sl Inv G a0 fl (i + 1) r) : StepsS P md ops Q Sl Inv G a0 fl i (o :: r) := ⟨h, k⟩
theorem StepsS.at {Sl : Nat → Value → World → Prop} {Inv : (Nat → Bool) → World → Prop} {G : Nat → World → World → Prop} {a0 : Act} {fl : Nat} : ∀ {l : List Oper} {i : Nat}, StepsS P md ops Q Sl Inv G a0 fl i l → ∀ (j : Nat) (o : Oper), l[j]? = some o → StepS P md ops Q Sl Inv (G (i + j)) a0 fl (i + j) o
 | [], _, _, _, _, h => by simp at h
 | x :: r, i, h, 0, o, ho => by
  simp only [List.getElem?_cons_zero, Option.some.injEq] at ho
  subst ho; exact h.1
 | x :: r, i, h, j + 1, o, ho => by
  simp only [List.getElem?_cons_succ] at ho
  have := StepsS.at h.2 j o ho
  rwa [show i + 1 + j = i + (j + 1) by omega] at this
variable {Sl : Nat → Value → World → Prop} {Inv : (Nat → Bool) → World → Prop} {G : Nat → World → World → Prop} {a0 : Act}
theorem walkS (keep : List Nat) (fl : Nat) (hmono : ∀ i d v w w', bears2 md ops keep fl i d = true → Sl d v w → G i w w' → Sl d v w') (hf : fineB md a0.tmps.size ops = true) (hs : ∀ (i : Nat) (o : Oper), ops[i]? = some o → StepS P md ops Q Sl Inv (G i) a0 fl i o)
  (hfin : ∀ a w ℓ, Same ops a0 a → (∀ i, i < ops.size → ℓ i = true) → Inv ℓ w → (∀ (i : Nat) (o : Oper) d, ops[i]? = some o → o.dst = some d → d ∈ keep → Sl d (a.tmps.getD d undef) w) → Q .normal a w) :
  ∀ (fuel : Nat) (listed : Array Bool) (a : Act) (w : World), left listed ops.size ≤ fuel → listed.size = ops.size → Closed md ops listed → Same ops a0 a → Inv (fun j => listed.getD j true) w →
   (∀ (i : Nat) (o : Oper) d, ops[i]? = some o → listed.getD i true = true → o.dst = some d → (d ∈ keep ∨ ∃ (j : Nat) (oj : Oper), ops[j]? = some oj ∧ listed.getD j true = false ∧ d ∈ reads md ops oj) → Sl d (a.tmps.getD d undef) w) → wpAny P md ops Q fuel listed a w := by
 have ends : ∀ (listed : Array Bool) (a : Act) (w : World), (∀ i, i < ops.size → listed.getD i true = true) → Same ops a0 a → Inv (fun j => listed.getD j true) w →
   (∀ (i : Nat) (o : Oper) d, ops[i]? = some o → listed.getD i true = true → o.dst = some d → (d ∈ keep ∨ ∃ (j : Nat) (oj : Oper), ops[j]? = some oj ∧ listed.getD j true = false ∧ d ∈ reads md ops oj) → Sl d (a.tmps.getD d undef) w) → Q .normal a w := fun listed a w hl hsame hinv hsl =>
  hfin a w _ hsame hl hinv fun i o d ho hd hk => hsl i o d ho (hl i (Array.getElem?_eq_some_iff.1 ho).1) hd (.inl hk)
 have alls : ∀ listed : Array Bool, listed.size = ops.size → Region.ready md ops listed = [] → ∀ i, i < ops.size → listed.getD i true = true := by
  intro listed hsz hr i
  induction i using Nat.strongRecOn with
  | _ i ih =>
   intro hi
   cases hg : listed.getD i true with
   | true => rfl
   | false =>
    exfalso
    have : i ∈ Region.ready md ops listed := mem_ready.2 ⟨hg, ops[i], Array.getElem?_eq_getElem hi, fun e he hbd => by
     have hlt := fineB_down hf (Array.getElem?_eq_getElem hi) e he hbd; have h1 := ih e.on hlt (by omega)
     have h2 : e.on < listed.size := by omega
     simp only [Array.getD_eq_getD_getElem?, Array.getElem?_eq_getElem h2, Option.getD_some] at h1 ⊢
     exact h1⟩
    rw [hr] at this
    cases this
 intro fuel
 induction fuel with
 | zero =>
  intro listed a w hl hsz hcl hsame hinv hsl
  have hall2 := left_zero (listed := listed) (n := ops.size) (by omega); refine ⟨?_, ends listed a w hall2 hsame hinv hsl⟩
  cases hr : Region.ready md ops listed with
  | nil => rfl
  | cons j r =>
   have hj : j ∈ Region.ready md ops listed := by rw [hr]; exact List.mem_cons_self ..
   obtain ⟨hun, o, ho, _⟩ := mem_ready.1 hj
   rw [hall2 j (Array.getElem?_eq_some_iff.1 ho).1] at hun
   cases hun
 | succ fuel ih =>
  intro listed a w hl hsz hcl hsame hinv hsl
  refine ⟨fun hr => ends listed a w (alls listed hsz hr) hsame hinv hsl, fun i hi => ?_⟩; obtain ⟨hun, o, ho, hdep⟩ := mem_ready.1 hi; have hib : i < ops.size := (Array.getElem?_eq_some_iff.1 ho).1
  have flip : ∀ j, j < ops.size → listed.getD j false = true → listed.getD j true = true := fun j hj h => by
   have h2 : j < listed.size := by omega
   simp only [Array.getD_eq_getD_getElem?, Array.getElem?_eq_getElem h2, Option.getD_some] at h ⊢
   exact h
  have anc : ∀ j, waits md ops j fl i = true → j ≠ i → listed.getD j true = true := fun j hw hne => by
   cases fl with
   | zero => exact absurd (by simpa [waits] using hw) hne
   | succ f =>
    simp only [waits, Bool.or_eq_true] at hw
    rcases hw with hw | hw
    · exact absurd (by simpa using hw) hne
    ·
     rw [ho] at hw
     obtain ⟨k, hk, h2⟩ := Array.any_eq_true.1 hw
     simp only [Bool.and_eq_true] at h2
     have hmem := Array.getElem_mem hk; have hei := fineB_down hf ho _ hmem h2.1; exact waits_listed hcl f _ h2.2 (flip _ (by omega) (hdep _ hmem h2.1))
  refine wpOp_step ho fun K hK => hs i o ho (fun j => listed.getD j true) a w hsame hun (fun j hne hw => ?_) (fun j hne hw => anc j hw hne) hinv ?_ K ?_
  ·
   cases hlj : listed.getD j true with
   | false => rfl
   | true => rw [waits_listed hcl fl j hw hlj] at hun; cases hun
  ·
   intro d hd
   have hd' : d ∈ reads md ops o := by simpa using hd
   obtain ⟨e, he, hed⟩ := List.mem_filterMap.1 hd'; obtain ⟨he1, he3⟩ := List.mem_filter.1 he
   have he2 : Region.binds md e = true := by simp only [Bool.and_eq_true] at he3; exact he3.1
   cases hoe : ops[e.on]? with
   | none => rw [hoe] at hed; cases hed
   | some oe =>
    rw [hoe] at hed
    have hl1 := hdep e (by simpa using he1) he2; exact hsl e.on oe d hoe (flip _ (Array.getElem?_eq_some_iff.1 hoe).1 hl1) hed (.inr ⟨i, o, ho, hun, hd'⟩)
  ·
   intro v w' hg hinv' hv
   have hset : ∀ j, listed.getD j true = true → (listed.setIfInBounds i true).getD j true = true := fun j h => by
    by_cases hji : i = j
    ·
     subst hji
     have : i < listed.size := by omega
     simp [this]
    · rw [getD_set_ne true hji]; exact h
   refine hK _ _ (ih (listed.setIfInBounds i true) (a.put o.dst v) w' ?_ (by simpa using hsz) ?_ ⟨(put_defers ..).trans hsame.defers, (put_size ..).trans hsame.size, fun d hd => ?_⟩ ?_ ?_)
   · have := left_less hun hib; omega
   ·
    intro j oj hoj hlj e he hb
    by_cases hji : i = j
    ·
     subst hji
     rw [ho] at hoj
     cases hoj
     have hei : e.on < ops.size := by have := fineB_down hf ho e he hb; omega
     exact hset _ (flip _ hei (hdep e he hb))
    ·
     rw [getD_set_ne true hji] at hlj
     exact hset _ (hcl j oj hoj hlj e he hb)
   · rw [getD_put_other (hd i o ho)]; exact hsame.old d hd
   ·
    have e : (fun j => (listed.setIfInBounds i true).getD j true) = upd (fun j => listed.getD j true) i := by
     funext j
     unfold upd
     by_cases hji : j = i
     ·
      subst hji
      have : j < listed.size := by omega
      simp [this]
     · rw [if_neg hji, getD_set_ne true (Ne.symm hji)]
    rw [e]; exact hinv'
   ·
    intro j oj d hoj hlj hdj hlive
    by_cases hji : j = i
    ·
     subst hji
     rw [ho] at hoj
     cases hoj
     have hds := (fineB_slot hf ho hdj).1; rw [hdj, getD_put_same (by rw [hsame.size]; exact hds)]; exact hv d hdj
    ·
     rw [getD_put_other (fun e => hji (fineB_one hf hoj ho hdj e))]
     rw [getD_set_ne true (Ne.symm hji)] at hlj
     have hjb : j < ops.size := (Array.getElem?_eq_some_iff.1 hoj).1; refine hmono i d _ _ _ ?_ (hsl j oj d hoj hlj hdj ?_) hg
     ·
      unfold bears2
      rw [Bool.and_eq_true]
      constructor
      ·
       refine List.any_eq_true.2 ⟨j, List.mem_range.2 hjb, ?_⟩; rw [hoj]
       have hnw : waits md ops i fl j = false := by
        cases hw : waits md ops i fl j with
        | false => rfl
        | true => rw [waits_listed hcl fl j hw hlj] at hun; cases hun
       simp [hdj, hnw]
      ·
       rw [Bool.or_eq_true]
       rcases hlive with hk | ⟨j', oj', hoj', hl', hn'⟩
       · exact .inl (by simpa using hk)
       ·
        right
        have hne : j' ≠ i := by
         rintro rfl
         have : j' < listed.size := by omega
         simp [this] at hl'
        have hnw2 : waits md ops j' fl i = false := by
         cases hw : waits md ops j' fl i with
         | false => rfl
         | true =>
          exfalso
          have hl3 := anc j' hw hne
          have hlj : listed.getD j' true = false := by
           cases hlj' : listed.getD j' true with
           | false => rfl
           | true => rw [hset j' hlj'] at hl'; cases hl'
          rw [hl3] at hlj
          cases hlj
        refine List.any_eq_true.2 ⟨j', List.mem_range.2 (Array.getElem?_eq_some_iff.1 hoj').1, ?_⟩; rw [hoj']
        simp [hne, hn', hnw2]
     ·
      rcases hlive with hk | ⟨j', oj', hoj', hl', hn'⟩
      · exact .inl hk
      ·
       refine .inr ⟨j', oj', hoj', ?_, hn'⟩
       cases hlj' : listed.getD j' true with
       | false => rfl
       | true => rw [hset j' hlj'] at hl'; cases hl'
theorem regionS {id : Nat} {w : World} (keep : List Nat) (fl : Nat) (Sl : Nat → Value → World → Prop) (Inv : (Nat → Bool) → World → Prop) (G : Nat → World → World → Prop) (hm : P.follows .mixedOrders = true) (hf : fineB .any a0.tmps.size ops = true)
  (hmono : ∀ i d v w w', bears2 .any ops keep fl i d = true → Sl d v w → G i w w' → Sl d v w') (h0 : Inv (fun j => (Array.replicate ops.size false).getD j true) w.drew) (hs : StepsS P .any ops Q Sl Inv G a0 fl 0 ops.toList)
  (hfin : ∀ a w ℓ, Same ops a0 a → (∀ i, i < ops.size → ℓ i = true) → Inv ℓ w → (∀ (i : Nat) (o : Oper) d, ops[i]? = some o → o.dst = some d → d ∈ keep → Sl d (a.tmps.getD d undef) w) → Q .normal a w) :
  (Code.region id ops true).wp P Q a0 w := by
 refine wp_region_any hm ?_
 have hun : ∀ (i : Nat) (o : Oper), ops[i]? = some o → (Array.replicate ops.size false).getD i true = true → False := fun i o ho hl => by
  have hi : i < ops.size := (Array.getElem?_eq_some_iff.1 ho).1
  simp [hi] at hl
 refine walkS keep fl hmono hf (fun i o ho => ?_) hfin _ _ a0 w.drew ?_ (by simp) (fun j o ho hl => (hun j o ho hl).elim) ⟨rfl, rfl, fun _ _ => rfl⟩ h0 (fun i o d ho hl _ _ => (hun i o ho hl).elim)
 ·
  have := hs.at i o (by simpa using ho)
  rwa [Nat.zero_add] at this
 ·
  have : ∀ n, left (Array.replicate ops.size false) n ≤ n := by
   intro n
   induction n with
   | zero => exact Nat.le_refl _
   | succ n ih => simp only [left]; split <;> omega
  exact this _
end
end Flow
end Go.Proofs.YtlijbgapkmfnaaaGreat
namespace Go.Proofs.YtlijbgapkmfnaaaGreat
open Go.RowKit Cr
theorem rec_size : (Tryz.prog.info? TR).map (·.size) = some 8 := by kernel_rfl
theorem results_rec {fn : Func} {p : Tmp} (h : fn.results = #[.cell p TR]) (tmps : Array Value) (w : World) (g : Nat) (cs : Array Value) (hs : cs.size = 8)
  (hp : tmps.getD p undef = .pointer (some ⟨g, 0, none⟩)) (hb : Blk w g TR cs) : (results fn tmps).run Tryz.prog w = .ok (.agg cs) w :=
 results_cell_row h tmps w g TR cs (0, 0) _ hp hb Tryz.underlying33 rfl (by rw [hs]; exact rec_size)
theorem Blk.f8 {w : World} {g : Nat} {t : TypeId} {cs : Array Value} (h : Blk w g t cs) : w.frozen? ⟨g, 0, none⟩ = false ∧ w.frozen? ⟨g, 1, none⟩ = false ∧ w.frozen? ⟨g, 2, none⟩ = false ∧ w.frozen? ⟨g, 3, none⟩ = false ∧ w.frozen? ⟨g, 4, none⟩ = false ∧ w.frozen? ⟨g, 5, none⟩ = false ∧ w.frozen? ⟨g, 6, none⟩ = false ∧ w.frozen? ⟨g, 7, none⟩ = false :=
 ⟨h.frozen 0, h.frozen 1, h.frozen 2, h.frozen 3, h.frozen 4, h.frozen 5, h.frozen 6, h.frozen 7⟩
theorem below_set8 {B g : Nat} {w w1 : World} {a b c d e f i j : Value} (h : Below B w w1) (hg : B ≤ g) : Below B w ((((((((w1.setCell ⟨g, 0, none⟩ a).setCell ⟨g, 1, none⟩ b).setCell ⟨g, 2, none⟩ c).setCell ⟨g, 3, none⟩ d).setCell ⟨g, 4, none⟩ e).setCell ⟨g, 5, none⟩ f).setCell ⟨g, 6, none⟩ i).setCell ⟨g, 7, none⟩ j) :=
 (((((((h.setCell hg _).setCell hg _).setCell hg _).setCell hg _).setCell hg _).setCell hg _).setCell hg _).setCell hg _
structure NamAt (w : World) (C E : Array Value) (W : World) : Prop where
 gr : Gr w W
 c : Blk W w.heap.size TR C
 z : Blk W (w.heap.size + 1) TR #[.int .i64 0, .int .u64 0, .int .u64 0, .int .u64 0, .int .i64 0, .int .i64 0, .slice none 0 0, .slice none 0 0]
 e : Blk W (w.heap.size + 1 + 1) TR E
theorem NamAt.new (w : World) (C : Array Value) : NamAt w C #[.int .i64 0, .int .u64 0, .int .u64 0, .int .u64 0, .int .i64 0, .int .i64 0, .slice none 0 0, .slice none 0 0] (((w.alloc (.cells C TR)).alloc (.cells #[.int .i64 0, .int .u64 0, .int .u64 0, .int .u64 0, .int .i64 0, .int .i64 0, .slice none 0 0, .slice none 0 0] TR)).alloc (.cells #[.int .i64 0, .int .u64 0, .int .u64 0, .int .u64 0, .int .i64 0, .int .i64 0, .slice none 0 0, .slice none 0 0] TR)) := by
 have h1 := Blk.new w TR C; have h2 := Blk.new (w.alloc (.cells C TR)) TR #[.int .i64 0, .int .u64 0, .int .u64 0, .int .u64 0, .int .i64 0, .int .i64 0, .slice none 0 0, .slice none 0 0]; have h3 := Blk.new ((w.alloc (.cells C TR)).alloc (.cells #[.int .i64 0, .int .u64 0, .int .u64 0, .int .u64 0, .int .i64 0, .int .i64 0, .slice none 0 0, .slice none 0 0] TR)) TR #[.int .i64 0, .int .u64 0, .int .u64 0, .int .u64 0, .int .i64 0, .int .i64 0, .slice none 0 0, .slice none 0 0]
 simp only [World.size_alloc] at h2 h3
 have g1 := (Gr.refl w).alloc (Nat.le_refl _) (.cells C TR); have g2 := g1.alloc g1.size (.cells #[.int .i64 0, .int .u64 0, .int .u64 0, .int .u64 0, .int .i64 0, .int .i64 0, .slice none 0 0, .slice none 0 0] TR); exact ⟨g2.alloc g2.size _, (h1.alloc _).alloc _, h2.alloc _, h3⟩
theorem NamAt.heap {w W W' : World} {C E : Array Value} (h : NamAt w C E W) (e : W' = W.drew) : NamAt w C E W' := by
 subst e; exact ⟨⟨h.gr.os, h.gr.tape, h.gr.output, h.gr.size, h.gr.block⟩, h.c.heap rfl, h.z.heap rfl, h.e.heap rfl⟩
theorem NamAt.put {w W : World} {C E : Array Value} (h : NamAt w C E W) (i : Nat) (v : Value) : NamAt w C (E.setIfInBounds i v) (W.setCell ⟨w.heap.size + 1 + 1, i, none⟩ v) :=
 ⟨h.gr.setCell (by show w.heap.size ≤ w.heap.size + 1 + 1; omega) _, h.c.far (by show w.heap.size ≠ w.heap.size + 1 + 1; omega) _, h.z.far (by show w.heap.size + 1 ≠ w.heap.size + 1 + 1; omega) _, h.e.set i v⟩
theorem NamAt.puts {w W : World} {C E : Array Value} (h : NamAt w C E W) (i : Nat) (v : Value) : NamAt w (C.setIfInBounds i v) E (W.setCell ⟨w.heap.size, i, none⟩ v) :=
 ⟨h.gr.setCell (Nat.le_refl _) _, h.c.set i v, h.z.far (by show w.heap.size + 1 ≠ w.heap.size; omega) _, h.e.far (by show w.heap.size + 1 + 1 ≠ w.heap.size; omega) _⟩
def In10 (w : World) (C : Array Value) (a b c e0 e1 e2 e3 e4 e5 e6 e7 : Value) (l : Nat → Bool) (W : World) : Prop := NamAt w C #[cond (l 7) a e0, cond (l 9) b e1, cond (l 11) c e2, e3, e4, e5, e6, e7] W
theorem In10.other {w W : World} {C : Array Value} {a b c e0 e1 e2 e3 e4 e5 e6 e7 : Value} {l : Nat → Bool} (h : In10 w C a b c e0 e1 e2 e3 e4 e5 e6 e7 l W) (i : Nat) (h1 : 7 ≠ i) (h2 : 9 ≠ i) (h3 : 11 ≠ i) : In10 w C a b c e0 e1 e2 e3 e4 e5 e6 e7 (Flow.upd l i) W := by
 unfold In10
 rw [Flow.upd_other l h1, Flow.upd_other l h2, Flow.upd_other l h3]; exact h
theorem In10.s7 {w W : World} {C : Array Value} {a b c e0 e1 e2 e3 e4 e5 e6 e7 : Value} {l : Nat → Bool} (h : In10 w C a b c e0 e1 e2 e3 e4 e5 e6 e7 l W) : In10 w C a b c e0 e1 e2 e3 e4 e5 e6 e7 (Flow.upd l 7) (W.setCell ⟨w.heap.size + 1 + 1, 0, none⟩ a) := by
 unfold In10
 rw [Flow.upd_other l (by decide : 9 ≠ 7), Flow.upd_other l (by decide : 11 ≠ 7), Flow.upd_same]; exact NamAt.put h 0 a
theorem In10.s9 {w W : World} {C : Array Value} {a b c e0 e1 e2 e3 e4 e5 e6 e7 : Value} {l : Nat → Bool} (h : In10 w C a b c e0 e1 e2 e3 e4 e5 e6 e7 l W) : In10 w C a b c e0 e1 e2 e3 e4 e5 e6 e7 (Flow.upd l 9) (W.setCell ⟨w.heap.size + 1 + 1, 1, none⟩ b) := by
 unfold In10
 rw [Flow.upd_other l (by decide : 7 ≠ 9), Flow.upd_other l (by decide : 11 ≠ 9), Flow.upd_same]; exact NamAt.put h 1 b
theorem In10.s11 {w W : World} {C : Array Value} {a b c e0 e1 e2 e3 e4 e5 e6 e7 : Value} {l : Nat → Bool} (h : In10 w C a b c e0 e1 e2 e3 e4 e5 e6 e7 l W) : In10 w C a b c e0 e1 e2 e3 e4 e5 e6 e7 (Flow.upd l 11) (W.setCell ⟨w.heap.size + 1 + 1, 2, none⟩ c) := by
 unfold In10
 rw [Flow.upd_other l (by decide : 7 ≠ 11), Flow.upd_other l (by decide : 9 ≠ 11), Flow.upd_same]; exact NamAt.put h 2 c
theorem In10.fr {w W : World} {C : Array Value} {a b c e0 e1 e2 e3 e4 e5 e6 e7 : Value} {l : Nat → Bool} (h : In10 w C a b c e0 e1 e2 e3 e4 e5 e6 e7 l W) : (W.frozen? ⟨w.heap.size + 1 + 1, 0, none⟩ = false ∧ W.frozen? ⟨w.heap.size + 1 + 1, 1, none⟩ = false ∧ W.frozen? ⟨w.heap.size + 1 + 1, 2, none⟩ = false) ∧ ∃ x0 x1 x2, W.cell? ⟨w.heap.size + 1 + 1, 0, none⟩ = some x0 ∧ W.cell? ⟨w.heap.size + 1 + 1, 1, none⟩ = some x1 ∧ W.cell? ⟨w.heap.size + 1 + 1, 2, none⟩ = some x2 :=
 ⟨⟨h.e.frozen 0, h.e.frozen 1, h.e.frozen 2⟩, _, _, _, h.e.cell 0, h.e.cell 1, h.e.cell 2⟩
def In9 (w : World) (C : Array Value) (a b c d e0 e1 e2 e3 e4 e5 e6 e7 : Value) (l : Nat → Bool) (W : World) : Prop := NamAt w C #[e0, e1, e2, cond (l 9) a e3, cond (l 11) b e4, cond (l 13) c e5, e6, cond (l 15) d e7] W
theorem In9.other {w W : World} {C : Array Value} {a b c d e0 e1 e2 e3 e4 e5 e6 e7 : Value} {l : Nat → Bool} (h : In9 w C a b c d e0 e1 e2 e3 e4 e5 e6 e7 l W) (i : Nat) (h1 : 9 ≠ i) (h2 : 11 ≠ i) (h3 : 13 ≠ i) (h4 : 15 ≠ i) : In9 w C a b c d e0 e1 e2 e3 e4 e5 e6 e7 (Flow.upd l i) W := by
 unfold In9
 rw [Flow.upd_other l h1, Flow.upd_other l h2, Flow.upd_other l h3, Flow.upd_other l h4]; exact h
theorem In9.s9 {w W : World} {C : Array Value} {a b c d e0 e1 e2 e3 e4 e5 e6 e7 : Value} {l : Nat → Bool} (h : In9 w C a b c d e0 e1 e2 e3 e4 e5 e6 e7 l W) : In9 w C a b c d e0 e1 e2 e3 e4 e5 e6 e7 (Flow.upd l 9) (W.setCell ⟨w.heap.size + 1 + 1, 3, none⟩ a) := by
 unfold In9
 rw [Flow.upd_other l (by decide : 11 ≠ 9), Flow.upd_other l (by decide : 13 ≠ 9), Flow.upd_other l (by decide : 15 ≠ 9), Flow.upd_same]; exact NamAt.put h 3 a
theorem In9.s11 {w W : World} {C : Array Value} {a b c d e0 e1 e2 e3 e4 e5 e6 e7 : Value} {l : Nat → Bool} (h : In9 w C a b c d e0 e1 e2 e3 e4 e5 e6 e7 l W) : In9 w C a b c d e0 e1 e2 e3 e4 e5 e6 e7 (Flow.upd l 11) (W.setCell ⟨w.heap.size + 1 + 1, 4, none⟩ b) := by
 unfold In9
 rw [Flow.upd_other l (by decide : 9 ≠ 11), Flow.upd_other l (by decide : 13 ≠ 11), Flow.upd_other l (by decide : 15 ≠ 11), Flow.upd_same]; exact NamAt.put h 4 b
theorem In9.s13 {w W : World} {C : Array Value} {a b c d e0 e1 e2 e3 e4 e5 e6 e7 : Value} {l : Nat → Bool} (h : In9 w C a b c d e0 e1 e2 e3 e4 e5 e6 e7 l W) : In9 w C a b c d e0 e1 e2 e3 e4 e5 e6 e7 (Flow.upd l 13) (W.setCell ⟨w.heap.size + 1 + 1, 5, none⟩ c) := by
 unfold In9
 rw [Flow.upd_other l (by decide : 9 ≠ 13), Flow.upd_other l (by decide : 11 ≠ 13), Flow.upd_other l (by decide : 15 ≠ 13), Flow.upd_same]; exact NamAt.put h 5 c
theorem In9.s15 {w W : World} {C : Array Value} {a b c d e0 e1 e2 e3 e4 e5 e6 e7 : Value} {l : Nat → Bool} (h : In9 w C a b c d e0 e1 e2 e3 e4 e5 e6 e7 l W) : In9 w C a b c d e0 e1 e2 e3 e4 e5 e6 e7 (Flow.upd l 15) (W.setCell ⟨w.heap.size + 1 + 1, 7, none⟩ d) := by
 unfold In9
 rw [Flow.upd_other l (by decide : 9 ≠ 15), Flow.upd_other l (by decide : 11 ≠ 15), Flow.upd_other l (by decide : 13 ≠ 15), Flow.upd_same]; exact NamAt.put h 7 d
theorem In9.fr {w W : World} {C : Array Value} {a b c d e0 e1 e2 e3 e4 e5 e6 e7 : Value} {l : Nat → Bool} (h : In9 w C a b c d e0 e1 e2 e3 e4 e5 e6 e7 l W) : (W.frozen? ⟨w.heap.size + 1 + 1, 3, none⟩ = false ∧ W.frozen? ⟨w.heap.size + 1 + 1, 4, none⟩ = false ∧ W.frozen? ⟨w.heap.size + 1 + 1, 5, none⟩ = false ∧ W.frozen? ⟨w.heap.size + 1 + 1, 7, none⟩ = false) ∧ ∃ x0 x1 x2 x3, W.cell? ⟨w.heap.size + 1 + 1, 3, none⟩ = some x0 ∧ W.cell? ⟨w.heap.size + 1 + 1, 4, none⟩ = some x1 ∧ W.cell? ⟨w.heap.size + 1 + 1, 5, none⟩ = some x2 ∧ W.cell? ⟨w.heap.size + 1 + 1, 7, none⟩ = some x3 :=
 ⟨⟨h.e.frozen 3, h.e.frozen 4, h.e.frozen 5, h.e.frozen 7⟩, _, _, _, _, h.e.cell 3, h.e.cell 4, h.e.cell 5, h.e.cell 7⟩
def SlN91 (_ : Nat) (_ : Nat) (_ : Nat) (g : Int) (o : Int) (_ : Option Addr) (_ : Nat) (_ : Nat) (pa : Option Addr) (na : Nat) (ca : Nat) (d : Nat) (e : Nat) (slot : Nat) (v : Value) (_ : World) : Prop :=
 match slot with
 | 17 => v = .pointer (some ⟨d, 3, none⟩)
 | 18 => v = .int .u64 0
 | 19 => v = .pointer (some ⟨d, 4, none⟩)
 | 20 => v = .int .i64 g
 | 21 => v = .pointer (some ⟨d, 5, none⟩)
 | 22 => v = .int .i64 o
 | 23 => v = .pointer (some ⟨d, 7, none⟩)
 | 24 => v = .slice pa na ca
 | 25 => v = .pointer (some ⟨e, 3, none⟩)
 | 26 => v = .pointer (some ⟨e, 4, none⟩)
 | 27 => v = .pointer (some ⟨e, 5, none⟩)
 | 28 => v = .pointer (some ⟨e, 7, none⟩)
 | _ => True
def SlN101 (t : Nat) (p : Nat) (_ : Nat) (_ : Int) (_ : Int) (_ : Option Addr) (_ : Nat) (_ : Nat) (_ : Option Addr) (_ : Nat) (_ : Nat) (d : Nat) (e : Nat) (slot : Nat) (v : Value) (_ : World) : Prop :=
 match slot with
 | 29 => v = .pointer (some ⟨d, 0, none⟩)
 | 30 => v = .int .i64 1
 | 31 => v = .pointer (some ⟨d, 1, none⟩)
 | 32 => v = .int .u64 t
 | 33 => v = .pointer (some ⟨d, 2, none⟩)
 | 34 => v = .int .u64 p
 | 35 => v = .pointer (some ⟨e, 0, none⟩)
 | 36 => v = .pointer (some ⟨e, 1, none⟩)
 | 37 => v = .pointer (some ⟨e, 2, none⟩)
 | _ => True
def SlN92 (_ : Nat) (_ : Nat) (x : Nat) (g : Int) (o : Int) (_ : Option Addr) (_ : Nat) (_ : Nat) (pa : Option Addr) (na : Nat) (ca : Nat) (d : Nat) (e : Nat) (slot : Nat) (v : Value) (_ : World) : Prop :=
 match slot with
 | 17 => v = .pointer (some ⟨d, 3, none⟩)
 | 18 => v = .int .u64 x
 | 19 => v = .pointer (some ⟨d, 4, none⟩)
 | 20 => v = .int .i64 g
 | 21 => v = .pointer (some ⟨d, 5, none⟩)
 | 22 => v = .int .i64 o
 | 23 => v = .pointer (some ⟨d, 7, none⟩)
 | 24 => v = .slice pa na ca
 | 25 => v = .pointer (some ⟨e, 3, none⟩)
 | 26 => v = .pointer (some ⟨e, 4, none⟩)
 | 27 => v = .pointer (some ⟨e, 5, none⟩)
 | 28 => v = .pointer (some ⟨e, 7, none⟩)
 | _ => True
def SlN102 (t : Nat) (p : Nat) (_ : Nat) (_ : Int) (_ : Int) (_ : Option Addr) (_ : Nat) (_ : Nat) (_ : Option Addr) (_ : Nat) (_ : Nat) (d : Nat) (e : Nat) (slot : Nat) (v : Value) (_ : World) : Prop :=
 match slot with
 | 29 => v = .pointer (some ⟨d, 0, none⟩)
 | 30 => v = .int .i64 2
 | 31 => v = .pointer (some ⟨d, 1, none⟩)
 | 32 => v = .int .u64 t
 | 33 => v = .pointer (some ⟨d, 2, none⟩)
 | 34 => v = .int .u64 p
 | 35 => v = .pointer (some ⟨e, 0, none⟩)
 | 36 => v = .pointer (some ⟨e, 1, none⟩)
 | 37 => v = .pointer (some ⟨e, 2, none⟩)
 | _ => True
def SlN103 (t : Nat) (p : Nat) (_ : Nat) (_ : Int) (_ : Int) (_ : Option Addr) (_ : Nat) (_ : Nat) (_ : Option Addr) (_ : Nat) (_ : Nat) (d : Nat) (e : Nat) (slot : Nat) (v : Value) (_ : World) : Prop :=
 match slot with
 | 29 => v = .pointer (some ⟨d, 0, none⟩)
 | 30 => v = .int .i64 3
 | 31 => v = .pointer (some ⟨d, 1, none⟩)
 | 32 => v = .int .u64 t
 | 33 => v = .pointer (some ⟨d, 2, none⟩)
 | 34 => v = .int .u64 p
 | 35 => v = .pointer (some ⟨e, 0, none⟩)
 | 36 => v = .pointer (some ⟨e, 1, none⟩)
 | 37 => v = .pointer (some ⟨e, 2, none⟩)
 | _ => True
def SlN104 (t : Nat) (p : Nat) (_ : Nat) (_ : Int) (_ : Int) (_ : Option Addr) (_ : Nat) (_ : Nat) (_ : Option Addr) (_ : Nat) (_ : Nat) (d : Nat) (e : Nat) (slot : Nat) (v : Value) (_ : World) : Prop :=
 match slot with
 | 29 => v = .pointer (some ⟨d, 0, none⟩)
 | 30 => v = .int .i64 4
 | 31 => v = .pointer (some ⟨d, 1, none⟩)
 | 32 => v = .int .u64 t
 | 33 => v = .pointer (some ⟨d, 2, none⟩)
 | 34 => v = .int .u64 p
 | 35 => v = .pointer (some ⟨e, 0, none⟩)
 | 36 => v = .pointer (some ⟨e, 1, none⟩)
 | 37 => v = .pointer (some ⟨e, 2, none⟩)
 | _ => True
set_option maxRecDepth 100000 in
set_option maxHeartbeats 4000000 in
theorem named1 (t : Nat) (p : Nat) (x : Nat) (g : Int) (o : Int) (pb : Option Addr) (nb : Nat) (cb : Nat) (pa : Option Addr) (na : Nat) (ca : Nat) (w : World) : Calls Tryz.prog 106 #[.agg #[.int .i64 1, .int .u64 t, .int .u64 p, .int .u64 x, .int .i64 g, .int .i64 o, .slice pb nb cb, .slice pa na ca]] w (RetV (.agg #[.int .i64 1, .int .u64 t, .int .u64 p, .int .u64 0, .int .i64 g, .int .i64 o, .slice pb nb cb, .slice pa na ca]) w) := by
 have HN := Lib.hid (NamAt.new w #[.int .i64 1, .int .u64 t, .int .u64 p, .int .u64 x, .int .i64 g, .int .i64 o, .slice pb nb cb, .slice pa na ca])
 go_enter Tryz.func106, Tryz.ntmps106
 go_upto_region 2 with fail
 generalize (((w.alloc (.cells #[.int .i64 1, .int .u64 t, .int .u64 p, .int .u64 x, .int .i64 g, .int .i64 o, .slice pb nb cb, .slice pa na ca] TR)).alloc (.cells #[.int .i64 0, .int .u64 0, .int .u64 0, .int .u64 0, .int .i64 0, .int .i64 0, .slice none 0 0, .slice none 0 0] TR)).alloc (.cells #[.int .i64 0, .int .u64 0, .int .u64 0, .int .u64 0, .int .i64 0, .int .i64 0, .slice none 0 0, .slice none 0 0] TR)) = W1 at HN ⊢
 obtain ⟨c0, c1, c2, c3, c4, c5, c6, c7⟩ := HN.out.c.c8; obtain ⟨d0, d1, d2, d3, d4, d5, d6, d7⟩ := HN.out.e.c8; have f6 := HN.out.e.frozen 6; have f3 := HN.out.c.frozen 3; go_wp2_with fail; clear c0 c1 c2 c3 c4 c5 c6 c7 d0 d1 d2 d3 d4 d5 d6 d7 f6 f3; have HN2 := Lib.hid ((HN.out.put 6 (.slice pb nb cb)).puts 3 (.int .u64 0)); clear HN; have HN := HN2; clear HN2; refine Flow.regionS [] 20 (SlN91 t p x g o pb nb cb pa na ca w.heap.size (w.heap.size + 1 + 1)) (In9 w #[.int .i64 1, .int .u64 t, .int .u64 p, .int .u64 0, .int .i64 g, .int .i64 o, .slice pb nb cb, .slice pa na ca] (.int .u64 0) (.int .i64 g) (.int .i64 o) (.slice pa na ca) (.int .i64 0) (.int .u64 0) (.int .u64 0) (.int .u64 0) (.int .i64 0) (.int .i64 0) (.slice pb nb cb) (.slice none 0 0)) (fun _ _ _ => True) (by kernel_rfl) (by kernel_rfl) (fun _ _ _ _ _ _ h _ => h) (HN.out.heap rfl) ?steps ?fin
 case steps =>
  refine .cons (fun l a W hfr hun hup hdn hinv hdep K hK => ?_) ?_
  · have t1 := tAt (.pointer (some ⟨w.heap.size, 0, none⟩)) (hfr.at 1 (by kernel_rfl)); refine fW0 rfl ?_; clear hfr hdep hun hup hdn; go_simp; exact hK _ _ True.intro (hinv.other 0 (by decide) (by decide) (by decide) (by decide)) (dsT (by trivial))
  refine .cons (fun l a W hfr hun hup hdn hinv hdep K hK => ?_) ?_
  · have t17 := tAt (.pointer (some ⟨w.heap.size, 3, none⟩)) (hdep 17 (by kernel_rfl)); refine fW0 rfl ?_; clear hfr hdep hun hup hdn; obtain ⟨c0, c1, c2, c3, c4, c5, c6, c7⟩ := hinv.c.c8; go_simp; exact hK _ _ True.intro (hinv.other 1 (by decide) (by decide) (by decide) (by decide)) (dsT (by trivial))
  refine .cons (fun l a W hfr hun hup hdn hinv hdep K hK => ?_) ?_
  · have t1 := tAt (.pointer (some ⟨w.heap.size, 0, none⟩)) (hfr.at 1 (by kernel_rfl)); refine fW0 rfl ?_; clear hfr hdep hun hup hdn; go_simp; exact hK _ _ True.intro (hinv.other 2 (by decide) (by decide) (by decide) (by decide)) (dsT (by trivial))
  refine .cons (fun l a W hfr hun hup hdn hinv hdep K hK => ?_) ?_
  · have t19 := tAt (.pointer (some ⟨w.heap.size, 4, none⟩)) (hdep 19 (by kernel_rfl)); refine fW0 rfl ?_; clear hfr hdep hun hup hdn; obtain ⟨c0, c1, c2, c3, c4, c5, c6, c7⟩ := hinv.c.c8; go_simp; exact hK _ _ True.intro (hinv.other 3 (by decide) (by decide) (by decide) (by decide)) (dsT (by trivial))
  refine .cons (fun l a W hfr hun hup hdn hinv hdep K hK => ?_) ?_
  · have t1 := tAt (.pointer (some ⟨w.heap.size, 0, none⟩)) (hfr.at 1 (by kernel_rfl)); refine fW0 rfl ?_; clear hfr hdep hun hup hdn; go_simp; exact hK _ _ True.intro (hinv.other 4 (by decide) (by decide) (by decide) (by decide)) (dsT (by trivial))
  refine .cons (fun l a W hfr hun hup hdn hinv hdep K hK => ?_) ?_
  · have t21 := tAt (.pointer (some ⟨w.heap.size, 5, none⟩)) (hdep 21 (by kernel_rfl)); refine fW0 rfl ?_; clear hfr hdep hun hup hdn; obtain ⟨c0, c1, c2, c3, c4, c5, c6, c7⟩ := hinv.c.c8; go_simp; exact hK _ _ True.intro (hinv.other 5 (by decide) (by decide) (by decide) (by decide)) (dsT (by trivial))
  refine .cons (fun l a W hfr hun hup hdn hinv hdep K hK => ?_) ?_
  · have t1 := tAt (.pointer (some ⟨w.heap.size, 0, none⟩)) (hfr.at 1 (by kernel_rfl)); refine fW0 rfl ?_; clear hfr hdep hun hup hdn; go_simp; exact hK _ _ True.intro (hinv.other 6 (by decide) (by decide) (by decide) (by decide)) (dsT (by trivial))
  refine .cons (fun l a W hfr hun hup hdn hinv hdep K hK => ?_) ?_
  · have t23 := tAt (.pointer (some ⟨w.heap.size, 7, none⟩)) (hdep 23 (by kernel_rfl)); refine fW0 rfl ?_; clear hfr hdep hun hup hdn; obtain ⟨c0, c1, c2, c3, c4, c5, c6, c7⟩ := hinv.c.c8; go_simp; exact hK _ _ True.intro (hinv.other 7 (by decide) (by decide) (by decide) (by decide)) (dsT (by trivial))
  refine .cons (fun l a W hfr hun hup hdn hinv hdep K hK => ?_) ?_
  · have t3 := tAt (.pointer (some ⟨w.heap.size + 1 + 1, 0, none⟩)) (hfr.at 3 (by kernel_rfl)); refine fW0 rfl ?_; clear hfr hdep hun hup hdn; go_simp; exact hK _ _ True.intro (hinv.other 8 (by decide) (by decide) (by decide) (by decide)) (dsT (by trivial))
  refine .cons (fun l a W hfr hun hup hdn hinv hdep K hK => ?_) ?_
  · have t25 := tAt (.pointer (some ⟨w.heap.size + 1 + 1, 3, none⟩)) (hdep 25 (by kernel_rfl)); have t18 := tAt (.int .u64 0) (hdep 18 (by kernel_rfl)); refine fW0 rfl ?_; clear hfr hdep hun hup hdn; obtain ⟨⟨f0, f1, f2, f3⟩, x0, x1, x2, x3, y0, y1, y2, y3⟩ := hinv.fr; go_simp; exact hK undef _ True.intro hinv.s9 (fun d hd => by cases hd)
  refine .cons (fun l a W hfr hun hup hdn hinv hdep K hK => ?_) ?_
  · have t3 := tAt (.pointer (some ⟨w.heap.size + 1 + 1, 0, none⟩)) (hfr.at 3 (by kernel_rfl)); refine fW0 rfl ?_; clear hfr hdep hun hup hdn; go_simp; exact hK _ _ True.intro (hinv.other 10 (by decide) (by decide) (by decide) (by decide)) (dsT (by trivial))
  refine .cons (fun l a W hfr hun hup hdn hinv hdep K hK => ?_) ?_
  · have t26 := tAt (.pointer (some ⟨w.heap.size + 1 + 1, 4, none⟩)) (hdep 26 (by kernel_rfl)); have t20 := tAt (.int .i64 g) (hdep 20 (by kernel_rfl)); refine fW0 rfl ?_; clear hfr hdep hun hup hdn; obtain ⟨⟨f0, f1, f2, f3⟩, x0, x1, x2, x3, y0, y1, y2, y3⟩ := hinv.fr; go_simp; exact hK undef _ True.intro hinv.s11 (fun d hd => by cases hd)
  refine .cons (fun l a W hfr hun hup hdn hinv hdep K hK => ?_) ?_
  · have t3 := tAt (.pointer (some ⟨w.heap.size + 1 + 1, 0, none⟩)) (hfr.at 3 (by kernel_rfl)); refine fW0 rfl ?_; clear hfr hdep hun hup hdn; go_simp; exact hK _ _ True.intro (hinv.other 12 (by decide) (by decide) (by decide) (by decide)) (dsT (by trivial))
  refine .cons (fun l a W hfr hun hup hdn hinv hdep K hK => ?_) ?_
  · have t27 := tAt (.pointer (some ⟨w.heap.size + 1 + 1, 5, none⟩)) (hdep 27 (by kernel_rfl)); have t22 := tAt (.int .i64 o) (hdep 22 (by kernel_rfl)); refine fW0 rfl ?_; clear hfr hdep hun hup hdn; obtain ⟨⟨f0, f1, f2, f3⟩, x0, x1, x2, x3, y0, y1, y2, y3⟩ := hinv.fr; go_simp; exact hK undef _ True.intro hinv.s13 (fun d hd => by cases hd)
  refine .cons (fun l a W hfr hun hup hdn hinv hdep K hK => ?_) ?_
  · have t3 := tAt (.pointer (some ⟨w.heap.size + 1 + 1, 0, none⟩)) (hfr.at 3 (by kernel_rfl)); refine fW0 rfl ?_; clear hfr hdep hun hup hdn; go_simp; exact hK _ _ True.intro (hinv.other 14 (by decide) (by decide) (by decide) (by decide)) (dsT (by trivial))
  refine .cons (fun l a W hfr hun hup hdn hinv hdep K hK => ?_) ?_
  · have t28 := tAt (.pointer (some ⟨w.heap.size + 1 + 1, 7, none⟩)) (hdep 28 (by kernel_rfl)); have t24 := tAt (.slice pa na ca) (hdep 24 (by kernel_rfl)); refine fW0 rfl ?_; clear hfr hdep hun hup hdn; obtain ⟨⟨f0, f1, f2, f3⟩, x0, x1, x2, x3, y0, y1, y2, y3⟩ := hinv.fr; go_simp; exact hK undef _ True.intro hinv.s15 (fun d hd => by cases hd)
  exact True.intro
 case fin =>
  intro a W l hfr hall hinv hsl
  have l9 : l 9 = true := hall 9 (by decide); have l11 : l 11 = true := hall 11 (by decide); have l13 : l 13 = true := hall 13 (by decide); have l15 : l 15 = true := hall 15 (by decide); have e := Flow.frame hfr [17, 18, 19, 20, 21, 22, 23, 24, 25, 26, 27, 28] (List.range 39) (by kernel_rfl) (by kernel_rfl)
  simp [List.range, List.range.loop] at e
  rw [e]
  unfold In9 at hinv
  simp only [l9, l11, l13, l15, cond_true] at hinv
  clear HN; have HN := Lib.hid hinv; clear e hfr hsl hall hinv l9 l11 l13 l15
  first
  | (rename_i hB; refine hB _ _ ?_)
  | (rename_i hB y0; refine hB _ _ ?_)
  | (rename_i hB y0 y1; refine hB _ _ ?_)
  | (rename_i hB y0 y1 y2; refine hB _ _ ?_)
  | (rename_i hB y0 y1 y2 y3; refine hB _ _ ?_)
  | (rename_i hB y0 y1 y2 y3 y4; refine hB _ _ ?_)
  | (rename_i hB y0 y1 y2 y3 y4 y5; refine hB _ _ ?_)
  | (rename_i hB y0 y1 y2 y3 y4 y5 y6; refine hB _ _ ?_)
  | (rename_i hB y0 y1 y2 y3 y4 y5 y6 y7; refine hB _ _ ?_)
  | (rename_i hB y0 y1 y2 y3 y4 y5 y6 y7 y8; refine hB _ _ ?_)
  | (rename_i hB y0 y1 y2 y3 y4 y5 y6 y7 y8 y9; refine hB _ _ ?_)
  | (rename_i hB y0 y1 y2 y3 y4 y5 y6 y7 y8 y9 y10; refine hB _ _ ?_)
  | (rename_i hB y0 y1 y2 y3 y4 y5 y6 y7 y8 y9 y10 y11; refine hB _ _ ?_)
  | (rename_i hB y0 y1 y2 y3 y4 y5 y6 y7 y8 y9 y10 y11 y12; refine hB _ _ ?_)
  | (rename_i hB y0 y1 y2 y3 y4 y5 y6 y7 y8 y9 y10 y11 y12 y13; refine hB _ _ ?_)
  | (rename_i hB y0 y1 y2 y3 y4 y5 y6 y7 y8 y9 y10 y11 y12 y13 y14; refine hB _ _ ?_)
  go_wp2_with fail; refine Flow.regionS [] 20 (SlN101 t p x g o pb nb cb pa na ca w.heap.size (w.heap.size + 1 + 1)) (In10 w #[.int .i64 1, .int .u64 t, .int .u64 p, .int .u64 0, .int .i64 g, .int .i64 o, .slice pb nb cb, .slice pa na ca] (.int .i64 1) (.int .u64 t) (.int .u64 p) (.int .i64 0) (.int .u64 0) (.int .u64 0) (.int .u64 0) (.int .i64 g) (.int .i64 o) (.slice pb nb cb) (.slice pa na ca)) (fun _ _ _ => True) (by kernel_rfl) (by kernel_rfl) (fun _ _ _ _ _ _ h _ => h) (HN.out.heap rfl) ?steps ?fin
  case steps =>
   refine .cons (fun l a W hfr hun hup hdn hinv hdep K hK => ?_) ?_
   · have t1 := tAt (.pointer (some ⟨w.heap.size, 0, none⟩)) (hfr.at 1 (by kernel_rfl)); refine fW0 rfl ?_; clear hfr hdep hun hup hdn; go_simp; exact hK _ _ True.intro (hinv.other 0 (by decide) (by decide) (by decide)) (dsT (by trivial))
   refine .cons (fun l a W hfr hun hup hdn hinv hdep K hK => ?_) ?_
   · have t29 := tAt (.pointer (some ⟨w.heap.size, 0, none⟩)) (hdep 29 (by kernel_rfl)); refine fW0 rfl ?_; clear hfr hdep hun hup hdn; obtain ⟨c0, c1, c2, c3, c4, c5, c6, c7⟩ := hinv.c.c8; go_simp; exact hK _ _ True.intro (hinv.other 1 (by decide) (by decide) (by decide)) (dsT (by trivial))
   refine .cons (fun l a W hfr hun hup hdn hinv hdep K hK => ?_) ?_
   · have t1 := tAt (.pointer (some ⟨w.heap.size, 0, none⟩)) (hfr.at 1 (by kernel_rfl)); refine fW0 rfl ?_; clear hfr hdep hun hup hdn; go_simp; exact hK _ _ True.intro (hinv.other 2 (by decide) (by decide) (by decide)) (dsT (by trivial))
   refine .cons (fun l a W hfr hun hup hdn hinv hdep K hK => ?_) ?_
   · have t31 := tAt (.pointer (some ⟨w.heap.size, 1, none⟩)) (hdep 31 (by kernel_rfl)); refine fW0 rfl ?_; clear hfr hdep hun hup hdn; obtain ⟨c0, c1, c2, c3, c4, c5, c6, c7⟩ := hinv.c.c8; go_simp; exact hK _ _ True.intro (hinv.other 3 (by decide) (by decide) (by decide)) (dsT (by trivial))
   refine .cons (fun l a W hfr hun hup hdn hinv hdep K hK => ?_) ?_
   · have t1 := tAt (.pointer (some ⟨w.heap.size, 0, none⟩)) (hfr.at 1 (by kernel_rfl)); refine fW0 rfl ?_; clear hfr hdep hun hup hdn; go_simp; exact hK _ _ True.intro (hinv.other 4 (by decide) (by decide) (by decide)) (dsT (by trivial))
   refine .cons (fun l a W hfr hun hup hdn hinv hdep K hK => ?_) ?_
   · have t33 := tAt (.pointer (some ⟨w.heap.size, 2, none⟩)) (hdep 33 (by kernel_rfl)); refine fW0 rfl ?_; clear hfr hdep hun hup hdn; obtain ⟨c0, c1, c2, c3, c4, c5, c6, c7⟩ := hinv.c.c8; go_simp; exact hK _ _ True.intro (hinv.other 5 (by decide) (by decide) (by decide)) (dsT (by trivial))
   refine .cons (fun l a W hfr hun hup hdn hinv hdep K hK => ?_) ?_
   · have t3 := tAt (.pointer (some ⟨w.heap.size + 1 + 1, 0, none⟩)) (hfr.at 3 (by kernel_rfl)); refine fW0 rfl ?_; clear hfr hdep hun hup hdn; go_simp; exact hK _ _ True.intro (hinv.other 6 (by decide) (by decide) (by decide)) (dsT (by trivial))
   refine .cons (fun l a W hfr hun hup hdn hinv hdep K hK => ?_) ?_
   · have t35 := tAt (.pointer (some ⟨w.heap.size + 1 + 1, 0, none⟩)) (hdep 35 (by kernel_rfl)); have t30 := tAt (.int .i64 1) (hdep 30 (by kernel_rfl)); refine fW0 rfl ?_; clear hfr hdep hun hup hdn; obtain ⟨⟨f0, f1, f2⟩, x0, x1, x2, y0, y1, y2⟩ := hinv.fr; go_simp; exact hK undef _ True.intro hinv.s7 (fun d hd => by cases hd)
   refine .cons (fun l a W hfr hun hup hdn hinv hdep K hK => ?_) ?_
   · have t3 := tAt (.pointer (some ⟨w.heap.size + 1 + 1, 0, none⟩)) (hfr.at 3 (by kernel_rfl)); refine fW0 rfl ?_; clear hfr hdep hun hup hdn; go_simp; exact hK _ _ True.intro (hinv.other 8 (by decide) (by decide) (by decide)) (dsT (by trivial))
   refine .cons (fun l a W hfr hun hup hdn hinv hdep K hK => ?_) ?_
   · have t36 := tAt (.pointer (some ⟨w.heap.size + 1 + 1, 1, none⟩)) (hdep 36 (by kernel_rfl)); have t32 := tAt (.int .u64 t) (hdep 32 (by kernel_rfl)); refine fW0 rfl ?_; clear hfr hdep hun hup hdn; obtain ⟨⟨f0, f1, f2⟩, x0, x1, x2, y0, y1, y2⟩ := hinv.fr; go_simp; exact hK undef _ True.intro hinv.s9 (fun d hd => by cases hd)
   refine .cons (fun l a W hfr hun hup hdn hinv hdep K hK => ?_) ?_
   · have t3 := tAt (.pointer (some ⟨w.heap.size + 1 + 1, 0, none⟩)) (hfr.at 3 (by kernel_rfl)); refine fW0 rfl ?_; clear hfr hdep hun hup hdn; go_simp; exact hK _ _ True.intro (hinv.other 10 (by decide) (by decide) (by decide)) (dsT (by trivial))
   refine .cons (fun l a W hfr hun hup hdn hinv hdep K hK => ?_) ?_
   · have t37 := tAt (.pointer (some ⟨w.heap.size + 1 + 1, 2, none⟩)) (hdep 37 (by kernel_rfl)); have t34 := tAt (.int .u64 p) (hdep 34 (by kernel_rfl)); refine fW0 rfl ?_; clear hfr hdep hun hup hdn; obtain ⟨⟨f0, f1, f2⟩, x0, x1, x2, y0, y1, y2⟩ := hinv.fr; go_simp; exact hK undef _ True.intro hinv.s11 (fun d hd => by cases hd)
   exact True.intro
  case fin =>
   intro a W l hfr hall hinv hsl
   have l7 : l 7 = true := hall 7 (by decide); have l9 : l 9 = true := hall 9 (by decide); have l11 : l 11 = true := hall 11 (by decide); have e := Flow.frame hfr [29, 30, 31, 32, 33, 34, 35, 36, 37] (List.range 39) (by kernel_rfl) (by kernel_rfl)
   simp [List.range, List.range.loop] at e
   rw [e]
   unfold In10 at hinv
   simp only [l7, l9, l11, cond_true] at hinv
   clear HN; have HN := Lib.hid hinv; clear e hfr hsl hall hinv l7 l9 l11
   first
   | (rename_i hB; refine hB _ _ ?_)
   | (rename_i hB y0; refine hB _ _ ?_)
   | (rename_i hB y0 y1; refine hB _ _ ?_)
   | (rename_i hB y0 y1 y2; refine hB _ _ ?_)
   | (rename_i hB y0 y1 y2 y3; refine hB _ _ ?_)
   | (rename_i hB y0 y1 y2 y3 y4; refine hB _ _ ?_)
   | (rename_i hB y0 y1 y2 y3 y4 y5; refine hB _ _ ?_)
   | (rename_i hB y0 y1 y2 y3 y4 y5 y6; refine hB _ _ ?_)
   | (rename_i hB y0 y1 y2 y3 y4 y5 y6 y7; refine hB _ _ ?_)
   | (rename_i hB y0 y1 y2 y3 y4 y5 y6 y7 y8; refine hB _ _ ?_)
   | (rename_i hB y0 y1 y2 y3 y4 y5 y6 y7 y8 y9; refine hB _ _ ?_)
   | (rename_i hB y0 y1 y2 y3 y4 y5 y6 y7 y8 y9 y10; refine hB _ _ ?_)
   | (rename_i hB y0 y1 y2 y3 y4 y5 y6 y7 y8 y9 y10 y11; refine hB _ _ ?_)
   | (rename_i hB y0 y1 y2 y3 y4 y5 y6 y7 y8 y9 y10 y11 y12; refine hB _ _ ?_)
   | (rename_i hB y0 y1 y2 y3 y4 y5 y6 y7 y8 y9 y10 y11 y12 y13; refine hB _ _ ?_)
   | (rename_i hB y0 y1 y2 y3 y4 y5 y6 y7 y8 y9 y10 y11 y12 y13 y14; refine hB _ _ ?_)
   obtain ⟨c0, c1, c2, c3, c4, c5, c6, c7⟩ := HN.out.e.c8; have hz := HN.out.z.c8; obtain ⟨d0, d1, d2, d3, d4, d5, d6, d7⟩ := hz; obtain ⟨q0, q1, q2, q3, q4, q5, q6, q7⟩ := HN.out.z.f8; go_wp2_with fail; exact bodyPost_ret (results_rec rfl _ _ (w.heap.size + 1) #[.int .i64 1, .int .u64 t, .int .u64 p, .int .u64 0, .int .i64 g, .int .i64 o, .slice pb nb cb, .slice pa na ca] rfl rfl ((((((((HN.out.z.set 0 _).set 1 _).set 2 _).set 3 _).set 4 _).set 5 _).set 6 _).set 7 _)) rfl ⟨rfl, below_set8 HN.out.gr (by omega)⟩
set_option maxRecDepth 100000 in
set_option maxHeartbeats 4000000 in
theorem named2 (t : Nat) (p : Nat) (x : Nat) (g : Int) (o : Int) (pb : Option Addr) (nb : Nat) (cb : Nat) (pa : Option Addr) (na : Nat) (ca : Nat) (w : World) : Calls Tryz.prog 106 #[.agg #[.int .i64 2, .int .u64 t, .int .u64 p, .int .u64 x, .int .i64 g, .int .i64 o, .slice pb nb cb, .slice pa na ca]] w (RetV (.agg #[.int .i64 2, .int .u64 t, .int .u64 p, .int .u64 x, .int .i64 g, .int .i64 o, .slice none 0 0, .slice pa na ca]) w) := by
 have HN := Lib.hid (NamAt.new w #[.int .i64 2, .int .u64 t, .int .u64 p, .int .u64 x, .int .i64 g, .int .i64 o, .slice pb nb cb, .slice pa na ca])
 go_enter Tryz.func106, Tryz.ntmps106
 go_upto_region 2 with fail
 generalize (((w.alloc (.cells #[.int .i64 2, .int .u64 t, .int .u64 p, .int .u64 x, .int .i64 g, .int .i64 o, .slice pb nb cb, .slice pa na ca] TR)).alloc (.cells #[.int .i64 0, .int .u64 0, .int .u64 0, .int .u64 0, .int .i64 0, .int .i64 0, .slice none 0 0, .slice none 0 0] TR)).alloc (.cells #[.int .i64 0, .int .u64 0, .int .u64 0, .int .u64 0, .int .i64 0, .int .i64 0, .slice none 0 0, .slice none 0 0] TR)) = W1 at HN ⊢
 obtain ⟨c0, c1, c2, c3, c4, c5, c6, c7⟩ := HN.out.c.c8; obtain ⟨d0, d1, d2, d3, d4, d5, d6, d7⟩ := HN.out.e.c8; have f6 := HN.out.e.frozen 6; have f3 := HN.out.c.frozen 3; go_wp2_with fail; clear c0 c1 c2 c3 c4 c5 c6 c7 d0 d1 d2 d3 d4 d5 d6 d7 f6 f3; refine Flow.regionS [] 20 (SlN92 t p x g o pb nb cb pa na ca w.heap.size (w.heap.size + 1 + 1)) (In9 w #[.int .i64 2, .int .u64 t, .int .u64 p, .int .u64 x, .int .i64 g, .int .i64 o, .slice pb nb cb, .slice pa na ca] (.int .u64 x) (.int .i64 g) (.int .i64 o) (.slice pa na ca) (.int .i64 0) (.int .u64 0) (.int .u64 0) (.int .u64 0) (.int .i64 0) (.int .i64 0) (.slice none 0 0) (.slice none 0 0)) (fun _ _ _ => True) (by kernel_rfl) (by kernel_rfl) (fun _ _ _ _ _ _ h _ => h) (HN.out.heap rfl) ?steps ?fin
 case steps =>
  refine .cons (fun l a W hfr hun hup hdn hinv hdep K hK => ?_) ?_
  · have t1 := tAt (.pointer (some ⟨w.heap.size, 0, none⟩)) (hfr.at 1 (by kernel_rfl)); refine fW0 rfl ?_; clear hfr hdep hun hup hdn; go_simp; exact hK _ _ True.intro (hinv.other 0 (by decide) (by decide) (by decide) (by decide)) (dsT (by trivial))
  refine .cons (fun l a W hfr hun hup hdn hinv hdep K hK => ?_) ?_
  · have t17 := tAt (.pointer (some ⟨w.heap.size, 3, none⟩)) (hdep 17 (by kernel_rfl)); refine fW0 rfl ?_; clear hfr hdep hun hup hdn; obtain ⟨c0, c1, c2, c3, c4, c5, c6, c7⟩ := hinv.c.c8; go_simp; exact hK _ _ True.intro (hinv.other 1 (by decide) (by decide) (by decide) (by decide)) (dsT (by trivial))
  refine .cons (fun l a W hfr hun hup hdn hinv hdep K hK => ?_) ?_
  · have t1 := tAt (.pointer (some ⟨w.heap.size, 0, none⟩)) (hfr.at 1 (by kernel_rfl)); refine fW0 rfl ?_; clear hfr hdep hun hup hdn; go_simp; exact hK _ _ True.intro (hinv.other 2 (by decide) (by decide) (by decide) (by decide)) (dsT (by trivial))
  refine .cons (fun l a W hfr hun hup hdn hinv hdep K hK => ?_) ?_
  · have t19 := tAt (.pointer (some ⟨w.heap.size, 4, none⟩)) (hdep 19 (by kernel_rfl)); refine fW0 rfl ?_; clear hfr hdep hun hup hdn; obtain ⟨c0, c1, c2, c3, c4, c5, c6, c7⟩ := hinv.c.c8; go_simp; exact hK _ _ True.intro (hinv.other 3 (by decide) (by decide) (by decide) (by decide)) (dsT (by trivial))
  refine .cons (fun l a W hfr hun hup hdn hinv hdep K hK => ?_) ?_
  · have t1 := tAt (.pointer (some ⟨w.heap.size, 0, none⟩)) (hfr.at 1 (by kernel_rfl)); refine fW0 rfl ?_; clear hfr hdep hun hup hdn; go_simp; exact hK _ _ True.intro (hinv.other 4 (by decide) (by decide) (by decide) (by decide)) (dsT (by trivial))
  refine .cons (fun l a W hfr hun hup hdn hinv hdep K hK => ?_) ?_
  · have t21 := tAt (.pointer (some ⟨w.heap.size, 5, none⟩)) (hdep 21 (by kernel_rfl)); refine fW0 rfl ?_; clear hfr hdep hun hup hdn; obtain ⟨c0, c1, c2, c3, c4, c5, c6, c7⟩ := hinv.c.c8; go_simp; exact hK _ _ True.intro (hinv.other 5 (by decide) (by decide) (by decide) (by decide)) (dsT (by trivial))
  refine .cons (fun l a W hfr hun hup hdn hinv hdep K hK => ?_) ?_
  · have t1 := tAt (.pointer (some ⟨w.heap.size, 0, none⟩)) (hfr.at 1 (by kernel_rfl)); refine fW0 rfl ?_; clear hfr hdep hun hup hdn; go_simp; exact hK _ _ True.intro (hinv.other 6 (by decide) (by decide) (by decide) (by decide)) (dsT (by trivial))
  refine .cons (fun l a W hfr hun hup hdn hinv hdep K hK => ?_) ?_
  · have t23 := tAt (.pointer (some ⟨w.heap.size, 7, none⟩)) (hdep 23 (by kernel_rfl)); refine fW0 rfl ?_; clear hfr hdep hun hup hdn; obtain ⟨c0, c1, c2, c3, c4, c5, c6, c7⟩ := hinv.c.c8; go_simp; exact hK _ _ True.intro (hinv.other 7 (by decide) (by decide) (by decide) (by decide)) (dsT (by trivial))
  refine .cons (fun l a W hfr hun hup hdn hinv hdep K hK => ?_) ?_
  · have t3 := tAt (.pointer (some ⟨w.heap.size + 1 + 1, 0, none⟩)) (hfr.at 3 (by kernel_rfl)); refine fW0 rfl ?_; clear hfr hdep hun hup hdn; go_simp; exact hK _ _ True.intro (hinv.other 8 (by decide) (by decide) (by decide) (by decide)) (dsT (by trivial))
  refine .cons (fun l a W hfr hun hup hdn hinv hdep K hK => ?_) ?_
  · have t25 := tAt (.pointer (some ⟨w.heap.size + 1 + 1, 3, none⟩)) (hdep 25 (by kernel_rfl)); have t18 := tAt (.int .u64 x) (hdep 18 (by kernel_rfl)); refine fW0 rfl ?_; clear hfr hdep hun hup hdn; obtain ⟨⟨f0, f1, f2, f3⟩, x0, x1, x2, x3, y0, y1, y2, y3⟩ := hinv.fr; go_simp; exact hK undef _ True.intro hinv.s9 (fun d hd => by cases hd)
  refine .cons (fun l a W hfr hun hup hdn hinv hdep K hK => ?_) ?_
  · have t3 := tAt (.pointer (some ⟨w.heap.size + 1 + 1, 0, none⟩)) (hfr.at 3 (by kernel_rfl)); refine fW0 rfl ?_; clear hfr hdep hun hup hdn; go_simp; exact hK _ _ True.intro (hinv.other 10 (by decide) (by decide) (by decide) (by decide)) (dsT (by trivial))
  refine .cons (fun l a W hfr hun hup hdn hinv hdep K hK => ?_) ?_
  · have t26 := tAt (.pointer (some ⟨w.heap.size + 1 + 1, 4, none⟩)) (hdep 26 (by kernel_rfl)); have t20 := tAt (.int .i64 g) (hdep 20 (by kernel_rfl)); refine fW0 rfl ?_; clear hfr hdep hun hup hdn; obtain ⟨⟨f0, f1, f2, f3⟩, x0, x1, x2, x3, y0, y1, y2, y3⟩ := hinv.fr; go_simp; exact hK undef _ True.intro hinv.s11 (fun d hd => by cases hd)
  refine .cons (fun l a W hfr hun hup hdn hinv hdep K hK => ?_) ?_
  · have t3 := tAt (.pointer (some ⟨w.heap.size + 1 + 1, 0, none⟩)) (hfr.at 3 (by kernel_rfl)); refine fW0 rfl ?_; clear hfr hdep hun hup hdn; go_simp; exact hK _ _ True.intro (hinv.other 12 (by decide) (by decide) (by decide) (by decide)) (dsT (by trivial))
  refine .cons (fun l a W hfr hun hup hdn hinv hdep K hK => ?_) ?_
  · have t27 := tAt (.pointer (some ⟨w.heap.size + 1 + 1, 5, none⟩)) (hdep 27 (by kernel_rfl)); have t22 := tAt (.int .i64 o) (hdep 22 (by kernel_rfl)); refine fW0 rfl ?_; clear hfr hdep hun hup hdn; obtain ⟨⟨f0, f1, f2, f3⟩, x0, x1, x2, x3, y0, y1, y2, y3⟩ := hinv.fr; go_simp; exact hK undef _ True.intro hinv.s13 (fun d hd => by cases hd)
  refine .cons (fun l a W hfr hun hup hdn hinv hdep K hK => ?_) ?_
  · have t3 := tAt (.pointer (some ⟨w.heap.size + 1 + 1, 0, none⟩)) (hfr.at 3 (by kernel_rfl)); refine fW0 rfl ?_; clear hfr hdep hun hup hdn; go_simp; exact hK _ _ True.intro (hinv.other 14 (by decide) (by decide) (by decide) (by decide)) (dsT (by trivial))
  refine .cons (fun l a W hfr hun hup hdn hinv hdep K hK => ?_) ?_
  · have t28 := tAt (.pointer (some ⟨w.heap.size + 1 + 1, 7, none⟩)) (hdep 28 (by kernel_rfl)); have t24 := tAt (.slice pa na ca) (hdep 24 (by kernel_rfl)); refine fW0 rfl ?_; clear hfr hdep hun hup hdn; obtain ⟨⟨f0, f1, f2, f3⟩, x0, x1, x2, x3, y0, y1, y2, y3⟩ := hinv.fr; go_simp; exact hK undef _ True.intro hinv.s15 (fun d hd => by cases hd)
  exact True.intro
 case fin =>
  intro a W l hfr hall hinv hsl
  have l9 : l 9 = true := hall 9 (by decide); have l11 : l 11 = true := hall 11 (by decide); have l13 : l 13 = true := hall 13 (by decide); have l15 : l 15 = true := hall 15 (by decide); have e := Flow.frame hfr [17, 18, 19, 20, 21, 22, 23, 24, 25, 26, 27, 28] (List.range 39) (by kernel_rfl) (by kernel_rfl)
  simp [List.range, List.range.loop] at e
  rw [e]
  unfold In9 at hinv
  simp only [l9, l11, l13, l15, cond_true] at hinv
  clear HN; have HN := Lib.hid hinv; clear e hfr hsl hall hinv l9 l11 l13 l15
  first
  | (rename_i hB; refine hB _ _ ?_)
  | (rename_i hB y0; refine hB _ _ ?_)
  | (rename_i hB y0 y1; refine hB _ _ ?_)
  | (rename_i hB y0 y1 y2; refine hB _ _ ?_)
  | (rename_i hB y0 y1 y2 y3; refine hB _ _ ?_)
  | (rename_i hB y0 y1 y2 y3 y4; refine hB _ _ ?_)
  | (rename_i hB y0 y1 y2 y3 y4 y5; refine hB _ _ ?_)
  | (rename_i hB y0 y1 y2 y3 y4 y5 y6; refine hB _ _ ?_)
  | (rename_i hB y0 y1 y2 y3 y4 y5 y6 y7; refine hB _ _ ?_)
  | (rename_i hB y0 y1 y2 y3 y4 y5 y6 y7 y8; refine hB _ _ ?_)
  | (rename_i hB y0 y1 y2 y3 y4 y5 y6 y7 y8 y9; refine hB _ _ ?_)
  | (rename_i hB y0 y1 y2 y3 y4 y5 y6 y7 y8 y9 y10; refine hB _ _ ?_)
  | (rename_i hB y0 y1 y2 y3 y4 y5 y6 y7 y8 y9 y10 y11; refine hB _ _ ?_)
  | (rename_i hB y0 y1 y2 y3 y4 y5 y6 y7 y8 y9 y10 y11 y12; refine hB _ _ ?_)
  | (rename_i hB y0 y1 y2 y3 y4 y5 y6 y7 y8 y9 y10 y11 y12 y13; refine hB _ _ ?_)
  | (rename_i hB y0 y1 y2 y3 y4 y5 y6 y7 y8 y9 y10 y11 y12 y13 y14; refine hB _ _ ?_)
  go_wp2_with fail; refine Flow.regionS [] 20 (SlN102 t p x g o pb nb cb pa na ca w.heap.size (w.heap.size + 1 + 1)) (In10 w #[.int .i64 2, .int .u64 t, .int .u64 p, .int .u64 x, .int .i64 g, .int .i64 o, .slice pb nb cb, .slice pa na ca] (.int .i64 2) (.int .u64 t) (.int .u64 p) (.int .i64 0) (.int .u64 0) (.int .u64 0) (.int .u64 x) (.int .i64 g) (.int .i64 o) (.slice none 0 0) (.slice pa na ca)) (fun _ _ _ => True) (by kernel_rfl) (by kernel_rfl) (fun _ _ _ _ _ _ h _ => h) (HN.out.heap rfl) ?steps ?fin
  case steps =>
   refine .cons (fun l a W hfr hun hup hdn hinv hdep K hK => ?_) ?_
   · have t1 := tAt (.pointer (some ⟨w.heap.size, 0, none⟩)) (hfr.at 1 (by kernel_rfl)); refine fW0 rfl ?_; clear hfr hdep hun hup hdn; go_simp; exact hK _ _ True.intro (hinv.other 0 (by decide) (by decide) (by decide)) (dsT (by trivial))
   refine .cons (fun l a W hfr hun hup hdn hinv hdep K hK => ?_) ?_
   · have t29 := tAt (.pointer (some ⟨w.heap.size, 0, none⟩)) (hdep 29 (by kernel_rfl)); refine fW0 rfl ?_; clear hfr hdep hun hup hdn; obtain ⟨c0, c1, c2, c3, c4, c5, c6, c7⟩ := hinv.c.c8; go_simp; exact hK _ _ True.intro (hinv.other 1 (by decide) (by decide) (by decide)) (dsT (by trivial))
   refine .cons (fun l a W hfr hun hup hdn hinv hdep K hK => ?_) ?_
   · have t1 := tAt (.pointer (some ⟨w.heap.size, 0, none⟩)) (hfr.at 1 (by kernel_rfl)); refine fW0 rfl ?_; clear hfr hdep hun hup hdn; go_simp; exact hK _ _ True.intro (hinv.other 2 (by decide) (by decide) (by decide)) (dsT (by trivial))
   refine .cons (fun l a W hfr hun hup hdn hinv hdep K hK => ?_) ?_
   · have t31 := tAt (.pointer (some ⟨w.heap.size, 1, none⟩)) (hdep 31 (by kernel_rfl)); refine fW0 rfl ?_; clear hfr hdep hun hup hdn; obtain ⟨c0, c1, c2, c3, c4, c5, c6, c7⟩ := hinv.c.c8; go_simp; exact hK _ _ True.intro (hinv.other 3 (by decide) (by decide) (by decide)) (dsT (by trivial))
   refine .cons (fun l a W hfr hun hup hdn hinv hdep K hK => ?_) ?_
   · have t1 := tAt (.pointer (some ⟨w.heap.size, 0, none⟩)) (hfr.at 1 (by kernel_rfl)); refine fW0 rfl ?_; clear hfr hdep hun hup hdn; go_simp; exact hK _ _ True.intro (hinv.other 4 (by decide) (by decide) (by decide)) (dsT (by trivial))
   refine .cons (fun l a W hfr hun hup hdn hinv hdep K hK => ?_) ?_
   · have t33 := tAt (.pointer (some ⟨w.heap.size, 2, none⟩)) (hdep 33 (by kernel_rfl)); refine fW0 rfl ?_; clear hfr hdep hun hup hdn; obtain ⟨c0, c1, c2, c3, c4, c5, c6, c7⟩ := hinv.c.c8; go_simp; exact hK _ _ True.intro (hinv.other 5 (by decide) (by decide) (by decide)) (dsT (by trivial))
   refine .cons (fun l a W hfr hun hup hdn hinv hdep K hK => ?_) ?_
   · have t3 := tAt (.pointer (some ⟨w.heap.size + 1 + 1, 0, none⟩)) (hfr.at 3 (by kernel_rfl)); refine fW0 rfl ?_; clear hfr hdep hun hup hdn; go_simp; exact hK _ _ True.intro (hinv.other 6 (by decide) (by decide) (by decide)) (dsT (by trivial))
   refine .cons (fun l a W hfr hun hup hdn hinv hdep K hK => ?_) ?_
   · have t35 := tAt (.pointer (some ⟨w.heap.size + 1 + 1, 0, none⟩)) (hdep 35 (by kernel_rfl)); have t30 := tAt (.int .i64 2) (hdep 30 (by kernel_rfl)); refine fW0 rfl ?_; clear hfr hdep hun hup hdn; obtain ⟨⟨f0, f1, f2⟩, x0, x1, x2, y0, y1, y2⟩ := hinv.fr; go_simp; exact hK undef _ True.intro hinv.s7 (fun d hd => by cases hd)
   refine .cons (fun l a W hfr hun hup hdn hinv hdep K hK => ?_) ?_
   · have t3 := tAt (.pointer (some ⟨w.heap.size + 1 + 1, 0, none⟩)) (hfr.at 3 (by kernel_rfl)); refine fW0 rfl ?_; clear hfr hdep hun hup hdn; go_simp; exact hK _ _ True.intro (hinv.other 8 (by decide) (by decide) (by decide)) (dsT (by trivial))
   refine .cons (fun l a W hfr hun hup hdn hinv hdep K hK => ?_) ?_
   · have t36 := tAt (.pointer (some ⟨w.heap.size + 1 + 1, 1, none⟩)) (hdep 36 (by kernel_rfl)); have t32 := tAt (.int .u64 t) (hdep 32 (by kernel_rfl)); refine fW0 rfl ?_; clear hfr hdep hun hup hdn; obtain ⟨⟨f0, f1, f2⟩, x0, x1, x2, y0, y1, y2⟩ := hinv.fr; go_simp; exact hK undef _ True.intro hinv.s9 (fun d hd => by cases hd)
   refine .cons (fun l a W hfr hun hup hdn hinv hdep K hK => ?_) ?_
   · have t3 := tAt (.pointer (some ⟨w.heap.size + 1 + 1, 0, none⟩)) (hfr.at 3 (by kernel_rfl)); refine fW0 rfl ?_; clear hfr hdep hun hup hdn; go_simp; exact hK _ _ True.intro (hinv.other 10 (by decide) (by decide) (by decide)) (dsT (by trivial))
   refine .cons (fun l a W hfr hun hup hdn hinv hdep K hK => ?_) ?_
   · have t37 := tAt (.pointer (some ⟨w.heap.size + 1 + 1, 2, none⟩)) (hdep 37 (by kernel_rfl)); have t34 := tAt (.int .u64 p) (hdep 34 (by kernel_rfl)); refine fW0 rfl ?_; clear hfr hdep hun hup hdn; obtain ⟨⟨f0, f1, f2⟩, x0, x1, x2, y0, y1, y2⟩ := hinv.fr; go_simp; exact hK undef _ True.intro hinv.s11 (fun d hd => by cases hd)
   exact True.intro
  case fin =>
   intro a W l hfr hall hinv hsl
   have l7 : l 7 = true := hall 7 (by decide); have l9 : l 9 = true := hall 9 (by decide); have l11 : l 11 = true := hall 11 (by decide); have e := Flow.frame hfr [29, 30, 31, 32, 33, 34, 35, 36, 37] (List.range 39) (by kernel_rfl) (by kernel_rfl)
   simp [List.range, List.range.loop] at e
   rw [e]
   unfold In10 at hinv
   simp only [l7, l9, l11, cond_true] at hinv
   clear HN; have HN := Lib.hid hinv; clear e hfr hsl hall hinv l7 l9 l11
   first
   | (rename_i hB; refine hB _ _ ?_)
   | (rename_i hB y0; refine hB _ _ ?_)
   | (rename_i hB y0 y1; refine hB _ _ ?_)
   | (rename_i hB y0 y1 y2; refine hB _ _ ?_)
   | (rename_i hB y0 y1 y2 y3; refine hB _ _ ?_)
   | (rename_i hB y0 y1 y2 y3 y4; refine hB _ _ ?_)
   | (rename_i hB y0 y1 y2 y3 y4 y5; refine hB _ _ ?_)
   | (rename_i hB y0 y1 y2 y3 y4 y5 y6; refine hB _ _ ?_)
   | (rename_i hB y0 y1 y2 y3 y4 y5 y6 y7; refine hB _ _ ?_)
   | (rename_i hB y0 y1 y2 y3 y4 y5 y6 y7 y8; refine hB _ _ ?_)
   | (rename_i hB y0 y1 y2 y3 y4 y5 y6 y7 y8 y9; refine hB _ _ ?_)
   | (rename_i hB y0 y1 y2 y3 y4 y5 y6 y7 y8 y9 y10; refine hB _ _ ?_)
   | (rename_i hB y0 y1 y2 y3 y4 y5 y6 y7 y8 y9 y10 y11; refine hB _ _ ?_)
   | (rename_i hB y0 y1 y2 y3 y4 y5 y6 y7 y8 y9 y10 y11 y12; refine hB _ _ ?_)
   | (rename_i hB y0 y1 y2 y3 y4 y5 y6 y7 y8 y9 y10 y11 y12 y13; refine hB _ _ ?_)
   | (rename_i hB y0 y1 y2 y3 y4 y5 y6 y7 y8 y9 y10 y11 y12 y13 y14; refine hB _ _ ?_)
   obtain ⟨c0, c1, c2, c3, c4, c5, c6, c7⟩ := HN.out.e.c8; have hz := HN.out.z.c8; obtain ⟨d0, d1, d2, d3, d4, d5, d6, d7⟩ := hz; obtain ⟨q0, q1, q2, q3, q4, q5, q6, q7⟩ := HN.out.z.f8; go_wp2_with fail; exact bodyPost_ret (results_rec rfl _ _ (w.heap.size + 1) #[.int .i64 2, .int .u64 t, .int .u64 p, .int .u64 x, .int .i64 g, .int .i64 o, .slice none 0 0, .slice pa na ca] rfl rfl ((((((((HN.out.z.set 0 _).set 1 _).set 2 _).set 3 _).set 4 _).set 5 _).set 6 _).set 7 _)) rfl ⟨rfl, below_set8 HN.out.gr (by omega)⟩
set_option maxRecDepth 100000 in
set_option maxHeartbeats 4000000 in
theorem named3 (t : Nat) (p : Nat) (x : Nat) (g : Int) (o : Int) (pb : Option Addr) (nb : Nat) (cb : Nat) (pa : Option Addr) (na : Nat) (ca : Nat) (w : World) : Calls Tryz.prog 106 #[.agg #[.int .i64 3, .int .u64 t, .int .u64 p, .int .u64 x, .int .i64 g, .int .i64 o, .slice pb nb cb, .slice pa na ca]] w (RetV (.agg #[.int .i64 3, .int .u64 t, .int .u64 p, .int .u64 0, .int .i64 0, .int .i64 0, .slice none 0 0, .slice none 0 0]) w) := by
 have HN := Lib.hid (NamAt.new w #[.int .i64 3, .int .u64 t, .int .u64 p, .int .u64 x, .int .i64 g, .int .i64 o, .slice pb nb cb, .slice pa na ca])
 go_enter Tryz.func106, Tryz.ntmps106
 go_upto_region 2 with fail
 generalize (((w.alloc (.cells #[.int .i64 3, .int .u64 t, .int .u64 p, .int .u64 x, .int .i64 g, .int .i64 o, .slice pb nb cb, .slice pa na ca] TR)).alloc (.cells #[.int .i64 0, .int .u64 0, .int .u64 0, .int .u64 0, .int .i64 0, .int .i64 0, .slice none 0 0, .slice none 0 0] TR)).alloc (.cells #[.int .i64 0, .int .u64 0, .int .u64 0, .int .u64 0, .int .i64 0, .int .i64 0, .slice none 0 0, .slice none 0 0] TR)) = W1 at HN ⊢
 obtain ⟨c0, c1, c2, c3, c4, c5, c6, c7⟩ := HN.out.c.c8; obtain ⟨d0, d1, d2, d3, d4, d5, d6, d7⟩ := HN.out.e.c8; have f6 := HN.out.e.frozen 6; have f3 := HN.out.c.frozen 3; go_wp2_with fail; clear c0 c1 c2 c3 c4 c5 c6 c7 d0 d1 d2 d3 d4 d5 d6 d7 f6 f3; refine Flow.regionS [] 20 (SlN103 t p x g o pb nb cb pa na ca w.heap.size (w.heap.size + 1 + 1)) (In10 w #[.int .i64 3, .int .u64 t, .int .u64 p, .int .u64 x, .int .i64 g, .int .i64 o, .slice pb nb cb, .slice pa na ca] (.int .i64 3) (.int .u64 t) (.int .u64 p) (.int .i64 0) (.int .u64 0) (.int .u64 0) (.int .u64 0) (.int .i64 0) (.int .i64 0) (.slice none 0 0) (.slice none 0 0)) (fun _ _ _ => True) (by kernel_rfl) (by kernel_rfl) (fun _ _ _ _ _ _ h _ => h) (HN.out.heap rfl) ?steps ?fin
 case steps =>
  refine .cons (fun l a W hfr hun hup hdn hinv hdep K hK => ?_) ?_
  · have t1 := tAt (.pointer (some ⟨w.heap.size, 0, none⟩)) (hfr.at 1 (by kernel_rfl)); refine fW0 rfl ?_; clear hfr hdep hun hup hdn; go_simp; exact hK _ _ True.intro (hinv.other 0 (by decide) (by decide) (by decide)) (dsT (by trivial))
  refine .cons (fun l a W hfr hun hup hdn hinv hdep K hK => ?_) ?_
  · have t29 := tAt (.pointer (some ⟨w.heap.size, 0, none⟩)) (hdep 29 (by kernel_rfl)); refine fW0 rfl ?_; clear hfr hdep hun hup hdn; obtain ⟨c0, c1, c2, c3, c4, c5, c6, c7⟩ := hinv.c.c8; go_simp; exact hK _ _ True.intro (hinv.other 1 (by decide) (by decide) (by decide)) (dsT (by trivial))
  refine .cons (fun l a W hfr hun hup hdn hinv hdep K hK => ?_) ?_
  · have t1 := tAt (.pointer (some ⟨w.heap.size, 0, none⟩)) (hfr.at 1 (by kernel_rfl)); refine fW0 rfl ?_; clear hfr hdep hun hup hdn; go_simp; exact hK _ _ True.intro (hinv.other 2 (by decide) (by decide) (by decide)) (dsT (by trivial))
  refine .cons (fun l a W hfr hun hup hdn hinv hdep K hK => ?_) ?_
  · have t31 := tAt (.pointer (some ⟨w.heap.size, 1, none⟩)) (hdep 31 (by kernel_rfl)); refine fW0 rfl ?_; clear hfr hdep hun hup hdn; obtain ⟨c0, c1, c2, c3, c4, c5, c6, c7⟩ := hinv.c.c8; go_simp; exact hK _ _ True.intro (hinv.other 3 (by decide) (by decide) (by decide)) (dsT (by trivial))
  refine .cons (fun l a W hfr hun hup hdn hinv hdep K hK => ?_) ?_
  · have t1 := tAt (.pointer (some ⟨w.heap.size, 0, none⟩)) (hfr.at 1 (by kernel_rfl)); refine fW0 rfl ?_; clear hfr hdep hun hup hdn; go_simp; exact hK _ _ True.intro (hinv.other 4 (by decide) (by decide) (by decide)) (dsT (by trivial))
  refine .cons (fun l a W hfr hun hup hdn hinv hdep K hK => ?_) ?_
  · have t33 := tAt (.pointer (some ⟨w.heap.size, 2, none⟩)) (hdep 33 (by kernel_rfl)); refine fW0 rfl ?_; clear hfr hdep hun hup hdn; obtain ⟨c0, c1, c2, c3, c4, c5, c6, c7⟩ := hinv.c.c8; go_simp; exact hK _ _ True.intro (hinv.other 5 (by decide) (by decide) (by decide)) (dsT (by trivial))
  refine .cons (fun l a W hfr hun hup hdn hinv hdep K hK => ?_) ?_
  · have t3 := tAt (.pointer (some ⟨w.heap.size + 1 + 1, 0, none⟩)) (hfr.at 3 (by kernel_rfl)); refine fW0 rfl ?_; clear hfr hdep hun hup hdn; go_simp; exact hK _ _ True.intro (hinv.other 6 (by decide) (by decide) (by decide)) (dsT (by trivial))
  refine .cons (fun l a W hfr hun hup hdn hinv hdep K hK => ?_) ?_
  · have t35 := tAt (.pointer (some ⟨w.heap.size + 1 + 1, 0, none⟩)) (hdep 35 (by kernel_rfl)); have t30 := tAt (.int .i64 3) (hdep 30 (by kernel_rfl)); refine fW0 rfl ?_; clear hfr hdep hun hup hdn; obtain ⟨⟨f0, f1, f2⟩, x0, x1, x2, y0, y1, y2⟩ := hinv.fr; go_simp; exact hK undef _ True.intro hinv.s7 (fun d hd => by cases hd)
  refine .cons (fun l a W hfr hun hup hdn hinv hdep K hK => ?_) ?_
  · have t3 := tAt (.pointer (some ⟨w.heap.size + 1 + 1, 0, none⟩)) (hfr.at 3 (by kernel_rfl)); refine fW0 rfl ?_; clear hfr hdep hun hup hdn; go_simp; exact hK _ _ True.intro (hinv.other 8 (by decide) (by decide) (by decide)) (dsT (by trivial))
  refine .cons (fun l a W hfr hun hup hdn hinv hdep K hK => ?_) ?_
  · have t36 := tAt (.pointer (some ⟨w.heap.size + 1 + 1, 1, none⟩)) (hdep 36 (by kernel_rfl)); have t32 := tAt (.int .u64 t) (hdep 32 (by kernel_rfl)); refine fW0 rfl ?_; clear hfr hdep hun hup hdn; obtain ⟨⟨f0, f1, f2⟩, x0, x1, x2, y0, y1, y2⟩ := hinv.fr; go_simp; exact hK undef _ True.intro hinv.s9 (fun d hd => by cases hd)
  refine .cons (fun l a W hfr hun hup hdn hinv hdep K hK => ?_) ?_
  · have t3 := tAt (.pointer (some ⟨w.heap.size + 1 + 1, 0, none⟩)) (hfr.at 3 (by kernel_rfl)); refine fW0 rfl ?_; clear hfr hdep hun hup hdn; go_simp; exact hK _ _ True.intro (hinv.other 10 (by decide) (by decide) (by decide)) (dsT (by trivial))
  refine .cons (fun l a W hfr hun hup hdn hinv hdep K hK => ?_) ?_
  · have t37 := tAt (.pointer (some ⟨w.heap.size + 1 + 1, 2, none⟩)) (hdep 37 (by kernel_rfl)); have t34 := tAt (.int .u64 p) (hdep 34 (by kernel_rfl)); refine fW0 rfl ?_; clear hfr hdep hun hup hdn; obtain ⟨⟨f0, f1, f2⟩, x0, x1, x2, y0, y1, y2⟩ := hinv.fr; go_simp; exact hK undef _ True.intro hinv.s11 (fun d hd => by cases hd)
  exact True.intro
 case fin =>
  intro a W l hfr hall hinv hsl
  have l7 : l 7 = true := hall 7 (by decide); have l9 : l 9 = true := hall 9 (by decide); have l11 : l 11 = true := hall 11 (by decide); have e := Flow.frame hfr [29, 30, 31, 32, 33, 34, 35, 36, 37] (List.range 39) (by kernel_rfl) (by kernel_rfl)
  simp [List.range, List.range.loop] at e
  rw [e]
  unfold In10 at hinv
  simp only [l7, l9, l11, cond_true] at hinv
  clear HN; have HN := Lib.hid hinv; clear e hfr hsl hall hinv l7 l9 l11
  first
  | (rename_i hB; refine hB _ _ ?_)
  | (rename_i hB y0; refine hB _ _ ?_)
  | (rename_i hB y0 y1; refine hB _ _ ?_)
  | (rename_i hB y0 y1 y2; refine hB _ _ ?_)
  | (rename_i hB y0 y1 y2 y3; refine hB _ _ ?_)
  | (rename_i hB y0 y1 y2 y3 y4; refine hB _ _ ?_)
  | (rename_i hB y0 y1 y2 y3 y4 y5; refine hB _ _ ?_)
  | (rename_i hB y0 y1 y2 y3 y4 y5 y6; refine hB _ _ ?_)
  | (rename_i hB y0 y1 y2 y3 y4 y5 y6 y7; refine hB _ _ ?_)
  | (rename_i hB y0 y1 y2 y3 y4 y5 y6 y7 y8; refine hB _ _ ?_)
  | (rename_i hB y0 y1 y2 y3 y4 y5 y6 y7 y8 y9; refine hB _ _ ?_)
  | (rename_i hB y0 y1 y2 y3 y4 y5 y6 y7 y8 y9 y10; refine hB _ _ ?_)
  | (rename_i hB y0 y1 y2 y3 y4 y5 y6 y7 y8 y9 y10 y11; refine hB _ _ ?_)
  | (rename_i hB y0 y1 y2 y3 y4 y5 y6 y7 y8 y9 y10 y11 y12; refine hB _ _ ?_)
  | (rename_i hB y0 y1 y2 y3 y4 y5 y6 y7 y8 y9 y10 y11 y12 y13; refine hB _ _ ?_)
  | (rename_i hB y0 y1 y2 y3 y4 y5 y6 y7 y8 y9 y10 y11 y12 y13 y14; refine hB _ _ ?_)
  obtain ⟨c0, c1, c2, c3, c4, c5, c6, c7⟩ := HN.out.e.c8; have hz := HN.out.z.c8; obtain ⟨d0, d1, d2, d3, d4, d5, d6, d7⟩ := hz; obtain ⟨q0, q1, q2, q3, q4, q5, q6, q7⟩ := HN.out.z.f8; go_wp2_with fail; exact bodyPost_ret (results_rec rfl _ _ (w.heap.size + 1) #[.int .i64 3, .int .u64 t, .int .u64 p, .int .u64 0, .int .i64 0, .int .i64 0, .slice none 0 0, .slice none 0 0] rfl rfl ((((((((HN.out.z.set 0 _).set 1 _).set 2 _).set 3 _).set 4 _).set 5 _).set 6 _).set 7 _)) rfl ⟨rfl, below_set8 HN.out.gr (by omega)⟩
set_option maxRecDepth 100000 in
set_option maxHeartbeats 4000000 in
theorem named4 (t : Nat) (p : Nat) (x : Nat) (g : Int) (o : Int) (pb : Option Addr) (nb : Nat) (cb : Nat) (pa : Option Addr) (na : Nat) (ca : Nat) (w : World) : Calls Tryz.prog 106 #[.agg #[.int .i64 4, .int .u64 t, .int .u64 p, .int .u64 x, .int .i64 g, .int .i64 o, .slice pb nb cb, .slice pa na ca]] w (RetV (.agg #[.int .i64 4, .int .u64 t, .int .u64 p, .int .u64 0, .int .i64 0, .int .i64 0, .slice none 0 0, .slice none 0 0]) w) := by
 have HN := Lib.hid (NamAt.new w #[.int .i64 4, .int .u64 t, .int .u64 p, .int .u64 x, .int .i64 g, .int .i64 o, .slice pb nb cb, .slice pa na ca])
 go_enter Tryz.func106, Tryz.ntmps106
 go_upto_region 2 with fail
 generalize (((w.alloc (.cells #[.int .i64 4, .int .u64 t, .int .u64 p, .int .u64 x, .int .i64 g, .int .i64 o, .slice pb nb cb, .slice pa na ca] TR)).alloc (.cells #[.int .i64 0, .int .u64 0, .int .u64 0, .int .u64 0, .int .i64 0, .int .i64 0, .slice none 0 0, .slice none 0 0] TR)).alloc (.cells #[.int .i64 0, .int .u64 0, .int .u64 0, .int .u64 0, .int .i64 0, .int .i64 0, .slice none 0 0, .slice none 0 0] TR)) = W1 at HN ⊢
 obtain ⟨c0, c1, c2, c3, c4, c5, c6, c7⟩ := HN.out.c.c8; obtain ⟨d0, d1, d2, d3, d4, d5, d6, d7⟩ := HN.out.e.c8; have f6 := HN.out.e.frozen 6; have f3 := HN.out.c.frozen 3; go_wp2_with fail; clear c0 c1 c2 c3 c4 c5 c6 c7 d0 d1 d2 d3 d4 d5 d6 d7 f6 f3; refine Flow.regionS [] 20 (SlN104 t p x g o pb nb cb pa na ca w.heap.size (w.heap.size + 1 + 1)) (In10 w #[.int .i64 4, .int .u64 t, .int .u64 p, .int .u64 x, .int .i64 g, .int .i64 o, .slice pb nb cb, .slice pa na ca] (.int .i64 4) (.int .u64 t) (.int .u64 p) (.int .i64 0) (.int .u64 0) (.int .u64 0) (.int .u64 0) (.int .i64 0) (.int .i64 0) (.slice none 0 0) (.slice none 0 0)) (fun _ _ _ => True) (by kernel_rfl) (by kernel_rfl) (fun _ _ _ _ _ _ h _ => h) (HN.out.heap rfl) ?steps ?fin
 case steps =>
  refine .cons (fun l a W hfr hun hup hdn hinv hdep K hK => ?_) ?_
  · have t1 := tAt (.pointer (some ⟨w.heap.size, 0, none⟩)) (hfr.at 1 (by kernel_rfl)); refine fW0 rfl ?_; clear hfr hdep hun hup hdn; go_simp; exact hK _ _ True.intro (hinv.other 0 (by decide) (by decide) (by decide)) (dsT (by trivial))
  refine .cons (fun l a W hfr hun hup hdn hinv hdep K hK => ?_) ?_
  · have t29 := tAt (.pointer (some ⟨w.heap.size, 0, none⟩)) (hdep 29 (by kernel_rfl)); refine fW0 rfl ?_; clear hfr hdep hun hup hdn; obtain ⟨c0, c1, c2, c3, c4, c5, c6, c7⟩ := hinv.c.c8; go_simp; exact hK _ _ True.intro (hinv.other 1 (by decide) (by decide) (by decide)) (dsT (by trivial))
  refine .cons (fun l a W hfr hun hup hdn hinv hdep K hK => ?_) ?_
  · have t1 := tAt (.pointer (some ⟨w.heap.size, 0, none⟩)) (hfr.at 1 (by kernel_rfl)); refine fW0 rfl ?_; clear hfr hdep hun hup hdn; go_simp; exact hK _ _ True.intro (hinv.other 2 (by decide) (by decide) (by decide)) (dsT (by trivial))
  refine .cons (fun l a W hfr hun hup hdn hinv hdep K hK => ?_) ?_
  · have t31 := tAt (.pointer (some ⟨w.heap.size, 1, none⟩)) (hdep 31 (by kernel_rfl)); refine fW0 rfl ?_; clear hfr hdep hun hup hdn; obtain ⟨c0, c1, c2, c3, c4, c5, c6, c7⟩ := hinv.c.c8; go_simp; exact hK _ _ True.intro (hinv.other 3 (by decide) (by decide) (by decide)) (dsT (by trivial))
  refine .cons (fun l a W hfr hun hup hdn hinv hdep K hK => ?_) ?_
  · have t1 := tAt (.pointer (some ⟨w.heap.size, 0, none⟩)) (hfr.at 1 (by kernel_rfl)); refine fW0 rfl ?_; clear hfr hdep hun hup hdn; go_simp; exact hK _ _ True.intro (hinv.other 4 (by decide) (by decide) (by decide)) (dsT (by trivial))
  refine .cons (fun l a W hfr hun hup hdn hinv hdep K hK => ?_) ?_
  · have t33 := tAt (.pointer (some ⟨w.heap.size, 2, none⟩)) (hdep 33 (by kernel_rfl)); refine fW0 rfl ?_; clear hfr hdep hun hup hdn; obtain ⟨c0, c1, c2, c3, c4, c5, c6, c7⟩ := hinv.c.c8; go_simp; exact hK _ _ True.intro (hinv.other 5 (by decide) (by decide) (by decide)) (dsT (by trivial))
  refine .cons (fun l a W hfr hun hup hdn hinv hdep K hK => ?_) ?_
  · have t3 := tAt (.pointer (some ⟨w.heap.size + 1 + 1, 0, none⟩)) (hfr.at 3 (by kernel_rfl)); refine fW0 rfl ?_; clear hfr hdep hun hup hdn; go_simp; exact hK _ _ True.intro (hinv.other 6 (by decide) (by decide) (by decide)) (dsT (by trivial))
  refine .cons (fun l a W hfr hun hup hdn hinv hdep K hK => ?_) ?_
  · have t35 := tAt (.pointer (some ⟨w.heap.size + 1 + 1, 0, none⟩)) (hdep 35 (by kernel_rfl)); have t30 := tAt (.int .i64 4) (hdep 30 (by kernel_rfl)); refine fW0 rfl ?_; clear hfr hdep hun hup hdn; obtain ⟨⟨f0, f1, f2⟩, x0, x1, x2, y0, y1, y2⟩ := hinv.fr; go_simp; exact hK undef _ True.intro hinv.s7 (fun d hd => by cases hd)
  refine .cons (fun l a W hfr hun hup hdn hinv hdep K hK => ?_) ?_
  · have t3 := tAt (.pointer (some ⟨w.heap.size + 1 + 1, 0, none⟩)) (hfr.at 3 (by kernel_rfl)); refine fW0 rfl ?_; clear hfr hdep hun hup hdn; go_simp; exact hK _ _ True.intro (hinv.other 8 (by decide) (by decide) (by decide)) (dsT (by trivial))
  refine .cons (fun l a W hfr hun hup hdn hinv hdep K hK => ?_) ?_
  · have t36 := tAt (.pointer (some ⟨w.heap.size + 1 + 1, 1, none⟩)) (hdep 36 (by kernel_rfl)); have t32 := tAt (.int .u64 t) (hdep 32 (by kernel_rfl)); refine fW0 rfl ?_; clear hfr hdep hun hup hdn; obtain ⟨⟨f0, f1, f2⟩, x0, x1, x2, y0, y1, y2⟩ := hinv.fr; go_simp; exact hK undef _ True.intro hinv.s9 (fun d hd => by cases hd)
  refine .cons (fun l a W hfr hun hup hdn hinv hdep K hK => ?_) ?_
  · have t3 := tAt (.pointer (some ⟨w.heap.size + 1 + 1, 0, none⟩)) (hfr.at 3 (by kernel_rfl)); refine fW0 rfl ?_; clear hfr hdep hun hup hdn; go_simp; exact hK _ _ True.intro (hinv.other 10 (by decide) (by decide) (by decide)) (dsT (by trivial))
  refine .cons (fun l a W hfr hun hup hdn hinv hdep K hK => ?_) ?_
  · have t37 := tAt (.pointer (some ⟨w.heap.size + 1 + 1, 2, none⟩)) (hdep 37 (by kernel_rfl)); have t34 := tAt (.int .u64 p) (hdep 34 (by kernel_rfl)); refine fW0 rfl ?_; clear hfr hdep hun hup hdn; obtain ⟨⟨f0, f1, f2⟩, x0, x1, x2, y0, y1, y2⟩ := hinv.fr; go_simp; exact hK undef _ True.intro hinv.s11 (fun d hd => by cases hd)
  exact True.intro
 case fin =>
  intro a W l hfr hall hinv hsl
  have l7 : l 7 = true := hall 7 (by decide); have l9 : l 9 = true := hall 9 (by decide); have l11 : l 11 = true := hall 11 (by decide); have e := Flow.frame hfr [29, 30, 31, 32, 33, 34, 35, 36, 37] (List.range 39) (by kernel_rfl) (by kernel_rfl)
  simp [List.range, List.range.loop] at e
  rw [e]
  unfold In10 at hinv
  simp only [l7, l9, l11, cond_true] at hinv
  clear HN; have HN := Lib.hid hinv; clear e hfr hsl hall hinv l7 l9 l11
  first
  | (rename_i hB; refine hB _ _ ?_)
  | (rename_i hB y0; refine hB _ _ ?_)
  | (rename_i hB y0 y1; refine hB _ _ ?_)
  | (rename_i hB y0 y1 y2; refine hB _ _ ?_)
  | (rename_i hB y0 y1 y2 y3; refine hB _ _ ?_)
  | (rename_i hB y0 y1 y2 y3 y4; refine hB _ _ ?_)
  | (rename_i hB y0 y1 y2 y3 y4 y5; refine hB _ _ ?_)
  | (rename_i hB y0 y1 y2 y3 y4 y5 y6; refine hB _ _ ?_)
  | (rename_i hB y0 y1 y2 y3 y4 y5 y6 y7; refine hB _ _ ?_)
  | (rename_i hB y0 y1 y2 y3 y4 y5 y6 y7 y8; refine hB _ _ ?_)
  | (rename_i hB y0 y1 y2 y3 y4 y5 y6 y7 y8 y9; refine hB _ _ ?_)
  | (rename_i hB y0 y1 y2 y3 y4 y5 y6 y7 y8 y9 y10; refine hB _ _ ?_)
  | (rename_i hB y0 y1 y2 y3 y4 y5 y6 y7 y8 y9 y10 y11; refine hB _ _ ?_)
  | (rename_i hB y0 y1 y2 y3 y4 y5 y6 y7 y8 y9 y10 y11 y12; refine hB _ _ ?_)
  | (rename_i hB y0 y1 y2 y3 y4 y5 y6 y7 y8 y9 y10 y11 y12 y13; refine hB _ _ ?_)
  | (rename_i hB y0 y1 y2 y3 y4 y5 y6 y7 y8 y9 y10 y11 y12 y13 y14; refine hB _ _ ?_)
  obtain ⟨c0, c1, c2, c3, c4, c5, c6, c7⟩ := HN.out.e.c8; have hz := HN.out.z.c8; obtain ⟨d0, d1, d2, d3, d4, d5, d6, d7⟩ := hz; obtain ⟨q0, q1, q2, q3, q4, q5, q6, q7⟩ := HN.out.z.f8; go_wp2_with fail; exact bodyPost_ret (results_rec rfl _ _ (w.heap.size + 1) #[.int .i64 4, .int .u64 t, .int .u64 p, .int .u64 0, .int .i64 0, .int .i64 0, .slice none 0 0, .slice none 0 0] rfl rfl ((((((((HN.out.z.set 0 _).set 1 _).set 2 _).set 3 _).set 4 _).set 5 _).set 6 _).set 7 _)) rfl ⟨rfl, below_set8 HN.out.gr (by omega)⟩
set_option maxRecDepth 100000 in
theorem named0 (k : Int) (t : Nat) (p : Nat) (x : Nat) (g : Int) (o : Int) (pb : Option Addr) (nb : Nat) (cb : Nat) (pa : Option Addr) (na : Nat) (ca : Nat) (w : World) (h1 : ¬ k = 1) (h2 : ¬ k = 2) (h3 : ¬ k = 3) (h4 : ¬ k = 4) : Calls Tryz.prog 106 #[.agg #[.int .i64 k, .int .u64 t, .int .u64 p, .int .u64 x, .int .i64 g, .int .i64 o, .slice pb nb cb, .slice pa na ca]] w (RetV (.agg #[.int .i64 0, .int .u64 0, .int .u64 0, .int .u64 0, .int .i64 0, .int .i64 0, .slice none 0 0, .slice none 0 0]) w) := by
 have HN := Lib.hid (NamAt.new w #[.int .i64 k, .int .u64 t, .int .u64 p, .int .u64 x, .int .i64 g, .int .i64 o, .slice pb nb cb, .slice pa na ca])
 go_enter Tryz.func106, Tryz.ntmps106
 go_upto_region 2 with fail
 generalize (((w.alloc (.cells #[.int .i64 k, .int .u64 t, .int .u64 p, .int .u64 x, .int .i64 g, .int .i64 o, .slice pb nb cb, .slice pa na ca] TR)).alloc (.cells #[.int .i64 0, .int .u64 0, .int .u64 0, .int .u64 0, .int .i64 0, .int .i64 0, .slice none 0 0, .slice none 0 0] TR)).alloc (.cells #[.int .i64 0, .int .u64 0, .int .u64 0, .int .u64 0, .int .i64 0, .int .i64 0, .slice none 0 0, .slice none 0 0] TR)) = W1 at HN ⊢
 obtain ⟨c0, c1, c2, c3, c4, c5, c6, c7⟩ := HN.out.c.c8; obtain ⟨e0, e1, e2, e3, e4, e5, e6, e7⟩ := HN.out.e.c8; obtain ⟨d0, d1, d2, d3, d4, d5, d6, d7⟩ := HN.out.z.c8; obtain ⟨q0, q1, q2, q3, q4, q5, q6, q7⟩ := HN.out.z.f8; go_wp2_with fail; exact bodyPost_ret (results_rec rfl _ _ (w.heap.size + 1) #[.int .i64 0, .int .u64 0, .int .u64 0, .int .u64 0, .int .i64 0, .int .i64 0, .slice none 0 0, .slice none 0 0] rfl rfl ((((((((HN.out.z.set 0 _).set 1 _).set 2 _).set 3 _).set 4 _).set 5 _).set 6 _).set 7 _)) rfl ⟨rfl, below_set8 HN.out.gr (by omega)⟩
end Go.Proofs.YtlijbgapkmfnaaaGreat
namespace Go.Proofs.YtlijbgapkmfnaaaGreat
open Go.RowKit Cr
theorem strEq {xs ys : List Int} (h : Wd.Small xs) (k : Wd.Small ys) : ((strOfNums xs).toList == (strOfNums ys).toList) = decide (xs = ys) := by
 rw [Bool.eq_iff_iff, beq_iff_eq, decide_eq_true_eq]; exact strOfNums_inj h k
set_option maxRecDepth 100000 in
set_option maxHeartbeats 4000000 in
theorem sameRec_any (c d : Rc) (pb : Option Addr) (nb cb : Nat) (pa : Option Addr) (na ca : Nat) (pb' : Option Addr) (nb' cb' : Nat) (pa' : Option Addr) (na' ca' : Nat) (w : World) (hb : Byt w pb nb cb c.b) (ha : Byt w pa na ca c.a) (hb' : Byt w pb' nb' cb' d.b) (ha' : Byt w pa' na' ca' d.a) :
  Calls Tryz.prog 105 #[.agg #[.int .i64 c.k, .int .u64 c.t, .int .u64 c.p, .int .u64 c.x, .int .i64 c.g, .int .i64 c.o, .slice pb nb cb, .slice pa na ca], .agg #[.int .i64 d.k, .int .u64 d.t, .int .u64 d.p, .int .u64 d.x, .int .i64 d.g, .int .i64 d.o, .slice pb' nb' cb', .slice pa' na' ca']] w (RetB (sameR c d) w) := by
 obtain ⟨k, t, p, x, g, o, b, a⟩ := c; obtain ⟨k', t', p', x', g', o', b', a'⟩ := d
 simp only at hb ha hb' ha'
 simp only
 have HG := Lib.hid (((Gr.refl w).alloc (Nat.le_refl _) (.cells #[.int .i64 k, .int .u64 t, .int .u64 p, .int .u64 x, .int .i64 g, .int .i64 o, .slice pb nb cb, .slice pa na ca] TR)).alloc (by simp) (.cells #[.int .i64 k', .int .u64 t', .int .u64 p', .int .u64 x', .int .i64 g', .int .i64 o', .slice pb' nb' cb', .slice pa' na' ca'] TR)); have HB := Lib.hid (hb.kept HG.out); have HA := Lib.hid (ha.kept HG.out); have HB2 := Lib.hid (hb'.kept HG.out); have HA2 := Lib.hid (ha'.kept HG.out); clear hb ha hb' ha'
 by_cases ek : k = k'
 ·
  subst ek
  by_cases et : t = t'
  ·
   subst et
   by_cases ep : p = p'
   ·
    subst ep
    by_cases ex : x = x'
    ·
     subst ex
     by_cases eg : g = g'
     ·
      subst eg
      by_cases eo : o = o'
      ·
       subst eo; have HR : Hid (sameR ⟨k, t, p, x, g, o, b, a⟩ ⟨k, t, p, x, g, o, b', a'⟩ = (decide (b = b') && decide (a = a'))) := Lib.hid (by simp [sameR])
       cases eb : decide (b = b')
       ·
        rw [eb] at HR
        have EB := Lib.hid eb; clear eb
        go_enter Tryz.func105, Tryz.ntmps105
        go_wp2_with fail; refine (wireSame_any _ _ _ _ _ _ _ _ _ HB.out HB2.out).mono ?_; rintro e w1 ⟨rfl, rfl⟩; rw [EB.out]; go_wp2_with fail
        go_ret
        exact ⟨ret_b (by rw [HR.out]; rfl), HG.out⟩
       ·
        rw [eb] at HR
        have EB := Lib.hid eb; clear eb
        go_enter Tryz.func105, Tryz.ntmps105
        go_wp2_with fail; refine (wireSame_any _ _ _ _ _ _ _ _ _ HB.out HB2.out).mono ?_; rintro e w1 ⟨rfl, rfl⟩; rw [EB.out]; go_wp2_with fail; refine (wireSame_any _ _ _ _ _ _ _ _ _ HA.out HA2.out).mono ?_; rintro e w1 ⟨rfl, rfl⟩; go_wp2_with fail
        go_ret
        exact ⟨ret_b (by rw [HR.out]; rfl), HG.out⟩
      ·
       have HR : Hid (sameR ⟨k, t, p, x, g, o, b, a⟩ ⟨k, t, p, x, g, o', b', a'⟩ = false) := Lib.hid (by simp [sameR, eo])
       go_enter Tryz.func105, Tryz.ntmps105
       go_wp2_with fail
       go_ret
       exact ⟨ret_b HR.out.symm, HG.out⟩
     ·
      have HR : Hid (sameR ⟨k, t, p, x, g, o, b, a⟩ ⟨k, t, p, x, g', o', b', a'⟩ = false) := Lib.hid (by simp [sameR, eg])
      go_enter Tryz.func105, Tryz.ntmps105
      go_wp2_with fail
      go_ret
      exact ⟨ret_b HR.out.symm, HG.out⟩
    ·
     have HR : Hid (sameR ⟨k, t, p, x, g, o, b, a⟩ ⟨k, t, p, x', g', o', b', a'⟩ = false) := Lib.hid (by simp [sameR, ex])
     have ex2 : ¬ (x : Int) = x' := by omega
     go_enter Tryz.func105, Tryz.ntmps105
     go_wp2_with fail
     go_ret
     exact ⟨ret_b HR.out.symm, HG.out⟩
   ·
    have HR : Hid (sameR ⟨k, t, p, x, g, o, b, a⟩ ⟨k, t, p', x', g', o', b', a'⟩ = false) := Lib.hid (by simp [sameR, ep])
    have ep2 : ¬ (p : Int) = p' := by omega
    go_enter Tryz.func105, Tryz.ntmps105
    go_wp2_with fail
    go_ret
    exact ⟨ret_b HR.out.symm, HG.out⟩
  ·
   have HR : Hid (sameR ⟨k, t, p, x, g, o, b, a⟩ ⟨k, t', p', x', g', o', b', a'⟩ = false) := Lib.hid (by simp [sameR, et])
   have et2 : ¬ (t : Int) = t' := by omega
   go_enter Tryz.func105, Tryz.ntmps105
   go_wp2_with fail
   go_ret
   exact ⟨ret_b HR.out.symm, HG.out⟩
 ·
  have HR : Hid (sameR ⟨k, t, p, x, g, o, b, a⟩ ⟨k', t', p', x', g', o', b', a'⟩ = false) := Lib.hid (by simp [sameR, ek])
  go_enter Tryz.func105, Tryz.ntmps105
  go_wp2_with fail
  go_ret
  exact ⟨ret_b HR.out.symm, HG.out⟩
set_option maxRecDepth 100000 in
set_option maxHeartbeats 4000000 in
theorem refSameRec_any (c d : Rc) (pb : Option Addr) (nb cb : Nat) (pa : Option Addr) (na ca : Nat) (pb' : Option Addr) (nb' cb' : Nat) (pa' : Option Addr) (na' ca' : Nat) (w : World) (hb : Byt w pb nb cb c.b) (ha : Byt w pa na ca c.a) (hb' : Byt w pb' nb' cb' d.b) (ha' : Byt w pa' na' ca' d.a) :
  Calls Tryz.prog 27 #[.agg #[.int .i64 c.k, .int .u64 c.t, .int .u64 c.p, .int .u64 c.x, .int .i64 c.g, .int .i64 c.o, .slice pb nb cb, .slice pa na ca], .agg #[.int .i64 d.k, .int .u64 d.t, .int .u64 d.p, .int .u64 d.x, .int .i64 d.g, .int .i64 d.o, .slice pb' nb' cb', .slice pa' na' ca']] w (RetB (sameR c d) w) := by
 obtain ⟨k, t, p, x, g, o, b, a⟩ := c; obtain ⟨k', t', p', x', g', o', b', a'⟩ := d
 simp only at hb ha hb' ha'
 simp only
 have HG := Lib.hid (((Gr.refl w).alloc (Nat.le_refl _) (.cells #[.int .i64 k, .int .u64 t, .int .u64 p, .int .u64 x, .int .i64 g, .int .i64 o, .slice pb nb cb, .slice pa na ca] TR)).alloc (by simp) (.cells #[.int .i64 k', .int .u64 t', .int .u64 p', .int .u64 x', .int .i64 g', .int .i64 o', .slice pb' nb' cb', .slice pa' na' ca'] TR)); have HB := Lib.hid (hb.kept HG.out); have HA := Lib.hid (ha.kept HG.out); have HB2 := Lib.hid (hb'.kept HG.out); have HA2 := Lib.hid (ha'.kept HG.out); clear hb ha hb' ha'
 by_cases ek : k = k'
 ·
  subst ek
  by_cases et : t = t'
  ·
   subst et
   by_cases ep : p = p'
   ·
    subst ep
    by_cases ex : x = x'
    ·
     subst ex
     by_cases eg : g = g'
     ·
      subst eg
      by_cases eo : o = o'
      ·
       subst eo; have HR : Hid (sameR ⟨k, t, p, x, g, o, b, a⟩ ⟨k, t, p, x, g, o, b', a'⟩ = (decide (b = b') && decide (a = a'))) := Lib.hid (by simp [sameR]); have u1 := HB.out.lies.convert HB.out.len cb 31 5 9 Tryz.underlying31 Tryz.underlying5 Tryz.underlying9; have u2 := HB2.out.lies.convert HB2.out.len cb' 31 5 9 Tryz.underlying31 Tryz.underlying5 Tryz.underlying9; have u3 := HA.out.lies.convert HA.out.len ca 31 5 9 Tryz.underlying31 Tryz.underlying5 Tryz.underlying9; have u4 := HA2.out.lies.convert HA2.out.len ca' 31 5 9 Tryz.underlying31 Tryz.underlying5 Tryz.underlying9; have q1 := strEq HB.out.small HB2.out.small; have q2 := strEq HA.out.small HA2.out.small; obtain ⟨r1, hr1⟩ : ∃ r, r = strOfNums b := ⟨_, rfl⟩
       rw [← hr1] at u1 q1
       obtain ⟨r2, hr2⟩ : ∃ r, r = strOfNums b' := ⟨_, rfl⟩
       rw [← hr2] at u2 q1
       obtain ⟨r3, hr3⟩ : ∃ r, r = strOfNums a := ⟨_, rfl⟩
       rw [← hr3] at u3 q2
       obtain ⟨r4, hr4⟩ : ∃ r, r = strOfNums a' := ⟨_, rfl⟩
       rw [← hr4] at u4 q2
       clear hr1 hr2 hr3 hr4
       cases eb : decide (b = b')
       ·
        rw [eb] at HR q1
        have EB := Lib.hid eb; clear eb
        go_enter Tryz.func27, Tryz.ntmps27
        go_wp2_with fail
        go_ret
        exact ⟨ret_b (by rw [HR.out]; rfl), HG.out⟩
       ·
        rw [eb] at HR q1
        have EB := Lib.hid eb; clear eb
        go_enter Tryz.func27, Tryz.ntmps27
        go_wp2_with fail
        go_ret
        exact ⟨ret_b (by rw [HR.out]; rfl), HG.out⟩
      ·
       have HR : Hid (sameR ⟨k, t, p, x, g, o, b, a⟩ ⟨k, t, p, x, g, o', b', a'⟩ = false) := Lib.hid (by simp [sameR, eo])
       go_enter Tryz.func27, Tryz.ntmps27
       go_wp2_with fail
       go_ret
       exact ⟨ret_b HR.out.symm, HG.out⟩
     ·
      have HR : Hid (sameR ⟨k, t, p, x, g, o, b, a⟩ ⟨k, t, p, x, g', o', b', a'⟩ = false) := Lib.hid (by simp [sameR, eg])
      go_enter Tryz.func27, Tryz.ntmps27
      go_wp2_with fail
      go_ret
      exact ⟨ret_b HR.out.symm, HG.out⟩
    ·
     have HR : Hid (sameR ⟨k, t, p, x, g, o, b, a⟩ ⟨k, t, p, x', g', o', b', a'⟩ = false) := Lib.hid (by simp [sameR, ex])
     have ex2 : ¬ (x : Int) = x' := by omega
     go_enter Tryz.func27, Tryz.ntmps27
     go_wp2_with fail
     go_ret
     exact ⟨ret_b HR.out.symm, HG.out⟩
   ·
    have HR : Hid (sameR ⟨k, t, p, x, g, o, b, a⟩ ⟨k, t, p', x', g', o', b', a'⟩ = false) := Lib.hid (by simp [sameR, ep])
    have ep2 : ¬ (p : Int) = p' := by omega
    go_enter Tryz.func27, Tryz.ntmps27
    go_wp2_with fail
    go_ret
    exact ⟨ret_b HR.out.symm, HG.out⟩
  ·
   have HR : Hid (sameR ⟨k, t, p, x, g, o, b, a⟩ ⟨k, t', p', x', g', o', b', a'⟩ = false) := Lib.hid (by simp [sameR, et])
   have et2 : ¬ (t : Int) = t' := by omega
   go_enter Tryz.func27, Tryz.ntmps27
   go_wp2_with fail
   go_ret
   exact ⟨ret_b HR.out.symm, HG.out⟩
 ·
  have HR : Hid (sameR ⟨k, t, p, x, g, o, b, a⟩ ⟨k', t', p', x', g', o', b', a'⟩ = false) := Lib.hid (by simp [sameR, ek])
  go_enter Tryz.func27, Tryz.ntmps27
  go_wp2_with fail
  go_ret
  exact ⟨ret_b HR.out.symm, HG.out⟩
end Go.Proofs.YtlijbgapkmfnaaaGreat
