/-
  Part 4 of what the laws of stage 6 rest on: contracts of the functions that they call, and what these rest on.
-/
import Derived.Deep.QuietTactic
import Derived.BigQuiet
import Derived.Laws.CopyOwn
import Derived.Test.YtbpgonmoepnnpaaGreatProg
import Derived.Deep.RegionLaw
import Derived.Deep.DeepMust
import Derived.Test.YtbpgonmoepnnpaaGreatU1
import Derived.Test.YtbpgonmoepnnpaaGreatU3
set_option linter.unusedVariables false
set_option linter.unusedSimpArgs false
namespace Go.Proofs.YtbpgonmoepnnpaaGreat
namespace Flow
open Go
section
variable {P : Program} {ops : Array Oper} {Q : Exit → Act → World → Prop} {md : Region.Mode}
structure SameZ (ops : Array Oper) (z : Nat) (a0 a : Act) : Prop where
 defers : a.defers = a0.defers
 size : a.tmps.size = a0.tmps.size
 old : ∀ d, (∀ (i : Nat) (o : Oper), ops[i]? = some o → i ≠ z → o.dst ≠ some d) → a.tmps.getD d undef = a0.tmps.getD d undef
theorem SameZ.at {z : Nat} {a0 a : Act} (h : SameZ ops z a0 a) (d : Nat) (hd : ((List.range ops.size).all fun i => i == z || match ops[i]? with
  | some o => o.dst != some d
  | none => true) = true) {v : Value} (hv : a0.tmps.getD d undef = v := by rfl) : a.tmps.getD d undef = v := by
 rw [h.old d fun i o ho hz => by
  have := List.all_eq_true.1 hd i (List.mem_range.2 (Array.getElem?_eq_some_iff.1 ho).1)
  rw [ho] at this
  simpa [hz] using this]
 exact hv
def StepU (P : Program) (md : Region.Mode) (ops : Array Oper) (Q : Exit → Act → World → Prop) (Sl : Nat → Value → World → Prop) (I J E : World → Prop) (early here : Bool) (G : World → World → Prop) (a0 : Act) (z : Nat) (o : Oper) : Prop :=
 ∀ a w, SameZ ops z a0 a → I w → cond early (E w) True → (∀ d, (reads md ops o).contains d = true → Sl d (a.tmps.getD d undef) w) →
  ∀ K : Act → World → Prop, (∀ v w', G w w' → J w' → cond here True (E w → E w') → (∀ d, o.dst = some d → Sl d v w') → K (a.put o.dst v) w') →
   if Region.wanted o (yielded ops a.tmps) = true then o.wp P a w K Q else K (a.put o.dst undef) w
def StepsU (P : Program) (md : Region.Mode) (ops : Array Oper) (Q : Exit → Act → World → Prop) (Sl : Nat → Value → World → Prop) (Inv Fin Ear : World → Prop) (G : Nat → World → World → Prop) (a0 : Act) (z y fl : Nat) : Nat → List Oper → Prop
 | _, [] => True
 | i, o :: r => StepU P md ops Q Sl Inv (cond (i == z) Fin Inv) Ear (waits md ops i fl y) (i == y || i == z) (G i) a0 z o ∧ StepsU P md ops Q Sl Inv Fin Ear G a0 z y fl (i + 1) r
theorem StepsU.cons {Sl : Nat → Value → World → Prop} {Inv Fin Ear : World → Prop} {G : Nat → World → World → Prop} {a0 : Act} {z y fl i : Nat} {o : Oper} {r : List Oper} (h : StepU P md ops Q Sl Inv (cond (i == z) Fin Inv) Ear (waits md ops i fl y) (i == y || i == z) (G i) a0 z o) (k : StepsU P md ops Q Sl Inv Fin Ear G a0 z y fl (i + 1) r) : StepsU P md ops Q Sl Inv Fin Ear G a0 z y fl i (o :: r) := ⟨h, k⟩
theorem StepsU.at {Sl : Nat → Value → World → Prop} {Inv Fin Ear : World → Prop} {G : Nat → World → World → Prop} {a0 : Act} {z y fl : Nat} : ∀ {l : List Oper} {i : Nat}, StepsU P md ops Q Sl Inv Fin Ear G a0 z y fl i l → ∀ (j : Nat) (o : Oper), l[j]? = some o → StepU P md ops Q Sl Inv (cond (i + j == z) Fin Inv) Ear (waits md ops (i + j) fl y) (i + j == y || i + j == z) (G (i + j)) a0 z o
 | [], _, _, _, _, h => by simp at h
 | x :: r, i, h, 0, o, ho => by
  simp only [List.getElem?_cons_zero, Option.some.injEq] at ho
  subst ho; exact h.1
 | x :: r, i, h, j + 1, o, ho => by
  simp only [List.getElem?_cons_succ] at ho
  have := StepsU.at h.2 j o ho
  rwa [show i + 1 + j = i + (j + 1) by omega] at this
variable {Sl : Nat → Value → World → Prop} {Inv Fin Ear : World → Prop} {G : Nat → World → World → Prop} {a0 : Act}
theorem walkU (z y : Nat) (oz : Oper) (hoz : ops[z]? = some oz) (keep : List Nat) (fl : Nat) (hall : ∀ j, j < ops.size → waits md ops j fl z = true) (hmono : ∀ i d v w w', bears2 md ops keep fl i d = true → Sl d v w → G i w w' → Sl d v w') (hf : fine a0.tmps.size ops = true) (hs : ∀ (i : Nat) (o : Oper), ops[i]? = some o → StepU P md ops Q Sl Inv (cond (i == z) Fin Inv) Ear (waits md ops i fl y) (i == y || i == z) (G i) a0 z o)
  (hfin : ∀ a w, Same ops a0 a → Fin w → (∀ (i : Nat) (o : Oper) d, ops[i]? = some o → o.dst = some d → d ∈ keep → Sl d (a.tmps.getD d undef) w) → Q .normal a w) :
  ∀ (fuel : Nat) (listed : Array Bool) (a : Act) (w : World), left listed ops.size ≤ fuel → listed.size = ops.size → Closed md ops listed → Same ops a0 a → (listed.getD z true = false → SameZ ops z a0 a) → (listed.getD z true = false → Inv w) → (listed.getD z true = true → Fin w) → (listed.getD y true = false → Ear w) →
   (∀ (i : Nat) (o : Oper) d, ops[i]? = some o → listed.getD i true = true → o.dst = some d → (d ∈ keep ∨ ∃ (j : Nat) (oj : Oper), ops[j]? = some oj ∧ listed.getD j true = false ∧ d ∈ reads md ops oj) → Sl d (a.tmps.getD d undef) w) → wpAny P md ops Q fuel listed a w := by
 have hzb : z < ops.size := (Array.getElem?_eq_some_iff.1 hoz).1
 have ends : ∀ (listed : Array Bool) (a : Act) (w : World), (∀ i, i < ops.size → listed.getD i true = true) → Same ops a0 a → (listed.getD z true = true → Fin w) →
   (∀ (i : Nat) (o : Oper) d, ops[i]? = some o → listed.getD i true = true → o.dst = some d → (d ∈ keep ∨ ∃ (j : Nat) (oj : Oper), ops[j]? = some oj ∧ listed.getD j true = false ∧ d ∈ reads md ops oj) → Sl d (a.tmps.getD d undef) w) → Q .normal a w := fun listed a w hl hsame hinv hsl =>
  hfin a w hsame (hinv (hl z hzb)) fun i o d ho hd hk => hsl i o d ho (hl i (Array.getElem?_eq_some_iff.1 ho).1) hd (.inl hk)
 have alls : ∀ listed : Array Bool, listed.size = ops.size → Region.ready md ops listed = [] → ∀ i, i < ops.size → listed.getD i true = true := by
  intro listed hsz hr i
  induction i using Nat.strongRecOn with
  | _ i ih =>
   intro hi
   cases hg : listed.getD i true with
   | true => rfl
   | false =>
    exfalso
    have : i ∈ Region.ready md ops listed := mem_ready.2 ⟨hg, ops[i], Array.getElem?_eq_getElem hi, fun e he _ => by
     have hlt := fine_down hf (Array.getElem?_eq_getElem hi) e he; have h1 := ih e.on hlt (by omega)
     have h2 : e.on < listed.size := by omega
     simp only [Array.getD_eq_getD_getElem?, Array.getElem?_eq_getElem h2, Option.getD_some] at h1 ⊢
     exact h1⟩
    rw [hr] at this
    cases this
 intro fuel
 induction fuel with
 | zero =>
  intro listed a w hl hsz hcl hsame hsam2 hinv hfz hear hsl
  have hall2 := left_zero (listed := listed) (n := ops.size) (by omega); refine ⟨?_, ends listed a w hall2 hsame hfz hsl⟩
  cases hr : Region.ready md ops listed with
  | nil => rfl
  | cons j r =>
   have hj : j ∈ Region.ready md ops listed := by rw [hr]; exact List.mem_cons_self ..
   obtain ⟨hun, o, ho, _⟩ := mem_ready.1 hj
   rw [hall2 j (Array.getElem?_eq_some_iff.1 ho).1] at hun
   cases hun
 | succ fuel ih =>
  intro listed a w hl hsz hcl hsame hsam2 hinv hfz hear hsl
  refine ⟨fun hr => ends listed a w (alls listed hsz hr) hsame hfz hsl, fun i hi => ?_⟩; obtain ⟨hun, o, ho, hdep⟩ := mem_ready.1 hi; have hib : i < ops.size := (Array.getElem?_eq_some_iff.1 ho).1
  have flip : ∀ j, j < ops.size → listed.getD j false = true → listed.getD j true = true := fun j hj h => by
   have h2 : j < listed.size := by omega
   simp only [Array.getD_eq_getD_getElem?, Array.getElem?_eq_getElem h2, Option.getD_some] at h ⊢
   exact h
  have anc : ∀ j, waits md ops j fl i = true → j ≠ i → listed.getD j true = true := fun j hw hne => by
   cases fl with
   | zero => exact absurd (by simpa [waits] using hw) hne
   | succ f =>
    simp only [waits, Bool.or_eq_true] at hw
    rcases hw with hw | hw
    · exact absurd (by simpa using hw) hne
    ·
     rw [ho] at hw
     obtain ⟨k, hk, h2⟩ := Array.any_eq_true.1 hw
     simp only [Bool.and_eq_true] at h2
     have hmem := Array.getElem_mem hk; have hei := fine_down hf ho _ hmem; exact waits_listed hcl f _ h2.2 (flip _ (by omega) (hdep _ hmem h2.1))
  have hzn : listed.getD z true = false := by
   cases hzl : listed.getD z true with
   | false => rfl
   | true => rw [waits_listed hcl fl z (hall i hib) hzl] at hun; cases hun
  have hyn : cond (waits md ops i fl y) (Ear w) True := by
   cases hw : waits md ops i fl y with
   | false => exact True.intro
   | true =>
    refine hear ?_
    cases hyl : listed.getD y true with
    | false => rfl
    | true => rw [waits_listed hcl fl y hw hyl] at hun; cases hun
  refine wpOp_step ho fun K hK => hs i o ho a w (hsam2 hzn) (hinv hzn) hyn ?_ K ?_
  ·
   intro d hd
   have hd' : d ∈ reads md ops o := by simpa using hd
   obtain ⟨e, he, hed⟩ := List.mem_filterMap.1 hd'; obtain ⟨he1, he3⟩ := List.mem_filter.1 he
   have he2 : Region.binds md e = true := by simp only [Bool.and_eq_true] at he3; exact he3.1
   cases hoe : ops[e.on]? with
   | none => rw [hoe] at hed; cases hed
   | some oe =>
    rw [hoe] at hed
    have hl1 := hdep e (by simpa using he1) he2; exact hsl e.on oe d hoe (flip _ (Array.getElem?_eq_some_iff.1 hoe).1 hl1) hed (.inr ⟨i, o, ho, hun, hd'⟩)
  ·
   intro v w' hg hinv' hear' hv
   have hset : ∀ j, listed.getD j true = true → (listed.setIfInBounds i true).getD j true = true := fun j h => by
    by_cases hji : i = j
    ·
     subst hji
     have : i < listed.size := by omega
     simp [this]
    · rw [getD_set_ne true hji]; exact h
   refine hK _ _ (ih (listed.setIfInBounds i true) (a.put o.dst v) w' ?_ (by simpa using hsz) ?_ ⟨(put_defers ..).trans hsame.defers, (put_size ..).trans hsame.size, fun d hd => ?_⟩ ?_ ?_ ?_ ?_ ?_)
   · have := left_less hun hib; omega
   ·
    intro j oj hoj hlj e he hb
    by_cases hji : i = j
    ·
     subst hji
     rw [ho] at hoj
     cases hoj
     have hei : e.on < ops.size := by have := fine_down hf ho e he; omega
     exact hset _ (flip _ hei (hdep e he hb))
    ·
     rw [getD_set_ne true hji] at hlj
     exact hset _ (hcl j oj hoj hlj e he hb)
   · rw [getD_put_other (hd i o ho)]; exact hsame.old d hd
   ·
    intro h
    have hiz : i ≠ z := by
     rintro rfl
     have : i < listed.size := by omega
     simp [this] at h
    exact ⟨(put_defers ..).trans hsame.defers, (put_size ..).trans hsame.size, fun d hd => by rw [getD_put_other (hd i o ho hiz)]; exact (hsam2 hzn).old d hd⟩
   ·
    intro h
    by_cases hiz : i = z
    ·
     subst hiz
     have : i < listed.size := by omega
     simp [this] at h
    ·
     have e : (i == z) = false := by simpa using hiz
     rw [e] at hinv'
     exact hinv'
   ·
    intro h
    by_cases hiz : i = z
    ·
     have e : (i == z) = true := by simpa using hiz
     rw [e] at hinv'
     exact hinv'
    ·
     rw [getD_set_ne true hiz, hzn] at h
     cases h
   ·
    intro h
    by_cases hiy : i = y
    ·
     subst hiy
     have : i < listed.size := by omega
     simp [this] at h
    ·
     rw [getD_set_ne true hiy] at h
     by_cases hiz : i = z
     ·
      subst hiz
      have hyb : y < ops.size := by
       rcases Nat.lt_or_ge y ops.size with h' | h'
       · exact h'
       · simp [Array.getElem?_eq_none (show listed.size ≤ y by omega)] at h
      have := anc y (hall y hyb) (fun e => hiy e.symm)
      rw [this] at h
      cases h
     ·
      have e : (i == y || i == z) = false := by simp [hiy, hiz]
      rw [e] at hear'
      exact hear' (hear h)
   ·
    intro j oj d hoj hlj hdj hlive
    by_cases hji : j = i
    ·
     subst hji
     rw [ho] at hoj
     cases hoj
     have hds := (fine_slot hf ho hdj).1; rw [hdj, getD_put_same (by rw [hsame.size]; exact hds)]; exact hv d hdj
    ·
     rw [getD_put_other (fun e => hji (fine_one hf hoj ho hdj e))]
     rw [getD_set_ne true (Ne.symm hji)] at hlj
     have hjb : j < ops.size := (Array.getElem?_eq_some_iff.1 hoj).1; refine hmono i d _ _ _ ?_ (hsl j oj d hoj hlj hdj ?_) hg
     ·
      unfold bears2
      rw [Bool.and_eq_true]
      constructor
      ·
       refine List.any_eq_true.2 ⟨j, List.mem_range.2 hjb, ?_⟩; rw [hoj]
       have hnw : waits md ops i fl j = false := by
        cases hw : waits md ops i fl j with
        | false => rfl
        | true => rw [waits_listed hcl fl j hw hlj] at hun; cases hun
       simp [hdj, hnw]
      ·
       rw [Bool.or_eq_true]
       rcases hlive with hk | ⟨j', oj', hoj', hl', hn'⟩
       · exact .inl (by simpa using hk)
       ·
        right
        have hne : j' ≠ i := by
         rintro rfl
         have : j' < listed.size := by omega
         simp [this] at hl'
        have hnw2 : waits md ops j' fl i = false := by
         cases hw : waits md ops j' fl i with
         | false => rfl
         | true =>
          exfalso
          have hl3 := anc j' hw hne
          have hlj : listed.getD j' true = false := by
           cases hlj' : listed.getD j' true with
           | false => rfl
           | true => rw [hset j' hlj'] at hl'; cases hl'
          rw [hl3] at hlj
          cases hlj
        refine List.any_eq_true.2 ⟨j', List.mem_range.2 (Array.getElem?_eq_some_iff.1 hoj').1, ?_⟩; rw [hoj']
        simp [hne, hn', hnw2]
     ·
      rcases hlive with hk | ⟨j', oj', hoj', hl', hn'⟩
      · exact .inl hk
      ·
       refine .inr ⟨j', oj', hoj', ?_, hn'⟩
       cases hlj' : listed.getD j' true with
       | false => rfl
       | true => rw [hset j' hlj'] at hl'; cases hl'
theorem regionU {id : Nat} {w : World} (z y : Nat) (hzz : (ops[z]?).isSome = true) (keep : List Nat) (fl : Nat) (Sl : Nat → Value → World → Prop) (Inv Fin Ear : World → Prop) (G : Nat → World → World → Prop) (hm : P.follows .mixedOrders = true) (hall : ((List.range ops.size).all fun j => waits .any ops j fl z) = true) (hf : fine a0.tmps.size ops = true)
  (hmono : ∀ i d v w w', bears2 .any ops keep fl i d = true → Sl d v w → G i w w' → Sl d v w') (h0 : Inv w.drew) (h1 : Ear w.drew) (hs : StepsU P .any ops Q Sl Inv Fin Ear G a0 z y fl 0 ops.toList)
  (hfin : ∀ a w, Same ops a0 a → Fin w → (∀ (i : Nat) (o : Oper) d, ops[i]? = some o → o.dst = some d → d ∈ keep → Sl d (a.tmps.getD d undef) w) → Q .normal a w) :
  (Code.region id ops true).wp P Q a0 w := by
 obtain ⟨oz, hoz⟩ := Option.isSome_iff_exists.1 hzz; refine wp_region_any hm ?_
 have hun : ∀ (i : Nat) (o : Oper), ops[i]? = some o → (Array.replicate ops.size false).getD i true = true → False := fun i o ho hl => by
  have hi : i < ops.size := (Array.getElem?_eq_some_iff.1 ho).1
  simp [hi] at hl
 refine walkU z y oz hoz keep fl (fun j hj => List.all_eq_true.1 hall j (List.mem_range.2 hj)) hmono hf (fun i o ho => ?_) hfin _ _ a0 w.drew ?_ (by simp) (fun j o ho hl => (hun j o ho hl).elim) ⟨rfl, rfl, fun _ _ => rfl⟩ (fun _ => ⟨rfl, rfl, fun _ _ => rfl⟩) (fun _ => h0) (fun h => (hun z oz hoz h).elim) (fun _ => h1) (fun i o d ho hl _ _ => (hun i o ho hl).elim)
 ·
  have := hs.at i o (by simpa using ho)
  rwa [Nat.zero_add] at this
 ·
  have : ∀ n, left (Array.replicate ops.size false) n ≤ n := by
   intro n
   induction n with
   | zero => exact Nat.le_refl _
   | succ n ih => simp only [left]; split <;> omega
  exact this _
end
end Flow
end Go.Proofs.YtbpgonmoepnnpaaGreat
namespace Go.Proofs.YtbpgonmoepnnpaaGreat
open Go.RowKit Go.Maps
theorem rank_succ (s : St) (i : Nat) : s.rank (i + 1) = s.rank i + (if s.t i = [] then 0 else 1) := by
 unfold St.rank
 rw [List.range_succ, List.filter_append, List.length_append]
 congr 1
 by_cases h : s.t i = []
 · rw [if_pos h]; simp [h]
 · rw [if_neg h]; simp [h]
theorem rank_le (s : St) (i : Nat) : s.rank i ≤ i := by
 unfold St.rank
 have := List.length_filter_le (fun j => !(s.t j).isEmpty) (List.range i)
 rwa [List.length_range] at this
def St.pickOf (s : St) (zs : List Int) (i : Nat) : Nat := if s.t i = [] then 0 else pickAt zs (s.rank i)
theorem chosen_at (s : St) (zs : List Int) (i : Nat) : s.chosen zs i = (s.at i).getD (s.pickOf zs i % ((s.t i).length + 1)) Sec.zero := by
 unfold St.chosen St.pickOf St.at
 by_cases h : s.t i = []
 · rw [if_pos h, h]; simp [Nat.mod_one]
 · rw [if_neg h]
def Su (n0 b gs N cs i gu cu m P Q : Nat) (x : Sec) (lv : Value) (ys : List Sec) (d : Nat) (v : Value) (w : World) : Prop :=
 match d with
 | 38 => v = lv
 | 39 | 40 | 41 | 47 | 48 | 49 => v = .pointer (some ⟨b, 0, none⟩)
 | 42 | 50 => v = .slice (some ⟨gs, 0, none⟩) N cs
 | 43 | 51 => v = .int .i64 (i : Int)
 | 44 | 52 => v = .pointer (some ⟨gs, i, none⟩)
 | 45 | 53 => v = .slice (some ⟨gu, 0, none⟩) m cu
 | 46 => v = .int .u64 (P : Int)
 | 54 => v = .int .i64 (m : Int)
 | 55 => v = .int .u64 (m : Int)
 | 56 => v = .int .u64 (Q : Int)
 | 57 => v = .pointer (some ⟨gu, Q * 256, none⟩)
 | 58 => v = .agg (sec x)
 | 59 => ∃ q, v = .slice (some ⟨q, 0, none⟩) 1 1 ∧ Row w (.slice (some ⟨q, 0, none⟩) 1 1) [x]
 | 60 => Row w v (ys ++ [x]) ∧ ∀ g, v.ownBlock = some g → n0 ≤ g
 | 5 => Row w v (ys ++ [x]) ∧ ∀ g, v.ownBlock = some g → n0 ≤ g
 | _ => True
def Gu (u : Value) (i : Nat) (w w' : World) : Prop := cond (i == 22) (w.grownBy w' u.ownBlock) (Gr w w')
theorem Su.kept {n0 b gs N cs i gu cu m P Q : Nat} {x : Sec} {lv : Value} {ys : List Sec} (d : Nat) (v : Value) (w w' : World) (h : Su n0 b gs N cs i gu cu m P Q x lv ys d v w) (g : Gr w w') : Su n0 b gs N cs i gu cu m P Q x lv ys d v w' := by
 unfold Su at h ⊢
 split <;> simp only at h
 all_goals first
  | exact h
  | exact ⟨Row.gr h.1 g, h.2⟩
  | exact (let ⟨q, h1, h2⟩ := h; ⟨q, h1, Row.gr h2 g⟩)
set_option maxRecDepth 100000 in
set_option maxHeartbeats 4000000 in
theorem refCrash_any {G : Nat → Prop} {r : Value} {s : St} (w : World) (h : Rf w G r s) (hls : ∀ i, (s.t i).length ≤ 1000000000) (q : Option Addr) (n c : Nat) (zs : List Int) (hz : Nums w q n c zs) : Calls Tryz.prog 39 #[r, .slice q n c] w fun e w' => NewRf w w' e (s.crash zs) := by
 obtain ⟨b, gs, cs, V, rfl, h⟩ := h; obtain ⟨N, hN⟩ : ∃ N, N = s.ls.length := ⟨_, rfl⟩
 have hN2 : N ≤ 65536 := by rw [hN]; exact h.most
 have HN := Lib.hid hN; have HD := Lib.hid h; have HZ := Lib.hid hz; have HT := Lib.hid hls; have hn := hz.most; have HR0 : Hid (Row w (.slice none 0 0) ((List.range 0).map (s.chosen zs))) := Lib.hid (Row.empty w); clear h hN hz hls
 go_enter Tryz.func39, Tryz.ntmps39
 go_wp2_with fail
 go_loopw [5, 6, 7] (fun l0 k0 i0 wr => ∃ (i : Nat) (lv : Value), i ≤ N ∧ k0 = .int .i64 (s.rank i : Nat) ∧ i0 = .int .i64 i ∧ lv = l0 ∧ Hid (Row wr lv ((List.range i).map (s.chosen zs))) ∧ Hid (∀ g, lv.ownBlock = some g → w.heap.size ≤ g) ∧ Hid (Gr w wr)) (fun _ _ i _ => N - (intOf i).toNat)
 case atStart => exact ⟨0, _, Nat.zero_le _, rfl, rfl, rfl, HR0, Lib.hid (fun g e => by cases e), Lib.hid (Gr.refl _)⟩
 case round =>
  obtain ⟨i, lv, hi, rfl, rfl, rfl, hrow, hfr, hg⟩ := hrel; have hc := (HD.out.gr hg.out).cells.1
  rw [← HN.out] at hc
  by_cases hlt : i < N
  ·
   have hi65 : (i : Int) < 65536 := by omega
   have hil : i < s.ls.length := by rw [← HN.out]; exact hlt
   have hoc := (HD.out.gr hg.out).outer.cell i hil; obtain ⟨gu, cu, hv, _, hc1, hc2⟩ := (HD.out.rows i hil).full (at_ne s i)
   rw [at_len] at hv hc1
   obtain ⟨m, hm⟩ : ∃ m, m = (s.t i).length + 1 := ⟨_, rfl⟩
   rw [← hm] at hv hc1
   have hm0 : 0 < m := by omega
   have hm9 : m ≤ 1000000001 := by rw [hm]; have := HT.out i; omega
   rw [hv] at hoc
   have hrow2 : Row w (.slice (some ⟨gu, 0, none⟩) m cu) (s.at i) := by rw [← hv]; exact HD.out.rows i hil
   obtain ⟨P, hP⟩ : ∃ P, P = s.pickOf zs i := ⟨_, rfl⟩; obtain ⟨Q, hQ⟩ : ∃ Q, Q = P % m := ⟨_, rfl⟩; obtain ⟨x, hx⟩ : ∃ x, x = s.chosen zs i := ⟨_, rfl⟩
   have hQm : Q < m := by rw [hQ]; exact Nat.mod_lt _ hm0
   have hQl : Q < (s.at i).length := by rw [at_len, ← hm]; exact hQm
   have hPlt : (P : Int) < 18446744073709551616 := by
    rw [hP]; unfold St.pickOf; split
    · omega
    · have := pickAt_lt zs (s.rank i); omega
   have hxq : (s.at i)[Q] = x := by
    rw [hx, chosen_at, ← hm, ← hP, ← hQ]
    simp [List.getD, hQl]
   have HL : Hid (∀ W, Gr wr W → W.rangeAt gu (Q * 256) x.cells) := Lib.hid fun W e => by rw [← hxq]; exact (hrow2.gr (Gr.trans hg.out e)).lies Q hQl
   have HA : Hid (∀ W, Gr wr W → W.cell? ⟨b, 0, none⟩ = some (.slice (some ⟨gs, 0, none⟩) N cs)) := Lib.hid fun W e => by rw [HN.out]; exact (HD.out.gr (Gr.trans hg.out e)).cells.1
   have HV : Hid (∀ W, Gr wr W → W.cell? ⟨gs, i, none⟩ = some (.slice (some ⟨gu, 0, none⟩) m cu)) := Lib.hid fun W e => by rw [← hv]; exact (HD.out.gr (Gr.trans hg.out e)).outer.cell i hil
   have HQ : Hid ((P : Int) % (m : Int) = (Q : Int)) := Lib.hid (by rw [hQ]; rfl); have HX := Lib.hid hx; have HRk := Lib.hid (rank_succ s i); have hrk1 := rank_le s i; obtain ⟨rk, hrk⟩ : ∃ rk, rk = s.rank i := ⟨_, rfl⟩
   rw [← hrk] at hrk1 HRk ⊢
   obtain ⟨rk1, hrk2⟩ : ∃ rk1, rk1 = s.rank (i + 1) := ⟨_, rfl⟩
   rw [← hrk2] at HRk
   have HRk1 := Lib.hid hrk2; have HPk : Hid (P = if s.t i = [] then 0 else pickAt zs rk) := Lib.hid (by rw [hP, hrk]; rfl); have HRow := hrow; have HF := hfr; have HG := hg
   have hm1 : s.t i = [] → m = 1 := fun e => by rw [hm, e]; rfl
   have hm2 : s.t i ≠ [] → 1 < m := fun e => by have := List.length_pos_iff.2 e; omega
   have HM1 := Lib.hid hm1; have HM2 := Lib.hid hm2; clear hrow hfr hg hc1 hc2 hv hrow2 hQl hxq hQ hx hP hrk hrk2 hil hm hm1 hm2
   go_upto_if 26 with fail
   go_cut [6, 8] (fun s6 s8 wc => s6 = .int .i64 (rk1 : Nat) ∧ s8 = .int .u64 (P : Int) ∧ wr = wc)
   case first =>
    by_cases ht : s.t i = []
    ·
     have e1 : decide ((1 : Int) < (m : Int)) = false := decide_eq_false (by have := HM1.out ht; omega); rw [e1]; have HP0 : Hid (P = 0) := Lib.hid (by rw [HPk.out, if_pos ht]); have HR1 : Hid (rk1 = rk) := Lib.hid (by rw [HRk.out, if_pos ht]; rfl); clear e1 ht
     go_wp2
     go_meet
     exact ⟨by rw [HR1.out], by rw [HP0.out]; rfl, rfl⟩
    ·
     have e1 : decide ((1 : Int) < (m : Int)) = true := decide_eq_true (by have := HM2.out ht; omega); rw [e1]; have HR1 : Hid (rk1 = rk + 1) := Lib.hid (by rw [HRk.out, if_neg ht]); have HP0 : Hid (P = pickAt zs rk) := Lib.hid (by rw [HPk.out, if_neg ht]); clear e1 ht
     go_upto_if 30 with fail
     by_cases hp : rk < n
     ·
      have hz2 := HZ.out.gr HG.out; obtain ⟨b3, o3, rfl, hc3⟩ := hz2.lies (by omega); have hcz := hc3 rk hp
      have hv2 : IntKind.u64.wrap (zs[rk]?.getD 0) = (P : Int) := by
       rw [HP0.out, u64_wrap_nat]
       unfold pickAt
       rw [if_pos (by have := hz2.len; omega)]
       rfl
      clear hc3 hz2; have e2 : decide ((rk : Int) < (n : Int)) = true := decide_eq_true (by omega); have e3 : decide (rk < n) = true := decide_eq_true hp
      first | rw [e2] | rw [e3]
      clear e2 e3
      go_wp2
      go_meet
      exact ⟨by rw [HR1.out]; go_num, rfl, rfl⟩
     ·
      have HP1 : Hid (P = 0) := Lib.hid (by
       rw [HP0.out]
       unfold pickAt
       rw [if_neg (by have := HZ.out.len; omega)])
      have e2 : decide ((rk : Int) < (n : Int)) = false := decide_eq_false (by omega); have e3 : decide (rk < n) = false := decide_eq_false hp
      first | rw [e2] | rw [e3]
      clear e2 e3 hp
      go_wp2
      go_meet
      exact ⟨by rw [HR1.out]; go_num, by rw [HP1.out]; rfl, rfl⟩
   case rest =>
    obtain ⟨rfl, rfl, rfl⟩ := hcut; clear hc hoc hrk1; obtain ⟨ys, hys⟩ : ∃ ys, ys = (List.range i).map (s.chosen zs) := ⟨_, rfl⟩
    rw [← hys] at HRow
    have HYs := Lib.hid hys; have HYl : Hid (ys.length + 1 ≤ 500000000000) := Lib.hid (by rw [hys]; simp; omega); clear hys; go_wp2_with fail; refine Flow.regionU 23 22 (by kernel_rfl) [5] 24 (Su w.heap.size b gs N cs i gu cu m P Q x lv ys) (fun W => wr.grownBy W lv.ownBlock) (fun W => wr.grownBy W lv.ownBlock) (Gr wr) (Gu lv) (by kernel_rfl) (by kernel_rfl) (by kernel_rfl) ?mono ⟨rfl, rfl, rfl, Nat.le_refl _, fun _ _ _ => rfl⟩ ⟨rfl, rfl, rfl, Nat.le_refl _, fun _ _ => rfl⟩ ?steps ?fin
    case mono =>
     intro i d v w w' hb hs hg
     by_cases h22 : i = 22
     ·
      subst h22; have := Flow.bears2_only [] (by kernel_rfl) hb
      cases this
     ·
      have e1 : (i == 22) = false := by simpa using h22
      unfold Gu at hg
      rw [e1] at hg
      exact Su.kept d v w w' hs hg
    case fin =>
     intro a W hfr hfin hsl
     have h5 : Row W (a.tmps.getD 5 undef) (ys ++ [x]) ∧ ∀ g, (a.tmps.getD 5 undef).ownBlock = some g → w.heap.size ≤ g := hsl 23 _ 5 rfl rfl (by simp); clear hsl; have e := Flow.frame hfr [5, 38, 39, 40, 41, 42, 43, 44, 45, 46, 47, 48, 49, 50, 51, 52, 53, 54, 55, 56, 57, 58, 59, 60] (List.range 63) (by kernel_rfl) (by kernel_rfl)
     have e5 : a.tmps[5]?.getD undef = a.tmps.getD 5 undef := by simp
     simp [List.range, List.range.loop] at e
     rw [e]; clear e hfr; rw [e5]; clear e5; obtain ⟨lv2, hl2⟩ : ∃ y, y = a.tmps.getD 5 undef := ⟨_, rfl⟩
     rw [← hl2] at h5 ⊢
     clear hl2
     have HR3 : Hid (Row W lv2 ((List.range (i + 1)).map (s.chosen zs))) := Lib.hid (by
      rw [List.range_succ, List.map_append, ← HYs.out]; have := h5.1
      rw [HX.out] at this
      exact this)
     have HF3 := Lib.hid h5.2; have HG3 : Hid (Gr w W) := Lib.hid (HG.out.own hfin HF.out); have HK : Hid (rk1 = s.rank (i + 1)) := HRk1; clear hfin h5 HL HA HV HQ HX HRow HF HG HYs HYl HRk HPk
     rename_i K hK
     refine hK _ _ ?_
     go_wp2
     go_roundw
     case rel => exact ⟨i + 1, _, by omega, by rw [HK.out], by go_num, rfl, HR3, HF3, HG3⟩
     case measure => simp [intOf]; omega
    case steps =>
     refine .cons (fun a W hfr hinv hear hdep K hK => ?_) ?_
     · have t5 := tAt (lv) (hfr.at 5 (by kernel_rfl)); refine fW0 rfl ?_; clear hfr hdep hear; go_simp; exact hK _ _ (show Gr W W from Gr.refl W) hinv (fun h => h) (dsT rfl)
     refine .cons (fun a W hfr hinv hear hdep K hK => ?_) ?_
     · have t0 := tAt (.pointer (some ⟨b, 0, none⟩)) (hfr.at 0 (by kernel_rfl)); refine fW0 rfl ?_; clear hfr hdep hear; go_simp; exact hK _ _ (show Gr W W from Gr.refl W) hinv (fun h => h) (dsT rfl)
     refine .cons (fun a W hfr hinv hear hdep K hK => ?_) ?_
     · have t39 := tAt (.pointer (some ⟨b, 0, none⟩)) (hdep 39 (by kernel_rfl)); refine fW0 rfl ?_; clear hfr hdep hear; go_simp; exact hK _ _ (show Gr W W from Gr.refl W) hinv (fun h => h) (dsT rfl)
     refine .cons (fun a W hfr hinv hear hdep K hK => ?_) ?_
     · have t40 := tAt (.pointer (some ⟨b, 0, none⟩)) (hdep 40 (by kernel_rfl)); refine fW0 rfl ?_; clear hfr hdep hear; go_simp; exact hK _ _ (show Gr W W from Gr.refl W) hinv (fun h => h) (dsT rfl)
     refine .cons (fun a W hfr hinv hear hdep K hK => ?_) ?_
     · have t41 := tAt (.pointer (some ⟨b, 0, none⟩)) (hdep 41 (by kernel_rfl)); refine fW0 rfl ?_; clear hfr hdep; have he : Gr wr W := Flow.early hear (by kernel_rfl); clear hear; have hc := HA.out W he; go_simp; exact hK _ _ (show Gr W W from Gr.refl W) hinv (fun h => h) (dsT rfl)
     refine .cons (fun a W hfr hinv hear hdep K hK => ?_) ?_
     · have t7 := tAt (.int .i64 (i : Int)) (hfr.at 7 (by kernel_rfl)); refine fW0 rfl ?_; clear hfr hdep hear; go_simp; exact hK _ _ (show Gr W W from Gr.refl W) hinv (fun h => h) (dsT rfl)
     refine .cons (fun a W hfr hinv hear hdep K hK => ?_) ?_
     · have t42 := tAt (.slice (some ⟨gs, 0, none⟩) N cs) (hdep 42 (by kernel_rfl)); have t43 := tAt (.int .i64 (i : Int)) (hdep 43 (by kernel_rfl)); refine fW0 rfl ?_; clear hfr hdep hear; go_simp; exact hK _ _ (show Gr W W from Gr.refl W) hinv (fun h => h) (dsT rfl)
     refine .cons (fun a W hfr hinv hear hdep K hK => ?_) ?_
     · have t44 := tAt (.pointer (some ⟨gs, i, none⟩)) (hdep 44 (by kernel_rfl)); refine fW0 rfl ?_; clear hfr hdep; have he : Gr wr W := Flow.early hear (by kernel_rfl); clear hear; have hc := HV.out W he; go_simp; exact hK _ _ (show Gr W W from Gr.refl W) hinv (fun h => h) (dsT rfl)
     refine .cons (fun a W hfr hinv hear hdep K hK => ?_) ?_
     · have t8 := tAt (.int .u64 (P : Int)) (hfr.at 8 (by kernel_rfl)); refine fW0 rfl ?_; clear hfr hdep hear; go_simp; exact hK _ _ (show Gr W W from Gr.refl W) hinv (fun h => h) (dsT rfl)
     refine .cons (fun a W hfr hinv hear hdep K hK => ?_) ?_
     · have t0 := tAt (.pointer (some ⟨b, 0, none⟩)) (hfr.at 0 (by kernel_rfl)); refine fW0 rfl ?_; clear hfr hdep hear; go_simp; exact hK _ _ (show Gr W W from Gr.refl W) hinv (fun h => h) (dsT rfl)
     refine .cons (fun a W hfr hinv hear hdep K hK => ?_) ?_
     · have t47 := tAt (.pointer (some ⟨b, 0, none⟩)) (hdep 47 (by kernel_rfl)); refine fW0 rfl ?_; clear hfr hdep hear; go_simp; exact hK _ _ (show Gr W W from Gr.refl W) hinv (fun h => h) (dsT rfl)
     refine .cons (fun a W hfr hinv hear hdep K hK => ?_) ?_
     · have t48 := tAt (.pointer (some ⟨b, 0, none⟩)) (hdep 48 (by kernel_rfl)); refine fW0 rfl ?_; clear hfr hdep hear; go_simp; exact hK _ _ (show Gr W W from Gr.refl W) hinv (fun h => h) (dsT rfl)
     refine .cons (fun a W hfr hinv hear hdep K hK => ?_) ?_
     · have t49 := tAt (.pointer (some ⟨b, 0, none⟩)) (hdep 49 (by kernel_rfl)); refine fW0 rfl ?_; clear hfr hdep; have he : Gr wr W := Flow.early hear (by kernel_rfl); clear hear; have hc := HA.out W he; go_simp; exact hK _ _ (show Gr W W from Gr.refl W) hinv (fun h => h) (dsT rfl)
     refine .cons (fun a W hfr hinv hear hdep K hK => ?_) ?_
     · have t7 := tAt (.int .i64 (i : Int)) (hfr.at 7 (by kernel_rfl)); refine fW0 rfl ?_; clear hfr hdep hear; go_simp; exact hK _ _ (show Gr W W from Gr.refl W) hinv (fun h => h) (dsT rfl)
     refine .cons (fun a W hfr hinv hear hdep K hK => ?_) ?_
     · have t50 := tAt (.slice (some ⟨gs, 0, none⟩) N cs) (hdep 50 (by kernel_rfl)); have t51 := tAt (.int .i64 (i : Int)) (hdep 51 (by kernel_rfl)); refine fW0 rfl ?_; clear hfr hdep hear; go_simp; exact hK _ _ (show Gr W W from Gr.refl W) hinv (fun h => h) (dsT rfl)
     refine .cons (fun a W hfr hinv hear hdep K hK => ?_) ?_
     · have t52 := tAt (.pointer (some ⟨gs, i, none⟩)) (hdep 52 (by kernel_rfl)); refine fW0 rfl ?_; clear hfr hdep; have he : Gr wr W := Flow.early hear (by kernel_rfl); clear hear; have hc := HV.out W he; go_simp; exact hK _ _ (show Gr W W from Gr.refl W) hinv (fun h => h) (dsT rfl)
     refine .cons (fun a W hfr hinv hear hdep K hK => ?_) ?_
     · have t53 := tAt (.slice (some ⟨gu, 0, none⟩) m cu) (hdep 53 (by kernel_rfl)); refine fW0 rfl ?_; clear hfr hdep hear; go_simp; exact hK _ _ (show Gr W W from Gr.refl W) hinv (fun h => h) (dsT rfl)
     refine .cons (fun a W hfr hinv hear hdep K hK => ?_) ?_
     ·
      have t54 := tAt (.int .i64 (m : Int)) (hdep 54 (by kernel_rfl)); refine fW0 rfl ?_; clear hfr hdep
      have hwr : IntKind.u64.wrap (m : Int) = (m : Int) := by rw [IntKind.wrap_u64]; omega
      clear hear; go_simp; exact hK _ _ (show Gr W W from Gr.refl W) hinv (fun h => h) (dsT rfl)
     refine .cons (fun a W hfr hinv hear hdep K hK => ?_) ?_
     ·
      have t46 := tAt (.int .u64 (P : Int)) (hdep 46 (by kernel_rfl)); have t55 := tAt (.int .u64 (m : Int)) (hdep 55 (by kernel_rfl)); refine fW0 rfl ?_; clear hfr hdep
      have hq : (P : Int).tmod (m : Int) = (Q : Int) := by rw [Int.tmod_eq_emod_of_nonneg (by omega)]; exact HQ.out
      have hm3 : ¬ m = 0 := by omega
      clear hear; go_simp; exact hK _ _ (show Gr W W from Gr.refl W) hinv (fun h => h) (dsT rfl)
     refine .cons (fun a W hfr hinv hear hdep K hK => ?_) ?_
     · have t45 := tAt (.slice (some ⟨gu, 0, none⟩) m cu) (hdep 45 (by kernel_rfl)); have t56 := tAt (.int .u64 (Q : Int)) (hdep 56 (by kernel_rfl)); refine fW0 rfl ?_; clear hfr hdep hear; go_simp; exact hK _ _ (show Gr W W from Gr.refl W) hinv (fun h => h) (dsT rfl)
     refine .cons (fun a W hfr hinv hear hdep K hK => ?_) ?_
     · have s57 : a.tmps.getD 57 undef = .pointer (some ⟨gu, Q * 256, none⟩) := hdep 57 (by kernel_rfl); have t57 := tmpAt s57; refine fW0 rfl ?_; clear hfr hdep; have he : Gr wr W := Flow.early hear (by kernel_rfl); refine wp_load_sec (.tmp 57) rfl (HL.out W he) (by simpa [Act.eval] using s57) ?_; exact hK _ _ (show Gr W W from Gr.refl W) hinv (fun h => h) (dsT rfl)
     refine .cons (fun a W hfr hinv hear hdep K hK => ?_) ?_
     · have t58 := tAt (.agg (sec x)) (hdep 58 (by kernel_rfl)); refine fW0 rfl ?_; clear hfr hdep; refine wp_buildSecs 1 #[(0, .tmp 58)] rfl [x] rfl (by omega) (by omega) (by simp [Act.eval, t58, partsOf, partsL, sec]) ?_; exact hK _ _ (show Gr W (W.alloc _) from Gr.new W _) (hinv.trans (World.grownBy_alloc W _ _)) (fun h => Gr.trans h (Gr.new W _)) (fun d hd => by cases hd; exact ⟨_, rfl, Row.lit W [x] 1 rfl (by omega)⟩)
     refine .cons (fun a W hfr hinv hear hdep K hK => ?_) ?_
     ·
      have s38 : a.tmps.getD 38 undef = lv := hdep 38 (by kernel_rfl); have t38 := tmpAt s38; have s59 : (∃ q, (a.tmps.getD 59 undef) = .slice (some ⟨q, 0, none⟩) 1 1 ∧ Row W (.slice (some ⟨q, 0, none⟩) 1 1) [x]) := hdep 59 (by kernel_rfl); refine fW0 rfl ?_; clear hfr hdep; have he : Gr wr W := Flow.early hear (by kernel_rfl); obtain ⟨q2, e59, r59⟩ := s59; have hro : Row W lv ys := HRow.out.gr he; refine app_sec (.tmp 38) (.tmp 59) rfl (by simpa [Act.eval] using s38) hro (by simpa [Act.eval] using e59) r59 rfl HYl.out ?_
      intro v' w' h1 h2 h3
      have hl2 : ∀ g, v'.ownBlock = some g → w.heap.size ≤ g := fun g hg2 => h3.elim (fun h => HF.out g (h.symm.trans hg2)) (fun h => by rw [hg2] at h; cases h; exact Nat.le_trans HG.out.size hinv.size)
      exact hK _ _ (show W.grownBy w' lv.ownBlock from h2) (hinv.trans h2) True.intro (fun d hd => by cases hd; exact ⟨h1, hl2⟩)
     refine .cons (fun a W hfr hinv hear hdep K hK => ?_) ?_
     ·
      have s60 : (Row W (a.tmps.getD 60 undef) (ys ++ [x]) ∧ ∀ g, (a.tmps.getD 60 undef).ownBlock = some g → w.heap.size ≤ g) := hdep 60 (by kernel_rfl); refine fW0 rfl ?_; clear hfr hdep; clear hear
      have e60 : a.tmps.getD 60 undef = a.tmps[60]?.getD undef := by simp
      rw [e60] at s60
      go_simp; exact hK _ _ (show Gr W W from Gr.refl W) hinv True.intro (fun d hd => by cases hd; exact s60)
     exact True.intro
  ·
   obtain rfl : i = N := by omega
   have HC : Hid (Calls Tryz.prog 22 #[lv] wr fun e w' => NewRf wr w' e (s.crash zs)) := Lib.hid (by
    have h1 := refNew_any wr lv _ hrow.out (by simp; rw [HN.out]; exact HD.out.pos) (by simp; exact hN2)
    have e : s.crash zs = fresh ((List.range i).map (s.chosen zs)) := by unfold St.crash; rw [HN.out]
    rw [e]; exact h1)
   have HG := hg; clear hrow hfr hg; go_wp2_with fail; refine HC.out.mono ?_; rintro e w2 ⟨p, G2, rfl, h1, h2, h3⟩; have HF : Hid (NewRf w w2 (.returned p) (s.crash zs)) := Lib.hid ⟨p, G2, rfl, h1, Gr.trans HG.out h2, fun k hk => Nat.le_trans HG.out.size (h3 k hk)⟩; clear h1 h2 h3
   go_wp2
   go_ret
   exact HF.out
end Go.Proofs.YtbpgonmoepnnpaaGreat
namespace Go.Proofs.YtbpgonmoepnnpaaGreat
open Go.RowKit Go.Maps
theorem Upd.same {F : Nat → Prop} (w : World) : Upd F F w w := Upd.of_gr (Gr.refl w)
theorem Upd.pre {F F' : Nat → Prop} {w w1 w2 : World} (g : Gr w w1) (u : Upd F F' w1 w2) : Upd F F' w w2 := (Upd.of_gr g).trans u
end Go.Proofs.YtbpgonmoepnnpaaGreat
namespace Go.Proofs.YtbpgonmoepnnpaaGreat
namespace Flow
open Go
section
variable {P : Program} {ops : Array Oper} {Q : Exit → Act → World → Prop} {md : Region.Mode}
variable {Sl : Nat → Value → World → Prop} {Inv : World → Prop} {G : World → World → Prop} {a0 : Act}
theorem walkL (hmono : ∀ d v w w', Sl d v w → G w w' → Sl d v w') (hf : fineB md a0.tmps.size ops = true) (hs : ∀ (i : Nat) (o : Oper), ops[i]? = some o → Step P md ops Q Sl Inv G a0 o)
  (hfin : ∀ a w, Same ops a0 a → Inv w → (∀ (i : Nat) (o : Oper) d, ops[i]? = some o → o.dst = some d → Sl d (a.tmps.getD d undef) w) → Q .normal a w) :
  ∀ (fuel : Nat) (listed : Array Bool) (a : Act) (w : World), left listed ops.size ≤ fuel → listed.size = ops.size → Same ops a0 a → Inv w →
   (∀ (i : Nat) (o : Oper) d, ops[i]? = some o → listed.getD i true = true → o.dst = some d → Sl d (a.tmps.getD d undef) w) → wpAny P md ops Q fuel listed a w := by
 have ends : ∀ (listed : Array Bool) (a : Act) (w : World), (∀ i, i < ops.size → listed.getD i true = true) → Same ops a0 a → Inv w →
   (∀ (i : Nat) (o : Oper) d, ops[i]? = some o → listed.getD i true = true → o.dst = some d → Sl d (a.tmps.getD d undef) w) → Q .normal a w := fun listed a w hl hsame hinv hsl =>
  hfin a w hsame hinv fun i o d ho hd => hsl i o d ho (hl i (Array.getElem?_eq_some_iff.1 ho).1) hd
 have alls : ∀ listed : Array Bool, listed.size = ops.size → Region.ready md ops listed = [] → ∀ i, i < ops.size → listed.getD i true = true := by
  intro listed hsz hr i
  induction i using Nat.strongRecOn with
  | _ i ih =>
   intro hi
   cases hg : listed.getD i true with
   | true => rfl
   | false =>
    exfalso
    have : i ∈ Region.ready md ops listed := mem_ready.2 ⟨hg, ops[i], Array.getElem?_eq_getElem hi, fun e he hbd => by
     have hlt := fineB_down hf (Array.getElem?_eq_getElem hi) e he hbd; have h1 := ih e.on hlt (by omega)
     have h2 : e.on < listed.size := by omega
     simp only [Array.getD_eq_getD_getElem?, Array.getElem?_eq_getElem h2, Option.getD_some] at h1 ⊢
     exact h1⟩
    rw [hr] at this
    cases this
 intro fuel
 induction fuel with
 | zero =>
  intro listed a w hl hsz hsame hinv hsl
  have hall := left_zero (listed := listed) (n := ops.size) (by omega); refine ⟨?_, ends listed a w hall hsame hinv hsl⟩
  cases hr : Region.ready md ops listed with
  | nil => rfl
  | cons j r =>
   have hj : j ∈ Region.ready md ops listed := by rw [hr]; exact List.mem_cons_self ..
   obtain ⟨hun, o, ho, _⟩ := mem_ready.1 hj
   rw [hall j (Array.getElem?_eq_some_iff.1 ho).1] at hun
   cases hun
 | succ fuel ih =>
  intro listed a w hl hsz hsame hinv hsl
  refine ⟨fun hr => ends listed a w (alls listed hsz hr) hsame hinv hsl, fun i hi => ?_⟩; obtain ⟨hun, o, ho, hdep⟩ := mem_ready.1 hi; have hib : i < ops.size := (Array.getElem?_eq_some_iff.1 ho).1
  refine wpOp_step ho fun K hK => hs i o ho a w hsame hinv ?_ K ?_
  ·
   intro d hd
   have hd' : d ∈ needs md ops o := by simpa using hd
   obtain ⟨e, he, hed⟩ := List.mem_filterMap.1 hd'; obtain ⟨he1, he2⟩ := List.mem_filter.1 he
   cases hoe : ops[e.on]? with
   | none => rw [hoe] at hed; cases hed
   | some oe =>
    rw [hoe] at hed
    have hl1 := hdep e (by simpa using he1) he2; refine hsl e.on oe d hoe ?_ hed
    have h2 : e.on < listed.size := by have := (Array.getElem?_eq_some_iff.1 hoe).1; omega
    simp only [Array.getD_eq_getD_getElem?, Array.getElem?_eq_getElem h2, Option.getD_some] at hl1 ⊢
    exact hl1
  ·
   intro v w' hg hinv' hv
   refine hK _ _ (ih (listed.setIfInBounds i true) (a.put o.dst v) w' ?_ (by simpa using hsz) ⟨(put_defers ..).trans hsame.defers, (put_size ..).trans hsame.size, fun d hd => ?_⟩ hinv' ?_)
   · have := left_less hun hib; omega
   · rw [getD_put_other (hd i o ho)]; exact hsame.old d hd
   ·
    intro j oj d hoj hlj hdj
    by_cases hji : j = i
    ·
     subst hji
     rw [ho] at hoj
     cases hoj
     have hds := (fineB_slot hf ho hdj).1; rw [hdj, getD_put_same (by rw [hsame.size]; exact hds)]; exact hv d hdj
    ·
     rw [getD_put_other (fun e => hji (fineB_one hf hoj ho hdj e))]
     rw [getD_set_ne true (Ne.symm hji)] at hlj
     exact hmono _ _ _ _ (hsl j oj d hoj hlj hdj) hg
theorem regionL {id : Nat} {w : World} (Sl : Nat → Value → World → Prop) (Inv : World → Prop) (G : World → World → Prop) (hm : P.follows .mixedOrders = true) (hf : fineB .any a0.tmps.size ops = true)
  (hmono : ∀ d v w w', Sl d v w → G w w' → Sl d v w') (h0 : Inv w.drew) (hs : Steps P .any ops Q Sl Inv G a0 ops.toList)
  (hfin : ∀ a w, Same ops a0 a → Inv w → (∀ (i : Nat) (o : Oper) d, ops[i]? = some o → o.dst = some d → Sl d (a.tmps.getD d undef) w) → Q .normal a w) :
  (Code.region id ops true).wp P Q a0 w := by
 refine wp_region_any hm ?_; refine walkL hmono hf (fun i o ho => hs.at o (by simpa using Array.mem_of_getElem? ho)) hfin _ _ a0 w.drew ?_ (by simp) ⟨rfl, rfl, fun _ _ => rfl⟩ h0 ?_
 ·
  have : ∀ n, left (Array.replicate ops.size false) n ≤ n := by
   intro n
   induction n with
   | zero => exact Nat.le_refl _
   | succ n ih => simp only [left]; split <;> omega
  exact this _
 ·
  intro i o d ho hl _
  have hi : i < ops.size := (Array.getElem?_eq_some_iff.1 ho).1
  simp [hi] at hl
end
end Flow
end Go.Proofs.YtbpgonmoepnnpaaGreat
namespace Go.Proofs.YtbpgonmoepnnpaaGreat
open Go.RowKit Go.Maps
abbrev TLg : TypeId := 73
theorem Blk.c10 {w : World} {b : Nat} {t : TypeId} {x0 x1 x2 x3 x4 x5 x6 x7 x8 x9 : Value} (h : Blk w b t #[x0, x1, x2, x3, x4, x5, x6, x7, x8, x9]) :
  w.cell? ⟨b, 0, none⟩ = some x0 ∧ w.cell? ⟨b, 1, none⟩ = some x1 ∧ w.cell? ⟨b, 2, none⟩ = some x2 ∧ w.cell? ⟨b, 3, none⟩ = some x3 ∧ w.cell? ⟨b, 4, none⟩ = some x4 ∧ w.cell? ⟨b, 5, none⟩ = some x5 ∧ w.cell? ⟨b, 6, none⟩ = some x6 ∧ w.cell? ⟨b, 7, none⟩ = some x7 ∧ w.cell? ⟨b, 8, none⟩ = some x8 ∧ w.cell? ⟨b, 9, none⟩ = some x9 :=
 ⟨h.cell 0, h.cell 1, h.cell 2, h.cell 3, h.cell 4, h.cell 5, h.cell 6, h.cell 7, h.cell 8, h.cell 9⟩
theorem wmissing_no (d b : Nat) (p : Value) (n : Int) (l : Int) (g : Int) (ep : Nat) (tl : Nat) (la : Nat) (q : Option Addr) (m : Nat) (c : Nat) (rs : Int) (bg : Bool) (w : World) (h : Blk w b TLg #[p, .int .i64 n, .int .i64 l, .int .i64 g, .int .u64 ep, .int .u64 tl, .int .u64 la, .slice q m c, .int .i64 rs, .bool bg]) (hp : p = .pointer (some ⟨d, 0, none⟩)) : Calls Tryz.prog 50 #[.pointer (some ⟨b, 0, none⟩)] w fun e w' => e = .returned (.bool false) ∧ w = w' := by
 obtain ⟨c0, c1, c2, c3, c4, c5, c6, c7, c8, c9⟩ := h.c10; clear h c1 c2 c3 c4 c5 c6 c7 c8 c9; subst hp
 go_enter Tryz.func50, Tryz.ntmps50
 go_wp2
 go_ret
 exact ⟨rfl, rfl⟩
theorem ahead_any (k : Nat) (w : World) (h : k ≤ 18446744073709551615) : Calls Tryz.prog 55 #[.int .u64 (k : Int)] w fun e w' => e = .returned (.int .i64 ((k % 232 : Nat) : Int)) ∧ w = w' := by
 have h0 : (0 : Int) ≤ (k : Int) := by omega
 have h1 : (k : Int) ≤ 18446744073709551615 := by omega
 go_enter Tryz.func55, Tryz.ntmps55
 go_wp2
 go_ret
 exact ⟨ret_i (by omega), rfl⟩
theorem sectorOf_any (k : Nat) (w : World) (h : k ≤ 18446744073709551615) : Calls Tryz.prog 75 #[.int .u64 (k : Int)] w fun e w' => e = .returned (.int .u64 ((k / 232 : Nat) : Int)) ∧ w = w' := by
 have h0 : (0 : Int) ≤ (k : Int) := by omega
 have h1 : (k : Int) ≤ 18446744073709551615 := by omega
 go_enter Tryz.func75, Tryz.ntmps75
 go_wp2
 go_ret
 exact ⟨ret_i (by omega), rfl⟩
theorem wword_any (n : Nat) (s : Int) (w : World) : Calls Tryz.prog 117 #[.int .u64 n, .int .i64 s] w (RetByte (putR n s) w) := by
 go_enter Tryz.func117, Tryz.ntmps117
 go_wp2_with fail; refine (put_any n s w).mono ?_; rintro e w1 ⟨p, m, c, rfl, hb, hg, hf⟩
 go_wp2
 go_ret
 exact ⟨p, m, c, rfl, hb, hg, hf⟩
def SlWEnd (_ : Value) (_ : Int) (_ : Int) (_ : Int) (_ : Nat) (_ : Nat) (la : Nat) (q : Option Addr) (m : Nat) (c : Nat) (_ : Int) (_ : Bool) (b : Nat) (A : Nat) (X : Nat) (E : Nat) (slot : Nat) (v : Value) (_ : World) : Prop :=
 match slot with
 | 5 | 6 | 9 | 10 | 16 | 17 => v = .pointer (some ⟨b, 0, none⟩)
 | 7 | 11 => v = .pointer (some ⟨b, 6, none⟩)
 | 8 | 12 => v = .int .u64 la
 | 13 => v = .int .i64 (A : Int)
 | 14 => v = .int .u64 (A : Int)
 | 15 => v = .int .u64 (X : Int)
 | 18 => v = .pointer (some ⟨b, 7, none⟩)
 | 19 => v = .slice q m c
 | 20 => v = .int .i64 m
 | 21 => v = .int .u64 m
 | 22 | 2 => v = .int .u64 (E : Int)
 | _ => True
def SlWFre (_ : Value) (_ : Int) (_ : Int) (_ : Int) (_ : Nat) (tl : Nat) (_ : Nat) (_ : Option Addr) (_ : Nat) (_ : Nat) (_ : Int) (_ : Bool) (b : Nat) (A : Nat) (E : Nat) (X : Nat) (Y : Nat) (slot : Nat) (v : Value) (_ : World) : Prop :=
 match slot with
 | 14 | 15 | 19 | 21 | 22 => v = .pointer (some ⟨b, 0, none⟩)
 | 16 | 23 => v = .pointer (some ⟨b, 5, none⟩)
 | 17 | 24 => v = .int .u64 tl
 | 18 => v = .int .i64 (A : Int)
 | 20 => v = .int .u64 (E : Int)
 | 25 => v = .int .u64 (X : Int)
 | 26 => v = .int .i64 (X : Int)
 | 27 | 4 => v = .int .i64 (Y : Int)
 | _ => True
def SlWPla (_ : Value) (n : Int) (l : Int) (g : Int) (_ : Nat) (_ : Nat) (_ : Nat) (_ : Option Addr) (_ : Nat) (_ : Nat) (_ : Int) (_ : Bool) (b : Nat) (k : Nat) (M : Nat) (R : Nat) (slot : Nat) (v : Value) (_ : World) : Prop :=
 match slot with
 | 8 | 9 | 13 | 14 => v = .pointer (some ⟨b, 0, none⟩)
 | 10 | 15 => v = .pointer (some ⟨b, 1, none⟩)
 | 11 => v = .agg #[.int .i64 n, .int .i64 l, .int .i64 g]
 | 12 => v = .int .u64 (k : Int)
 | 16 => v = .pointer (some ⟨b, 2, none⟩)
 | 17 => v = .int .i64 l
 | 18 => v = .int .u64 l
 | 19 => v = .int .u64 (M : Int)
 | 20 => v = .int .i64 (M : Int)
 | 21 | 7 => v = .tuple #[.int .i64 (R : Int), .int .i64 0]
 | 22 | 5 => v = .int .i64 (R : Int)
 | 23 | 6 => v = .int .i64 0
 | _ => True
def RetU (x : Nat) (w : World) (e : Ending) (w' : World) : Prop := e = .returned (.int .u64 (x : Int)) ∧ Gr w w'
set_option maxRecDepth 100000 in
set_option maxHeartbeats 1000000 in
theorem wEnd_any (d b : Nat) (p : Value) (n : Int) (l : Int) (g : Int) (ep : Nat) (tl : Nat) (la : Nat) (q : Option Addr) (m : Nat) (c : Nat) (rs : Int) (bg : Bool) (w : World) (h : Blk w b TLg #[p, .int .i64 n, .int .i64 l, .int .i64 g, .int .u64 ep, .int .u64 tl, .int .u64 la, .slice q m c, .int .i64 rs, .bool bg]) (hp : p = .pointer (some ⟨d, 0, none⟩)) (hE : la + m ≤ 9223372036854775807) : Calls Tryz.prog 18 #[.pointer (some ⟨b, 0, none⟩)] w (RetU (la - la % 232 + m) w) := by
 have HM := Lib.hid (wmissing_no d b p n l g ep tl la q m c rs bg w h hp); have HB := Lib.hid h; obtain ⟨A, hA⟩ : ∃ A, A = la % 232 := ⟨_, rfl⟩; obtain ⟨X, hX⟩ : ∃ X, X = la - A := ⟨_, rfl⟩; obtain ⟨E, hE2⟩ : ∃ E, E = X + m := ⟨_, rfl⟩
 have HAh : Hid (∀ W, Calls Tryz.prog 55 #[.int .u64 (la : Int)] W fun e w' => e = .returned (.int .i64 (A : Int)) ∧ W = w') := Lib.hid fun W => by rw [hA]; exact ahead_any la W (by omega)
 have HLA : Hid (IntKind.u64.wrap (A : Int) = (A : Int) ∧ IntKind.u64.wrap ((la : Int) - (A : Int)) = (X : Int) ∧ IntKind.u64.wrap ((X : Int) + (m : Int)) = (E : Int) ∧ IntKind.u64.wrap (m : Int) = (m : Int)) := Lib.hid ⟨by rw [IntKind.wrap_u64]; omega, by rw [IntKind.wrap_u64]; omega, by rw [IntKind.wrap_u64]; omega, by rw [IntKind.wrap_u64]; omega⟩; have HR : Hid (la - la % 232 + m = E) := Lib.hid (by rw [hE2, hX, hA]); clear h hE hA hX hE2
 go_enter Tryz.func18, Tryz.ntmps18
 go_wp2_with fail; refine HM.out.mono ?_; rintro e w1 ⟨rfl, rfl⟩; go_wp2_with fail; refine Flow.region (SlWEnd p n l g ep tl la q m c rs bg b A X E) (Gr w) (fun _ _ => True) (by kernel_rfl) (by kernel_rfl) (fun _ _ _ _ h _ => h) ⟨rfl, rfl, rfl, Nat.le_refl _, fun _ _ => rfl⟩ ?steps ?fin
 case steps =>
  refine .cons (fun a W hfr hinv hdep K hK => ?_) ?_
  · have t0 := tAt (.pointer (some ⟨b, 0, none⟩)) (hfr.at 0 (by kernel_rfl)); refine fW0 rfl ?_; clear hfr hdep; go_simp; exact hK _ _ True.intro hinv (dsT (by trivial))
  refine .cons (fun a W hfr hinv hdep K hK => ?_) ?_
  · have t5 := tAt (.pointer (some ⟨b, 0, none⟩)) (hdep 5 (by kernel_rfl)); refine fW0 rfl ?_; clear hfr hdep; go_simp; exact hK _ _ True.intro hinv (dsT (by trivial))
  refine .cons (fun a W hfr hinv hdep K hK => ?_) ?_
  · have t6 := tAt (.pointer (some ⟨b, 0, none⟩)) (hdep 6 (by kernel_rfl)); refine fW0 rfl ?_; clear hfr hdep; go_simp; exact hK _ _ True.intro hinv (dsT (by trivial))
  refine .cons (fun a W hfr hinv hdep K hK => ?_) ?_
  · have t7 := tAt (.pointer (some ⟨b, 6, none⟩)) (hdep 7 (by kernel_rfl)); obtain ⟨c0, c1, c2, c3, c4, c5, c6, c7, c8, c9⟩ := (HB.out.gr hinv).c10; refine fW0 rfl ?_; clear hfr hdep; go_simp; exact hK _ _ True.intro hinv (dsT (by trivial))
  refine .cons (fun a W hfr hinv hdep K hK => ?_) ?_
  · have t0 := tAt (.pointer (some ⟨b, 0, none⟩)) (hfr.at 0 (by kernel_rfl)); refine fW0 rfl ?_; clear hfr hdep; go_simp; exact hK _ _ True.intro hinv (dsT (by trivial))
  refine .cons (fun a W hfr hinv hdep K hK => ?_) ?_
  · have t9 := tAt (.pointer (some ⟨b, 0, none⟩)) (hdep 9 (by kernel_rfl)); refine fW0 rfl ?_; clear hfr hdep; go_simp; exact hK _ _ True.intro hinv (dsT (by trivial))
  refine .cons (fun a W hfr hinv hdep K hK => ?_) ?_
  · have t10 := tAt (.pointer (some ⟨b, 0, none⟩)) (hdep 10 (by kernel_rfl)); refine fW0 rfl ?_; clear hfr hdep; go_simp; exact hK _ _ True.intro hinv (dsT (by trivial))
  refine .cons (fun a W hfr hinv hdep K hK => ?_) ?_
  · have t11 := tAt (.pointer (some ⟨b, 6, none⟩)) (hdep 11 (by kernel_rfl)); obtain ⟨c0, c1, c2, c3, c4, c5, c6, c7, c8, c9⟩ := (HB.out.gr hinv).c10; refine fW0 rfl ?_; clear hfr hdep; go_simp; exact hK _ _ True.intro hinv (dsT (by trivial))
  refine .cons (fun a W hfr hinv hdep K hK => ?_) ?_
  · have t12 := tAt (.int .u64 la) (hdep 12 (by kernel_rfl)); refine fW0 rfl ?_; clear hfr hdep; go_simp; refine (HAh.out W).mono ?_; rintro e W' ⟨rfl, rfl⟩; exact hK _ _ True.intro hinv (dsT (by trivial))
  refine .cons (fun a W hfr hinv hdep K hK => ?_) ?_
  · have t13 := tAt (.int .i64 (A : Int)) (hdep 13 (by kernel_rfl)); have hb := HLA.out.1; refine fW0 rfl ?_; clear hfr hdep; go_simp; exact hK _ _ True.intro hinv (dsT (by trivial))
  refine .cons (fun a W hfr hinv hdep K hK => ?_) ?_
  · have t8 := tAt (.int .u64 la) (hdep 8 (by kernel_rfl)); have t14 := tAt (.int .u64 (A : Int)) (hdep 14 (by kernel_rfl)); have hw := HLA.out.2.1; refine fW0 rfl ?_; clear hfr hdep; go_simp; exact hK _ _ True.intro hinv (dsT (by trivial))
  refine .cons (fun a W hfr hinv hdep K hK => ?_) ?_
  · have t0 := tAt (.pointer (some ⟨b, 0, none⟩)) (hfr.at 0 (by kernel_rfl)); refine fW0 rfl ?_; clear hfr hdep; go_simp; exact hK _ _ True.intro hinv (dsT (by trivial))
  refine .cons (fun a W hfr hinv hdep K hK => ?_) ?_
  · have t16 := tAt (.pointer (some ⟨b, 0, none⟩)) (hdep 16 (by kernel_rfl)); refine fW0 rfl ?_; clear hfr hdep; go_simp; exact hK _ _ True.intro hinv (dsT (by trivial))
  refine .cons (fun a W hfr hinv hdep K hK => ?_) ?_
  · have t17 := tAt (.pointer (some ⟨b, 0, none⟩)) (hdep 17 (by kernel_rfl)); refine fW0 rfl ?_; clear hfr hdep; go_simp; exact hK _ _ True.intro hinv (dsT (by trivial))
  refine .cons (fun a W hfr hinv hdep K hK => ?_) ?_
  · have t18 := tAt (.pointer (some ⟨b, 7, none⟩)) (hdep 18 (by kernel_rfl)); obtain ⟨c0, c1, c2, c3, c4, c5, c6, c7, c8, c9⟩ := (HB.out.gr hinv).c10; refine fW0 rfl ?_; clear hfr hdep; go_simp; exact hK _ _ True.intro hinv (dsT (by trivial))
  refine .cons (fun a W hfr hinv hdep K hK => ?_) ?_
  · have t19 := tAt (.slice q m c) (hdep 19 (by kernel_rfl)); refine fW0 rfl ?_; clear hfr hdep; go_simp; exact hK _ _ True.intro hinv (dsT (by trivial))
  refine .cons (fun a W hfr hinv hdep K hK => ?_) ?_
  · have t20 := tAt (.int .i64 m) (hdep 20 (by kernel_rfl)); have hb := HLA.out.2.2.2; refine fW0 rfl ?_; clear hfr hdep; go_simp; exact hK _ _ True.intro hinv (dsT (by trivial))
  refine .cons (fun a W hfr hinv hdep K hK => ?_) ?_
  · have t15 := tAt (.int .u64 (X : Int)) (hdep 15 (by kernel_rfl)); have t21 := tAt (.int .u64 m) (hdep 21 (by kernel_rfl)); have hw := HLA.out.2.2.1; refine fW0 rfl ?_; clear hfr hdep; go_simp; exact hK _ _ True.intro hinv (dsT (by trivial))
  refine .cons (fun a W hfr hinv hdep K hK => ?_) ?_
  · have t22 := tAt (.int .u64 (E : Int)) (hdep 22 (by kernel_rfl)); refine fW0 rfl ?_; clear hfr hdep; go_simp; exact hK _ _ True.intro hinv (dsT (by trivial))
  exact True.intro
 case fin =>
  intro a W hfr hfin hsl
  have s2 : a.tmps.getD 2 undef = .int .u64 (E : Int) := hsl 18 _ 2 rfl rfl; have t2 := tmpAt s2; have e := Flow.frame hfr [5, 6, 7, 8, 9, 10, 11, 12, 13, 14, 15, 16, 17, 18, 19, 20, 21, 22, 2] (List.range 23) (by kernel_rfl) (by kernel_rfl)
  simp [List.range, List.range.loop] at e
  rw [t2] at e
  rw [e]; clear e hfr hsl s2 t2
  rename_i K2 hK2
  refine hK2 _ _ ?_; go_wp2_with fail
  go_ret
  exact ⟨by rw [HR.out]; rfl, hfin⟩
def freeR (l rs : Int) (tl E : Nat) : Int := max (232 * (l - 1) - ((tl % 232 + (E - tl) : Nat) : Int) - rs) 0
set_option maxRecDepth 100000 in
set_option maxHeartbeats 1000000 in
theorem wFree_any (d b : Nat) (p : Value) (n : Int) (l : Int) (g : Int) (ep : Nat) (tl : Nat) (la : Nat) (q : Option Addr) (m : Nat) (c : Nat) (rs : Int) (bg : Bool) (w : World) (h : Blk w b TLg #[p, .int .i64 n, .int .i64 l, .int .i64 g, .int .u64 ep, .int .u64 tl, .int .u64 la, .slice q m c, .int .i64 rs, .bool bg]) (hp : p = .pointer (some ⟨d, 0, none⟩)) (hE : la + m ≤ 9223372036854775807) (hl : 0 ≤ l ∧ l ≤ 300) (hr : 0 ≤ rs ∧ rs ≤ 1000000) (ht : tl ≤ la - la % 232 + m) (hs : la - la % 232 + m ≤ tl + 100000) :
  Calls Tryz.prog 19 #[.pointer (some ⟨b, 0, none⟩)] w fun e w' => e = .returned (.int .i64 (freeR l rs tl (la - la % 232 + m))) ∧ Gr w w' := by
 have HM := Lib.hid (wmissing_no d b p n l g ep tl la q m c rs bg w h hp); have HB := Lib.hid h; obtain ⟨A, hA⟩ : ∃ A, A = tl % 232 := ⟨_, rfl⟩; obtain ⟨E, hE2⟩ : ∃ E, E = la - la % 232 + m := ⟨_, rfl⟩; obtain ⟨X, hX⟩ : ∃ X, X = E - tl := ⟨_, rfl⟩; obtain ⟨Y, hY⟩ : ∃ Y, Y = A + X := ⟨_, rfl⟩
 rw [← hE2] at ht hs ⊢
 have HE : Hid (∀ W, Gr w W → Calls Tryz.prog 18 #[.pointer (some ⟨b, 0, none⟩)] W fun e w' => e = .returned (.int .u64 (E : Int)) ∧ Gr W w') := Lib.hid fun W gr => by rw [hE2]; exact wEnd_any d b p n l g ep tl la q m c rs bg W (h.gr gr) hp hE
 have HAh : Hid (∀ W, Calls Tryz.prog 55 #[.int .u64 (tl : Int)] W fun e w' => e = .returned (.int .i64 (A : Int)) ∧ W = w') := Lib.hid fun W => by rw [hA]; exact ahead_any tl W (by omega)
 have HLA : Hid (IntKind.u64.wrap ((E : Int) - (tl : Int)) = (X : Int) ∧ IntKind.i64.wrap (X : Int) = (X : Int) ∧ IntKind.i64.wrap ((A : Int) + (X : Int)) = (Y : Int)) := Lib.hid ⟨by rw [IntKind.wrap_u64]; omega, IntWalk.i64_in _ (by omega), by rw [IntWalk.i64_in _ (by omega)]; omega⟩; have HR : Hid (freeR l rs tl E = max (232 * (l - 1) - (Y : Int) - rs) 0 ∧ (Y : Int) ≤ 100231) := Lib.hid ⟨by unfold freeR; rw [← hA, ← hX, ← hY], by omega⟩; have hl0 := hl.1; have hl1 := hl.2; have hr0 := hr.1; have hr1 := hr.2; obtain ⟨c0, c1, c2, c3, c4, c5, c6, c7, c8, c9⟩ := h.c10; clear h hE hA hX hE2 hY ht hs hl hr c0 c1 c3 c4 c5 c6 c7 c9
 go_enter Tryz.func19, Tryz.ntmps19
 go_wp2_with fail; refine HM.out.mono ?_; rintro e w1 ⟨rfl, rfl⟩; go_wp2_with fail; refine Flow.region (SlWFre p n l g ep tl la q m c rs bg b A E X Y) (Gr w) (fun _ _ => True) (by kernel_rfl) (by kernel_rfl) (fun _ _ _ _ h _ => h) ⟨rfl, rfl, rfl, Nat.le_refl _, fun _ _ => rfl⟩ ?steps ?fin
 case steps =>
  refine .cons (fun a W hfr hinv hdep K hK => ?_) ?_
  · have t0 := tAt (.pointer (some ⟨b, 0, none⟩)) (hfr.at 0 (by kernel_rfl)); refine fW0 rfl ?_; clear hfr hdep; go_simp; exact hK _ _ True.intro hinv (dsT (by trivial))
  refine .cons (fun a W hfr hinv hdep K hK => ?_) ?_
  · have t14 := tAt (.pointer (some ⟨b, 0, none⟩)) (hdep 14 (by kernel_rfl)); refine fW0 rfl ?_; clear hfr hdep; go_simp; exact hK _ _ True.intro hinv (dsT (by trivial))
  refine .cons (fun a W hfr hinv hdep K hK => ?_) ?_
  · have t15 := tAt (.pointer (some ⟨b, 0, none⟩)) (hdep 15 (by kernel_rfl)); refine fW0 rfl ?_; clear hfr hdep; go_simp; exact hK _ _ True.intro hinv (dsT (by trivial))
  refine .cons (fun a W hfr hinv hdep K hK => ?_) ?_
  · have t16 := tAt (.pointer (some ⟨b, 5, none⟩)) (hdep 16 (by kernel_rfl)); obtain ⟨c0, c1, c2, c3, c4, c5, c6, c7, c8, c9⟩ := (HB.out.gr hinv).c10; refine fW0 rfl ?_; clear hfr hdep; go_simp; exact hK _ _ True.intro hinv (dsT (by trivial))
  refine .cons (fun a W hfr hinv hdep K hK => ?_) ?_
  · have t17 := tAt (.int .u64 tl) (hdep 17 (by kernel_rfl)); refine fW0 rfl ?_; clear hfr hdep; go_simp; refine (HAh.out W).mono ?_; rintro e W' ⟨rfl, rfl⟩; exact hK _ _ True.intro hinv (dsT (by trivial))
  refine .cons (fun a W hfr hinv hdep K hK => ?_) ?_
  · have t0 := tAt (.pointer (some ⟨b, 0, none⟩)) (hfr.at 0 (by kernel_rfl)); refine fW0 rfl ?_; clear hfr hdep; go_simp; exact hK _ _ True.intro hinv (dsT (by trivial))
  refine .cons (fun a W hfr hinv hdep K hK => ?_) ?_
  · have t19 := tAt (.pointer (some ⟨b, 0, none⟩)) (hdep 19 (by kernel_rfl)); refine fW0 rfl ?_; clear hfr hdep; go_simp; refine (HE.out W hinv).mono ?_; rintro e W' ⟨rfl, g1⟩; exact hK _ _ True.intro (Gr.trans hinv g1) (dsT (by trivial))
  refine .cons (fun a W hfr hinv hdep K hK => ?_) ?_
  · have t0 := tAt (.pointer (some ⟨b, 0, none⟩)) (hfr.at 0 (by kernel_rfl)); refine fW0 rfl ?_; clear hfr hdep; go_simp; exact hK _ _ True.intro hinv (dsT (by trivial))
  refine .cons (fun a W hfr hinv hdep K hK => ?_) ?_
  · have t21 := tAt (.pointer (some ⟨b, 0, none⟩)) (hdep 21 (by kernel_rfl)); refine fW0 rfl ?_; clear hfr hdep; go_simp; exact hK _ _ True.intro hinv (dsT (by trivial))
  refine .cons (fun a W hfr hinv hdep K hK => ?_) ?_
  · have t22 := tAt (.pointer (some ⟨b, 0, none⟩)) (hdep 22 (by kernel_rfl)); refine fW0 rfl ?_; clear hfr hdep; go_simp; exact hK _ _ True.intro hinv (dsT (by trivial))
  refine .cons (fun a W hfr hinv hdep K hK => ?_) ?_
  · have t23 := tAt (.pointer (some ⟨b, 5, none⟩)) (hdep 23 (by kernel_rfl)); obtain ⟨c0, c1, c2, c3, c4, c5, c6, c7, c8, c9⟩ := (HB.out.gr hinv).c10; refine fW0 rfl ?_; clear hfr hdep; go_simp; exact hK _ _ True.intro hinv (dsT (by trivial))
  refine .cons (fun a W hfr hinv hdep K hK => ?_) ?_
  · have t20 := tAt (.int .u64 (E : Int)) (hdep 20 (by kernel_rfl)); have t24 := tAt (.int .u64 tl) (hdep 24 (by kernel_rfl)); have hw := HLA.out.1; refine fW0 rfl ?_; clear hfr hdep; go_simp; exact hK _ _ True.intro hinv (dsT (by trivial))
  refine .cons (fun a W hfr hinv hdep K hK => ?_) ?_
  · have t25 := tAt (.int .u64 (X : Int)) (hdep 25 (by kernel_rfl)); have hw := HLA.out.2.1; refine fW0 rfl ?_; clear hfr hdep; go_simp; exact hK _ _ True.intro hinv (dsT (by trivial))
  refine .cons (fun a W hfr hinv hdep K hK => ?_) ?_
  · have t18 := tAt (.int .i64 (A : Int)) (hdep 18 (by kernel_rfl)); have t26 := tAt (.int .i64 (X : Int)) (hdep 26 (by kernel_rfl)); have hw := HLA.out.2.2; refine fW0 rfl ?_; clear hfr hdep; go_simp; exact hK _ _ True.intro hinv (dsT (by trivial))
  refine .cons (fun a W hfr hinv hdep K hK => ?_) ?_
  · have t27 := tAt (.int .i64 (Y : Int)) (hdep 27 (by kernel_rfl)); refine fW0 rfl ?_; clear hfr hdep; go_simp; exact hK _ _ True.intro hinv (dsT (by trivial))
  exact True.intro
 case fin =>
  intro a W hfr hfin hsl
  have s4 : a.tmps.getD 4 undef = .int .i64 (Y : Int) := hsl 14 _ 4 rfl rfl; have t4 := tmpAt s4; have e := Flow.frame hfr [14, 15, 16, 17, 18, 19, 20, 21, 22, 23, 24, 25, 26, 27, 4] (List.range 37) (by kernel_rfl) (by kernel_rfl)
  simp [List.range, List.range.loop] at e
  rw [t4] at e
  rw [e]; clear e hfr hsl s4 t4
  rename_i K2 hK2
  refine hK2 _ _ ?_; have c8 := (HB.out.gr hfin).c10.2.2.2.2.2.2.2.2.1; have hY := HR.out.2; have HRR := HR.out.1; go_wp2_with fail
  go_ret
  exact ⟨ret_i (by rw [HRR]), hfin⟩
set_option maxRecDepth 100000 in
set_option maxHeartbeats 1000000 in
theorem wplace_any (b : Nat) (p : Value) (n : Int) (l : Int) (g : Int) (ep : Nat) (tl : Nat) (la : Nat) (q : Option Addr) (m : Nat) (c : Nat) (rs : Int) (bg : Bool) (k : Nat) (w : World) (h : Blk w b TLg #[p, .int .i64 n, .int .i64 l, .int .i64 g, .int .u64 ep, .int .u64 tl, .int .u64 la, .slice q m c, .int .i64 rs, .bool bg]) (hm : mayL n l g = true) (hk : k ≤ 18446744073709551615) :
  Calls Tryz.prog 93 #[.pointer (some ⟨b, 0, none⟩), .int .u64 (k : Int)] w fun e w' => e = .returned (.int .i64 ((3 + k % l.toNat : Nat) : Int)) ∧ Gr w w' := by
 have HB := Lib.hid h; have hin := may_in hm; obtain ⟨M, hM⟩ : ∃ M, M = k % l.toNat := ⟨_, rfl⟩; obtain ⟨R, hR⟩ : ∃ R, R = 3 + M := ⟨_, rfl⟩; rw [← hM, ← hR]
 have hml : M < l.toNat := by rw [hM]; exact Nat.mod_lt _ (by omega)
 have hmi : (k : Int).tmod l = (M : Int) := by
  rw [hM, Int.tmod_eq_emod_of_nonneg (by omega)]
  have : l = (l.toNat : Int) := by omega
  rw [this]; exact (Int.natCast_emod _ _).symm
 have HLO : Hid (∀ W, Calls Tryz.prog 116 #[.agg #[.int .i64 n, .int .i64 l, .int .i64 g], .int .i64 (M : Int)] W fun e w' => e = .returned (.tuple #[.int .i64 (R : Int), .int .i64 0]) ∧ Gr W w') := Lib.hid fun W => by
  have h1 := logAt_any n l g M W
  have hb : (mayL n l g && (decide ((0 : Int) ≤ (M : Int)) && decide ((M : Int) < l))) = true := by
   rw [hm]
   simp
   omega
  rw [hb] at h1
  refine h1.mono ?_; rintro e w' ⟨rfl, hg⟩; exact ⟨by simp [only, err, hR], hg⟩
 have HLA : Hid (IntKind.u64.wrap l = l ∧ (k : Int).tmod l = (M : Int) ∧ IntKind.i64.wrap (M : Int) = (M : Int) ∧ (l == 0) = false ∧ ¬ l = 0) := Lib.hid ⟨by rw [IntKind.wrap_u64]; omega, hmi, IntWalk.i64_in _ (by omega), by simp; omega, by omega⟩; clear h hin hM hR hml hmi hm
 go_enter Tryz.func93, Tryz.ntmps93
 go_wp2_with fail; refine Flow.regionL (SlWPla p n l g ep tl la q m c rs bg b k M R) (Gr w) (fun _ _ => True) (by kernel_rfl) (by kernel_rfl) (fun _ _ _ _ h _ => h) ⟨rfl, rfl, rfl, Nat.le_refl _, fun _ _ => rfl⟩ ?steps ?fin
 case steps =>
  refine .cons (fun a W hfr hinv hdep K hK => ?_) ?_
  · have t0 := tAt (.pointer (some ⟨b, 0, none⟩)) (hfr.at 0 (by kernel_rfl)); refine fW0 rfl ?_; clear hfr hdep; go_simp; exact hK _ _ True.intro hinv (dsT (by trivial))
  refine .cons (fun a W hfr hinv hdep K hK => ?_) ?_
  · have t8 := tAt (.pointer (some ⟨b, 0, none⟩)) (hdep 8 (by kernel_rfl)); refine fW0 rfl ?_; clear hfr hdep; go_simp; exact hK _ _ True.intro hinv (dsT (by trivial))
  refine .cons (fun a W hfr hinv hdep K hK => ?_) ?_
  · have t9 := tAt (.pointer (some ⟨b, 0, none⟩)) (hdep 9 (by kernel_rfl)); refine fW0 rfl ?_; clear hfr hdep; go_simp; exact hK _ _ True.intro hinv (dsT (by trivial))
  refine .cons (fun a W hfr hinv hdep K hK => ?_) ?_
  · have t10 := tAt (.pointer (some ⟨b, 1, none⟩)) (hdep 10 (by kernel_rfl)); obtain ⟨c0, c1, c2, c3, c4, c5, c6, c7, c8, c9⟩ := (HB.out.gr hinv).c10; refine fW0 rfl ?_; clear hfr hdep; go_simp; exact hK _ _ True.intro hinv (dsT (by trivial))
  refine .cons (fun a W hfr hinv hdep K hK => ?_) ?_
  · have t1 := tAt (.int .u64 (k : Int)) (hfr.at 1 (by kernel_rfl)); refine fW0 rfl ?_; clear hfr hdep; go_simp; exact hK _ _ True.intro hinv (dsT (by trivial))
  refine .cons (fun a W hfr hinv hdep K hK => ?_) ?_
  · have t0 := tAt (.pointer (some ⟨b, 0, none⟩)) (hfr.at 0 (by kernel_rfl)); refine fW0 rfl ?_; clear hfr hdep; go_simp; exact hK _ _ True.intro hinv (dsT (by trivial))
  refine .cons (fun a W hfr hinv hdep K hK => ?_) ?_
  · have t13 := tAt (.pointer (some ⟨b, 0, none⟩)) (hdep 13 (by kernel_rfl)); refine fW0 rfl ?_; clear hfr hdep; go_simp; exact hK _ _ True.intro hinv (dsT (by trivial))
  refine .cons (fun a W hfr hinv hdep K hK => ?_) ?_
  · have t14 := tAt (.pointer (some ⟨b, 0, none⟩)) (hdep 14 (by kernel_rfl)); refine fW0 rfl ?_; clear hfr hdep; go_simp; exact hK _ _ True.intro hinv (dsT (by trivial))
  refine .cons (fun a W hfr hinv hdep K hK => ?_) ?_
  · have t15 := tAt (.pointer (some ⟨b, 1, none⟩)) (hdep 15 (by kernel_rfl)); refine fW0 rfl ?_; clear hfr hdep; go_simp; exact hK _ _ True.intro hinv (dsT (by trivial))
  refine .cons (fun a W hfr hinv hdep K hK => ?_) ?_
  · have t16 := tAt (.pointer (some ⟨b, 2, none⟩)) (hdep 16 (by kernel_rfl)); obtain ⟨c0, c1, c2, c3, c4, c5, c6, c7, c8, c9⟩ := (HB.out.gr hinv).c10; refine fW0 rfl ?_; clear hfr hdep; go_simp; exact hK _ _ True.intro hinv (dsT (by trivial))
  refine .cons (fun a W hfr hinv hdep K hK => ?_) ?_
  · have t17 := tAt (.int .i64 l) (hdep 17 (by kernel_rfl)); have hw := HLA.out.1; refine fW0 rfl ?_; clear hfr hdep; go_simp; exact hK _ _ True.intro hinv (dsT (by trivial))
  refine .cons (fun a W hfr hinv hdep K hK => ?_) ?_
  · have t12 := tAt (.int .u64 (k : Int)) (hdep 12 (by kernel_rfl)); have t18 := tAt (.int .u64 l) (hdep 18 (by kernel_rfl)); have hw := HLA.out.2.1; have hw2 := HLA.out.2.2.2.1; have hw3 := HLA.out.2.2.2.2; refine fW0 rfl ?_; clear hfr hdep; go_simp; exact hK _ _ True.intro hinv (dsT (by trivial))
  refine .cons (fun a W hfr hinv hdep K hK => ?_) ?_
  · have t19 := tAt (.int .u64 (M : Int)) (hdep 19 (by kernel_rfl)); have hw := HLA.out.2.2.1; refine fW0 rfl ?_; clear hfr hdep; go_simp; exact hK _ _ True.intro hinv (dsT (by trivial))
  refine .cons (fun a W hfr hinv hdep K hK => ?_) ?_
  · have t11 := tAt (.agg #[.int .i64 n, .int .i64 l, .int .i64 g]) (hdep 11 (by kernel_rfl)); have t20 := tAt (.int .i64 (M : Int)) (hdep 20 (by kernel_rfl)); refine fW0 rfl ?_; clear hfr hdep; go_simp; refine (HLO.out W).mono ?_; rintro e W' ⟨rfl, g1⟩; exact hK _ _ True.intro (Gr.trans hinv g1) (dsT (by trivial))
  refine .cons (fun a W hfr hinv hdep K hK => ?_) ?_
  · have t21 := tAt (.tuple #[.int .i64 (R : Int), .int .i64 0]) (hdep 21 (by kernel_rfl)); refine fW0 rfl ?_; clear hfr hdep; go_simp; exact hK _ _ True.intro hinv (dsT (by trivial))
  refine .cons (fun a W hfr hinv hdep K hK => ?_) ?_
  · have t7 := tAt (.tuple #[.int .i64 (R : Int), .int .i64 0]) (hdep 7 (by kernel_rfl)); refine fW0 rfl ?_; clear hfr hdep; go_simp; exact hK _ _ True.intro hinv (dsT (by trivial))
  refine .cons (fun a W hfr hinv hdep K hK => ?_) ?_
  · have t7 := tAt (.tuple #[.int .i64 (R : Int), .int .i64 0]) (hdep 7 (by kernel_rfl)); refine fW0 rfl ?_; clear hfr hdep; go_simp; exact hK _ _ True.intro hinv (dsT (by trivial))
  refine .cons (fun a W hfr hinv hdep K hK => ?_) ?_
  · have t22 := tAt (.int .i64 (R : Int)) (hdep 22 (by kernel_rfl)); refine fW0 rfl ?_; clear hfr hdep; go_simp; exact hK _ _ True.intro hinv (dsT (by trivial))
  refine .cons (fun a W hfr hinv hdep K hK => ?_) ?_
  · have t23 := tAt (.int .i64 0) (hdep 23 (by kernel_rfl)); refine fW0 rfl ?_; clear hfr hdep; go_simp; exact hK _ _ True.intro hinv (dsT (by trivial))
  exact True.intro
 case fin =>
  intro a W hfr hfin hsl
  have s5 : a.tmps.getD 5 undef = .int .i64 (R : Int) := hsl 17 _ 5 rfl rfl; have t5 := tmpAt s5; have s6 : a.tmps.getD 6 undef = .int .i64 0 := hsl 18 _ 6 rfl rfl; have t6 := tmpAt s6; have e := Flow.frame hfr [8, 9, 10, 11, 12, 13, 14, 15, 16, 17, 18, 19, 20, 21, 7, 22, 23, 5, 6] (List.range 25) (by kernel_rfl) (by kernel_rfl)
  simp [List.range, List.range.loop] at e
  rw [t5, t6] at e
  rw [e]; clear e hfr hsl s5 t5 s6 t6
  rename_i K2 hK2
  refine hK2 _ _ ?_; go_wp2_with fail
  go_ret
  exact ⟨rfl, hfin⟩
end Go.Proofs.YtbpgonmoepnnpaaGreat
namespace Go.Proofs.YtbpgonmoepnnpaaGreat
open Go.RowKit
open Extern.Stop (cell)
def Sx (xs : List Int) : Sec := if h : xs.length = 256 then ⟨xs.map fun x => UInt8.ofNat x.toNat, by rw [List.length_map, h]⟩ else Sec.zero
structure IsSec (xs : List Int) : Prop where
 len : xs.length = 256
 small : Wd.Small xs
theorem cell_of {x : Int} (h : 0 ≤ x ∧ x < 256) : cell (UInt8.ofNat x.toNat) = .int .u8 x := by
 obtain ⟨y, rfl⟩ := Int.eq_ofNat_of_zero_le h.1
 have : y % 256 = y := by omega
 simp [cell, UInt8.toNat_ofNat', this]
theorem Sx_bytes {xs : List Int} (h : xs.length = 256) : (Sx xs).bytes = xs.map fun x => UInt8.ofNat x.toNat := by simp [Sx, h]
theorem Sx_cells {xs : List Int} (h : IsSec xs) : (Sx xs).cells = xs.map (Value.int .u8) := by
 unfold Sec.cells
 rw [Sx_bytes h.len, List.map_map]
 apply List.map_congr_left
 intro x hx
 exact cell_of (h.small x hx)
theorem Sx_inj {xs ys : List Int} (h : IsSec xs) (k : IsSec ys) : Sx xs = Sx ys ↔ xs = ys := by
 constructor
 ·
  intro e
  have e1 : xs.map (Value.int .u8) = ys.map (Value.int .u8) := by rw [← Sx_cells h, ← Sx_cells k, e]
  have e2 := congrArg (List.map fun v : Value => match v with | .int _ x => x | _ => 0) e1
  simpa [List.map_map, Function.comp_def] using e2
 · intro e; rw [e]
theorem Sx_zero : Sx (List.replicate 256 0) = Sec.zero := by
 have h : (List.replicate 256 (0 : Int)).length = 256 := List.length_replicate ..
 apply Sec.ext
 rw [Sx_bytes h, List.map_replicate]
 rfl
theorem zeros_sec : IsSec (List.replicate 256 0) := ⟨List.length_replicate .., fun x h => by rw [List.mem_replicate] at h; omega⟩
theorem Blk.byt {w : World} {g : Nat} {xs : List Int} (h : Blk w g TS (sec (Sx xs))) (k : IsSec xs) : Byt w (some ⟨g, 0, none⟩) 256 256 xs :=
 ⟨k.len, Nat.le_refl _, by simp only [maxLen]; omega, fun _ => ⟨g, 0, rfl, fun i hi => by
  rw [Nat.zero_add, h.cell i]
  unfold sec
  rw [Sx_cells k]
  simp [List.getD, k.len, hi]⟩, (fun h => by cases h), k.small⟩
def lay (xs : List Int) (F : Nat) (ys : List Int) : List Int := xs.take F ++ (ys ++ xs.drop (F + ys.length))
theorem lay_sec {xs ys : List Int} {F : Nat} (h : IsSec xs) (k : Wd.Small ys) (hf : F + ys.length ≤ 256) : IsSec (lay xs F ys) :=
 ⟨by have := h.len; simp [lay]; omega, (h.small.take F).app (k.app (h.small.drop _))⟩
theorem lay_cells {xs ys : List Int} {F : Nat} (h : IsSec xs) (k : Wd.Small ys) (hf : F + ys.length ≤ 256) :
  ((sec (Sx xs)).toList.take F ++ (ys.map (Value.int .u8) ++ (sec (Sx xs)).toList.drop (F + (ys.map (Value.int .u8)).length))).toArray = sec (Sx (lay xs F ys)) := by
 rw [sec_list, Sx_cells h]
 unfold sec
 rw [Sx_cells (lay_sec h k hf)]
 simp [lay]
theorem bt4 : BT Tryz.prog 31 5 := ⟨Tryz.underlying31, by kernel_rfl⟩
theorem bt4_size : (Tryz.prog.info? 5).map (·.size) = some 1 := by kernel_rfl
theorem step_copy_sec {w : World} {ops : Array Oper} {o : Oper} {a : Act} {K : Act → World → Prop} {Q : Exit → Act → World → Prop} {E : Prop} (hgd : o.guard = none) (d s : Operand)
  (ho : o.op = .call { callee := .builtin .copy, args := #[d, s], argTypes := #[31, 31] }) {g F L C : Nat} {xs : List Int} (hd : a.eval d = .slice (some ⟨g, F, none⟩) L C) (hb : Blk w g TS (sec (Sx xs))) (hx : IsSec xs)
  {q : Option Addr} {m c : Nat} {ys : List Int} (hs : a.eval s = .slice q m c) (hy : Byt w q m c ys) (hm : 0 < m) (hL : m ≤ L) (hf : F + m ≤ 256)
  (h : K (a.put o.dst (goInt m)) (w.setRow g (sec (Sx (lay xs F ys))))) : if Region.wanted o (yielded ops a.tmps) = true then Oper.wp Tryz.prog o a w K Q else E := by
 have hw : Region.wanted o (yielded ops a.tmps) = true := by simp [Region.wanted, hgd]
 rw [if_pos hw]
 obtain ⟨b, of, rfl, _⟩ := hy.at hm
 have hl := hy.len; have hrun := run_copy_row (P := Tryz.prog) w 31 31 o.type 5 g F L C ⟨b, of, none⟩ m c (sec (Sx xs)) TS (ys.map (Value.int .u8)) bt4.us bt4_size hb (by rw [List.length_map, hl]; exact (Nat.min_eq_left hL).symm) hy.news (by rw [List.length_map, hl, sec_size]; exact hf) (u8s_oneCell _)
 rw [List.append_assoc, lay_cells hx hy.small (by rw [hl]; exact hf), List.length_map, hl] at hrun
 unfold Oper.wp
 simp only [execOp, ho, resolve, invoke, builtin, hd, hs]
 simp [hd, hs, hrun, Result.andThen]
 exact h
theorem wpList_load_x {ops : Array Oper} {rest : List Oper} {op : Oper} {a : Act} {w : World} {Q : Exit → Act → World → Prop} (hgd : op.guard = none) (x : Operand) (ho : op.op = .load TS x)
  {g : Nat} {s : Sec} (hb : Blk w g TS (sec s)) (hx : a.eval x = .pointer (some ⟨g, 0, none⟩))
  (h : wpList Tryz.prog ops Q rest (a.put op.dst (.agg (sec s))) w) : wpList Tryz.prog ops Q (op :: rest) a w :=
 wpList_load_row hgd TS x ho g hx TS (sec s) (0, 0) _ hb under_sec rfl (by rw [sec_size]; exact size_sec) h
theorem wpList_store_x {ops : Array Oper} {rest : List Oper} {op : Oper} {a : Act} {w : World} {Q : Exit → Act → World → Prop} (hgd : op.guard = none) (x y : Operand) (ho : op.op = .store TS x y)
  {g : Nat} {old s : Sec} (hb : Blk w g TS (sec old)) (hx : a.eval x = .pointer (some ⟨g, 0, none⟩)) (hy : a.eval y = .agg (sec s))
  (h : wpList Tryz.prog ops Q rest (a.put op.dst undef) (w.setRow g (sec s))) : wpList Tryz.prog ops Q (op :: rest) a w :=
 wpList_store_row hgd TS x y ho g (sec s) hx hy TS (sec old) hb (by rw [sec_size]; exact size_sec) (by rw [sec_size, sec_size]) (sec_one s) h
theorem results_x {fn : Func} {p : Tmp} (h : fn.results = #[.cell p TS]) (tmps : Array Value) (w : World) (g : Nat) (s : Sec)
  (hp : tmps.getD p undef = .pointer (some ⟨g, 0, none⟩)) (hb : Blk w g TS (sec s)) : (results fn tmps).run Tryz.prog w = .ok (.agg (sec s)) w :=
 results_cell_row h tmps w g TS (sec s) (0, 0) _ hp hb under_sec rfl (by rw [sec_size]; exact size_sec)
end Go.Proofs.YtbpgonmoepnnpaaGreat
namespace Go.Proofs.YtbpgonmoepnnpaaGreat
open Go.RowKit Cr
theorem btc : BT Tryz.prog 31 5 := ⟨Tryz.underlying31, by kernel_rfl⟩
theorem sz_table : (Tryz.prog.info? 179).map (·.size) = some 16 := by kernel_rfl
end Go.Proofs.YtbpgonmoepnnpaaGreat
namespace Go.Proofs.YtbpgonmoepnnpaaGreat
open Go.RowKit Cr
theorem nought_spell (s : W) : bits BinOp.xor IntKind.u32 (U s / 2) (bits BinOp.and IntKind.u32 (-bits BinOp.and IntKind.u32 (U s) 1 % 4294967296) 2197175160) = U (nought s) := by
 have h2 : (2197175160 : Int) = U poly := rfl; rw [U_bit, h2]
 show bits BinOp.xor IntKind.u32 (Int.ediv (U s) 2) _ = _
 rw [U_half]
 unfold nought
 cases s.getLsbD 0
 ·
  simp only [Bool.false_eq_true, if_false]
  rw [show (-(0 : Int) % 4294967296) = U 0#32 from rfl, U_and, U_xor, BitVec.zero_and]
 ·
  simp only [if_true]
  rw [show (-(1 : Int) % 4294967296) = U (~~~0#32) from rfl, U_and, U_xor, show (~~~0#32) = BitVec.allOnes 32 from rfl, BitVec.allOnes_and]
set_option maxRecDepth 100000 in
theorem nought_any (s : W) (w : World) : Calls Tryz.prog 150 #[.int .u32 (U s)] w fun e w' => e = .returned (.int .u32 (U (nought s))) ∧ w = w' := by
 have h0 := U_lo s; have h1 := U_hi s
 go_enter Tryz.func150, Tryz.ntmps150
 go_wp2
 go_ret
 exact ⟨ret_i (nought_spell s), rfl⟩
end Go.Proofs.YtbpgonmoepnnpaaGreat
namespace Go.Proofs.YtbpgonmoepnnpaaGreat
def tot (xss : List (List Int)) : Nat := xss.flatten.length
theorem flat_succ (xss : List (List Int)) (k : Nat) (h : k < xss.length) : (xss.take (k + 1)).flatten = (xss.take k).flatten ++ xss.getD k [] := by
 rw [List.take_succ_eq_append_getElem h, List.flatten_append]
 simp [List.getD, h]
theorem tot_le (xss : List (List Int)) (k : Nat) : tot (xss.take k) ≤ tot xss := by
 have h : xss.flatten = (xss.take k).flatten ++ (xss.drop k).flatten := by rw [← List.flatten_append, List.take_append_drop]
 unfold tot
 rw [h, List.length_append]; exact Nat.le_add_right _ _
theorem tot_succ (xss : List (List Int)) (k m : Nat) (h : k < xss.length) (hm : (xss.getD k []).length = m) : tot (xss.take (k + 1)) = tot (xss.take k) + m := by
 unfold tot
 rw [flat_succ xss k h, List.length_append, hm]
end Go.Proofs.YtbpgonmoepnnpaaGreat
namespace Go.Proofs.YtbpgonmoepnnpaaGreat
open Go.RowKit Cr
theorem words16_zero : words 16 (fun _ => 0#32) = #[.int .u32 0, .int .u32 0, .int .u32 0, .int .u32 0, .int .u32 0, .int .u32 0, .int .u32 0, .int .u32 0, .int .u32 0, .int .u32 0, .int .u32 0, .int .u32 0, .int .u32 0, .int .u32 0, .int .u32 0, .int .u32 0] := rfl
theorem tab_join (b i : Nat) (hb : b = 8 ∨ b = 4 ∨ b = 2 ∨ b = 1) (hi : i < 16) (hm : i % (2 * b) = 0) : tab i ^^^ tab b = tab (i + b) := by
 unfold tab
 rw [← its_xor, ← ofNat_xor]
 have : i ^^^ b = i + b := by
  have h : ∀ (i : Fin 16), (i.val % 16 = 0 → i.val ^^^ 8 = i.val + 8) ∧ (i.val % 8 = 0 → i.val ^^^ 4 = i.val + 4) ∧ (i.val % 4 = 0 → i.val ^^^ 2 = i.val + 2) ∧ (i.val % 2 = 0 → i.val ^^^ 1 = i.val + 1) := by decide
  have := h ⟨i, hi⟩
  rcases hb with rfl | rfl | rfl | rfl
  · exact this.1 hm
  · exact this.2.1 hm
  · exact this.2.2.1 hm
  · exact this.2.2.2 hm
 rw [this]
theorem tab_half (b : Nat) (hb : b = 8 ∨ b = 4 ∨ b = 2) : nought (tab b) = tab (b / 2) := by
 unfold tab
 rw [show nought (its 4 (BitVec.ofNat 32 b)) = its 4 (nought (BitVec.ofNat 32 b)) from its_comm 1 4 _]
 rcases hb with rfl | rfl | rfl <;> rfl
set_option maxRecDepth 100000 in
theorem halves_any (w : World) : Calls Tryz.prog 129 #[] w fun e w' => e = .returned (.agg (words 16 tab)) ∧ Gr w w' := by
 have hg0 := ((Gr.refl w).alloc (Nat.le_refl _) (.cells (words 16 fun _ => 0#32) 179)).alloc (by simp) (.cells (words 16 fun _ => 0#32) 179); have ha0 : Blk ((w.alloc (.cells (words 16 fun _ => 0#32) 179)).alloc (.cells (words 16 fun _ => 0#32) 179)) w.heap.size 179 (words 16 fun _ => 0#32) := (Blk.new w 179 (words 16 fun _ => 0#32)).alloc _
 have hb0 : Blk ((w.alloc (.cells (words 16 fun _ => 0#32) 179)).alloc (.cells (words 16 fun _ => 0#32) 179)) (w.heap.size + 1) 179 (words 16 fun _ => 0#32) := by
  have := Blk.new (w.alloc (.cells (words 16 fun _ => 0#32) 179)) 179 (words 16 fun _ => 0#32)
  simpa using this
 have HA0 := Lib.hid ha0; have HB0 := Lib.hid hb0; have HG0 := Lib.hid hg0; clear ha0 hb0 hg0
 have HS : Hid (∀ f, (Tryz.prog.info? 179).map (·.size) = some (words 16 f).size) := Lib.hid fun f => by rw [words_size]; exact sz_table
 go_enter Tryz.func129, Tryz.ntmps129
 go_wp2
 rw [← words16_zero]; have hb := HB0.out; have ha := HA0.out; have hg := HG0.out; clear HB0 HA0 HG0
 generalize ((w.alloc (.cells (words 16 fun _ => 0#32) 179)).alloc (.cells (words 16 fun _ => 0#32) 179)) = w0 at *
 have HA0 := Lib.hid ha; have HB0 := Lib.hid hb; have HG0 := Lib.hid hg; clear ha hb hg; have HP : (2197175160 : Int) = U (tab 8) := rfl; rw [HP]; clear HP
 go_loopw [2, 3] (fun v m wr => ∃ (b : Nat) (s : W) (f : Nat → W), (b = 8 ∨ b = 4 ∨ b = 2 ∨ b = 1 ∨ b = 0) ∧ m = .int .i64 b ∧ v = .int .u32 (U s) ∧ Blk wr (w.heap.size + 1) 179 (words 16 f) ∧ Blk wr w.heap.size 179 (words 16 fun _ => 0#32) ∧ Gr w wr ∧ (b ≠ 0 → s = tab b) ∧ (∀ j, j < 16 → (b = 0 ∨ j % (2 * b) = 0) → f j = tab j)) (fun _ m _ => (intOf m).toNat)
 case atStart =>
  refine ⟨8, tab 8, _, .inl rfl, rfl, rfl, HB0.out, HA0.out, HG0.out, fun _ => rfl, fun j hj h => ?_⟩
  obtain rfl : j = 0 := by omega
  rfl
 case round =>
  clear HA0 HB0 HG0; obtain ⟨b, s, f, hbs, rfl, rfl, hb, ha, hg, hs, hf⟩ := hrel
  by_cases h0 : b = 0
  ·
   subst h0; have HE := Lib.hid (words_congr (n := 16) (fun j hj => hf j hj (.inl rfl))); have HB := Lib.hid hb; have HA := Lib.hid ha; have HG := Lib.hid hg; clear hb ha hg hs hf hbs
   go_wp2_with (first | (refine wpList_load_row rfl 179 _ rfl _ rfl _ _ _ _ HB.out Tryz.underlying179 rfl (HS.out _) ?_) | (refine wpList_store_row rfl 179 _ _ rfl _ _ rfl rfl _ _ HA.out (HS.out _) (by rw [words_size, words_size]) (words_one _ _) ?_))
   exact bodyPost_ret (v := .agg (words 16 f)) (results_cell_row rfl _ _ _ _ _ _ _ rfl (HA.out.row (words 16 f)) Tryz.underlying179 rfl (HS.out _)) rfl ⟨by rw [HE.out], below_setRow HG.out (Nat.le_refl _) _⟩
  ·
   have hbs' : b = 8 ∨ b = 4 ∨ b = 2 ∨ b = 1 := by omega
   have hpos : 0 < b := by omega
   have hb8 : b ≤ 8 := by omega
   obtain rfl := hs h0; have HB := Lib.hid hb; have HA := Lib.hid ha; have HG := Lib.hid hg; have HF := Lib.hid hf; have HBS := Lib.hid hbs'; clear hb ha hg hs hf hbs hbs' h0
   go_wp2
   obtain ⟨wo, rfl⟩ : ∃ wo : World, wo = wr := ⟨_, rfl⟩
   go_loopw [4] (fun i wr => ∃ (k : Nat) (f : Nat → W), k ≤ 16 ∧ k % (2 * b) = 0 ∧ i = .int .i64 k ∧ Blk wr (w.heap.size + 1) 179 (words 16 f) ∧ Blk wr w.heap.size 179 (words 16 fun _ => 0#32) ∧ Gr w wr ∧ (∀ j, j < 16 → j % (2 * b) = 0 → f j = tab j) ∧ (∀ j, j < k → j % b = 0 → f j = tab j)) (fun i _ => 16 - (intOf i).toNat)
   case atStart => exact ⟨0, f, by omega, Nat.zero_mod _, rfl, HB.out, HA.out, HG.out, fun j hj h => HF.out j hj (.inr h), fun j h => by omega⟩
   case round =>
    clear HB HA HG HF; obtain ⟨k, f, hk, hkm, rfl, hb, ha, hg, hf, hf2⟩ := hrel; have HB := Lib.hid hb; have HA := Lib.hid ha; have HG := Lib.hid hg; have HF := Lib.hid hf; have HF2 := Lib.hid hf2; clear hb ha hg hf hf2
    by_cases hlt : k < 16
    ·
     have hkb : k + 2 * b ≤ 16 ∧ (k + 2 * b) % (2 * b) = 0 := by rcases HBS.out with rfl | rfl | rfl | rfl <;> omega
     obtain ⟨hk1, hk2⟩ := hkb; have HJ := Lib.hid (tab_join b k HBS.out hlt hkm); have HK : Hid (f k = tab k) := Lib.hid (HF.out k hlt hkm); have hc1 := (HB.out.cell k).trans (words_get f hlt); have hc2 := (HB.out.cell (k + b)).trans (words_get f (by omega)); have hfr := HB.out.frozen (k + b); have HM := Lib.hid hkm; have HM2 := Lib.hid hk2; clear hkm hk2; have HV := Lib.hid (U_xor (f k) (tab b))
     go_wp2
     go_roundw
     case rel =>
      refine ⟨k + 2 * b, put f (k + b) (tab (k + b)), hk1, HM2.out, by go_num, ?_, HA.out.far (by simp) _, HG.out.setCell (by simp) _, ?_, ?_⟩
      · rw [← words_put, ← HJ.out, ← HK.out, ← HV.out]; exact HB.out.set _ _
      ·
       intro j hj hm
       unfold put
       split
       · rename_i e; rw [e]
       · exact HF.out j hj hm
      ·
       intro j hj hm
       unfold put
       split
       · rename_i e; rw [e]
       ·
        rename_i e
        by_cases hjk : j < k
        · exact HF2.out j hjk hm
        ·
         have hjm : j % (2 * b) = 0 := by
          have h1 := HM.out
          rcases HBS.out with rfl | rfl | rfl | rfl <;> omega
         exact HF.out j (by omega) hjm
     case measure => simp [intOf]; omega
    ·
     obtain rfl : k = 16 := by omega
     have HM := Lib.hid hkm; clear hkm; go_wp2_with fail; refine (nought_any _ _).mono ?_; rintro e w' ⟨rfl, rfl⟩
     by_cases h1 : b = 1
     ·
      subst h1
      go_wp2
      go_roundw
      case rel => exact ⟨0, nought (tab 1), f, by omega, rfl, rfl, HB.out, HA.out, HG.out, fun h => absurd rfl h, fun j hj _ => HF2.out j hj (Nat.mod_one j)⟩
      case measure => simp [intOf]
     ·
      have HT := Lib.hid (tab_half b (by have := HBS.out; omega))
      have hb2 : b / 2 = 4 ∨ b / 2 = 2 ∨ b / 2 = 1 := by have := HBS.out; omega
      have hb22 : 2 * (b / 2) = b := by have := HBS.out; omega
      have HB2 := Lib.hid hb2; have HB22 := Lib.hid hb22; clear hb2 hb22
      go_wp2
      go_roundw
      case rel =>
       refine ⟨b / 2, nought (tab b), f, by have := HB2.out; omega, by go_num, rfl, HB.out, HA.out, HG.out, fun _ => HT.out, fun j hj h => HF2.out j hj ?_⟩; have h2 := HB22.out; have h3 := HB2.out
       rcases h with h | h
       · omega
       · rw [h2] at h; exact h
      case measure => simp [intOf]; omega
theorem enc_div (n k : Nat) : n / 256 ^ k / 256 = n / 256 ^ (k + 1) := by rw [Nat.pow_succ, Nat.div_div_eq_div_mul]
def overs (s : W) (xss : List (List Int)) : W := xss.foldl over s
theorem overs_flat : ∀ (xss : List (List Int)) (s : W), overs s xss = over s xss.flatten
 | [], _ => rfl
 | x :: r, s => by rw [List.flatten_cons, over_app, ← overs_flat r]; rfl
theorem overs_take (s : W) (xss : List (List Int)) (k : Nat) (h : k < xss.length) : overs s (xss.take (k + 1)) = over (overs s (xss.take k)) (xss.getD k []) := by
 rw [List.take_succ_eq_append_getElem h]
 unfold overs
 rw [List.foldl_append]
 simp [List.getD, h]
theorem and15w (s : W) : bits BinOp.and IntKind.u32 (U s) 15 = ((s.toNat % 16 : Nat) : Int) := by
 have h := u32_and_nat s.toNat 15 s.isLt (by omega); have e : s.toNat &&& 15 = s.toNat % 16 := Nat.and_two_pow_sub_one_eq_mod s.toNat 4
 rw [e] at h
 exact h
theorem half_spell (s : W) : bits BinOp.xor IntKind.u32 (U s / 16) (U (tab (s.toNat % 16))) = U (its 4 s) := by
 show bits BinOp.xor IntKind.u32 (Int.ediv (U s) 16) _ = _
 rw [U_half4, U_xor, half]
theorem byte_spell (s : W) (x : Int) (h0 : 0 ≤ x) (h1 : x < 4294967296) : bits BinOp.xor IntKind.u32 (U s) x = U (s ^^^ BitVec.ofNat 32 x.toNat) := by
 rw [← U_xor, U_of x h0 h1]
set_option maxRecDepth 100000 in
set_option maxHeartbeats 400000 in
theorem over_any (s : W) (p : Option Addr) (n c : Nat) (xss : List (List Int)) (w : World) (h : Rows w p n c xss) : Calls Tryz.prog 113 #[.int .u32 (U s), .slice p n c] w fun e w' => e = .returned (.int .u32 (U (overs s xss))) ∧ Gr w w' := by
 have HLen := Lib.hid h.len
 have hn63 : n ≤ 9223372036854775807 := by have := h.cap; have := h.most; unfold maxLen at this; omega
 have HH := Lib.hid h; clear h
 have HS : Hid (∀ f, (Tryz.prog.info? 179).map (·.size) = some (words 16 f).size) := Lib.hid fun f => by rw [words_size]; exact sz_table
 go_enter Tryz.func113, Tryz.ntmps113
 go_wp2_with fail; refine (halves_any _).mono ?_; rintro e w1 ⟨rfl, g1⟩; have ha := Blk.new w1 179 (words 16 fun _ => 0#32); have hg := g1.alloc g1.size (.cells (words 16 fun _ => 0#32) 179); have hg2 := below_setRow hg (show w.heap.size ≤ w1.heap.size from g1.size) (words 16 tab); have hb := ha.row (words 16 tab); have HC := Lib.hid (show (words 16 fun _ => 0#32).size = (words 16 tab).size by rw [words_size, words_size]); have hl := ha
 rw [words16_zero] at hl hg2 hb HC
 have HA := Lib.hid hl; have HB := Lib.hid hb; have HG := Lib.hid hg2; clear ha hg hl hg2 hb g1
 go_wp2_with (refine wpList_store_row rfl 179 _ _ rfl _ _ rfl rfl _ _ HA.out (HS.out _) HC.out (words_one _ _) ?_)
 have hb := HB.out; have hg := HG.out; clear HA HB HG HC
 rw [← words16_zero] at *
 obtain ⟨b, hbz⟩ : ∃ b, b = w1.heap.size := ⟨_, rfl⟩
 generalize (w1.alloc (.cells (words 16 fun _ => 0#32) 179)).setRow w1.heap.size (words 16 tab) = w0 at *
 rw [← hbz] at hb ⊢
 have HB := Lib.hid hb; have HG := Lib.hid hg; have HH0 := Lib.hid (HH.out.kept hg); clear hb hg hbz HH
 go_loop [0, 14] (fun v i => ∃ k : Nat, k ≤ n ∧ i = .int .i64 k ∧ v = .int .u32 (U (overs s (xss.take k)))) (fun _ i => n - (intOf i).toNat)
 case atStart => exact ⟨0, Nat.zero_le _, rfl, rfl⟩
 case round =>
  obtain ⟨k, hk, rfl, rfl⟩ := hrel
  by_cases hlt : k < n
  ·
   obtain ⟨bl, o, rfl, hc⟩ := HH0.out.lies (by omega); obtain ⟨q, m, d, hcell, hby⟩ := hc k hlt
   have hm63 : m ≤ 9223372036854775807 := by have := hby.cap; have := hby.most; unfold maxLen at this; omega
   have HO := Lib.hid (overs_take s xss k (by rw [HLen.out]; exact hlt))
   have HY := Lib.hid hby
   clear hc hby
   obtain ⟨ys, hys⟩ : ∃ ys, ys = xss.getD k [] := ⟨_, rfl⟩
   rw [← hys] at HO HY
   clear hys; obtain ⟨S, hS⟩ : ∃ S, S = overs s (xss.take k) := ⟨_, rfl⟩
   rw [← hS] at HO ⊢
   clear hS
   go_wp2
   go_loop [0, 20] (fun v i => ∃ j : Nat, j ≤ m ∧ i = .int .i64 j ∧ v = .int .u32 (U (over S (ys.take j)))) (fun _ i => m - (intOf i).toNat)
   case atStart => exact ⟨0, Nat.zero_le _, rfl, rfl⟩
   case round =>
    obtain ⟨j, hj, rfl, rfl⟩ := hrel
    by_cases hjl : j < m
    ·
     obtain ⟨b2, o2, rfl, hc2⟩ := HY.out.at (by omega)
     have hbyte := hc2 j hjl; obtain ⟨x0, x1⟩ := HY.out.small.getD j; have HP := Lib.hid (over_take S ys j (by rw [HY.out.len]; exact hjl)); clear hc2; obtain ⟨x, hx⟩ : ∃ x, x = ys.getD j 0 := ⟨_, rfl⟩
     rw [← hx] at HP hbyte x0 x1
     clear hx; obtain ⟨T, hT⟩ : ∃ T, T = over S (ys.take j) := ⟨_, rfl⟩
     rw [← hT] at HP ⊢
     clear hT; have HX := Lib.hid (byte_spell T x x0 (by omega))
     go_wp2
     rw [HX.out]
     go_loop [0, 28] (fun v i => ∃ r : Nat, r ≤ 2 ∧ i = .int .i64 r ∧ v = .int .u32 (U (its (4 * r) (T ^^^ BitVec.ofNat 32 x.toNat)))) (fun _ i => 2 - (intOf i).toNat)
     case atStart => exact ⟨0, Nat.zero_le _, rfl, rfl⟩
     case round =>
      obtain ⟨r, hr, rfl, rfl⟩ := hrel; obtain ⟨R, hR⟩ : ∃ R, R = its (4 * r) (T ^^^ BitVec.ofNat 32 x.toNat) := ⟨_, rfl⟩
      by_cases hrl : r < 2
      ·
       have HR : Hid (its 4 R = its (4 * (r + 1)) (T ^^^ BitVec.ofNat 32 x.toNat)) := Lib.hid (by rw [hR, ← its_add]; congr 1); rw [← hR]; clear hR; have hand := and15w R; have HV := Lib.hid (half_spell R); have hcl := (HB.out.cell (R.toNat % 16)).trans (words_get tab (by omega))
       have hql : R.toNat % 16 < 16 := by omega
       obtain ⟨h, hh⟩ : ∃ h, h = R.toNat % 16 := ⟨_, rfl⟩
       rw [← hh] at hand HV hcl hql
       clear hh
       go_wp2
       go_round
       case rel => exact ⟨r + 1, by omega, by go_num, ret_v (by rw [HV.out, HR.out])⟩
       case measure => simp [intOf]; omega
      ·
       obtain rfl : r = 2 := by omega
       have HE : Hid (over S (ys.take (j + 1)) = R) := Lib.hid (by rw [HP.out, byte_half, ← its_add]; exact hR.symm); rw [← hR]; clear hR
       go_wp2
       go_round
       case rel => exact ⟨j + 1, by omega, by go_num, ret_v (by rw [HE.out])⟩
       case measure => simp [intOf]; omega
    ·
     obtain rfl : j = m := by omega
     have HE : Hid (overs s (xss.take (k + 1)) = over S (ys.take j)) := Lib.hid (by rw [HO.out, List.take_of_length_le (by rw [HY.out.len]; exact Nat.le_refl _)])
     go_wp2
     go_round
     case rel => exact ⟨k + 1, by omega, by go_num, ret_v (by rw [HE.out])⟩
     case measure => simp [intOf]; omega
  ·
   obtain rfl : k = n := by omega
   have HE : Hid (overs s (xss.take k) = overs s xss) := Lib.hid (by rw [List.take_of_length_le (by rw [HLen.out]; exact Nat.le_refl _)])
   go_wp2
   go_ret
   exact ⟨ret_i (by rw [HE.out]), HG.out⟩
theorem enc_put (n k : Nat) (h : k < 8) : ((Wd.enc k n ++ List.replicate (8 - k) 0).map (Value.int .u8)).toArray.setIfInBounds k (.int .u8 ((n / 256 ^ k % 256 : Nat) : Int)) = ((Wd.enc (k + 1) n ++ List.replicate (8 - (k + 1)) 0).map (Value.int .u8)).toArray := by
 rw [List.setIfInBounds_toArray, Wd.enc_snoc, show 8 - k = (8 - (k + 1)) + 1 by omega, List.replicate_succ]
 congr 1
 have hl := Wd.enc_length k n
 simp only [List.map_append, List.map_cons, List.append_assoc, List.cons_append, List.nil_append]
 rw [List.set_append_right _ _ (by simp [hl])]
 simp [hl]
set_option maxRecDepth 100000 in
theorem eight_any (n : Nat) (w : World) (hn : n ≤ 18446744073709551615) : Calls Tryz.prog 114 #[.int .u64 n] w (RetByte (Wd.enc 8 n) w) := by
 have hb0 : Blk (w.alloc (.cells #[.int .u8 0, .int .u8 0, .int .u8 0, .int .u8 0, .int .u8 0, .int .u8 0, .int .u8 0, .int .u8 0] 181)) w.heap.size 181 ((Wd.enc 0 n ++ List.replicate 8 0).map (Value.int .u8)).toArray := Blk.new _ _ _; have hg0 := (Gr.refl w).alloc (Nat.le_refl _) (.cells #[.int .u8 0, .int .u8 0, .int .u8 0, .int .u8 0, .int .u8 0, .int .u8 0, .int .u8 0, .int .u8 0] 181); have HB0 := Lib.hid hb0; have HG0 := Lib.hid hg0; clear hb0 hg0
 go_enter Tryz.func114, Tryz.ntmps114
 go_wp2
 go_loopw [0, 5] (fun v i wr => ∃ k : Nat, k ≤ 8 ∧ i = .int .i64 k ∧ v = .int .u64 ((n / 256 ^ k : Nat) : Int) ∧ Blk wr w.heap.size 181 ((Wd.enc k n ++ List.replicate (8 - k) 0).map (Value.int .u8)).toArray ∧ Gr w wr) (fun _ i _ => 8 - (intOf i).toNat)
 case atStart => exact ⟨0, Nat.zero_le _, rfl, by simp, HB0.out, HG0.out⟩
 case round =>
  clear HB0 HG0; obtain ⟨k, hk, rfl, rfl, hb, hg⟩ := hrel; have HB := Lib.hid hb; have HG := Lib.hid hg; clear hb hg
  by_cases hlt : k < 8
  ·
   have HD := Lib.hid (enc_div n k); have HU := Lib.hid (enc_put n k hlt); have hl : Hid ((((Wd.enc k n ++ List.replicate (8 - k) 0).map (Value.int .u8)).toArray).size = 8) := Lib.hid (by simp [Wd.enc_length]; omega); obtain ⟨u, hu⟩ : ∃ u, ((Wd.enc k n ++ List.replicate (8 - k) 0).map (Value.int .u8)).toArray[k]? = some u := ⟨_, Array.getElem?_eq_getElem (by rw [hl.out]; exact hlt)⟩; have hcell := (HB.out.cell k).trans hu; have hfr := HB.out.frozen k; clear hu; have hmx : n / 256 ^ k ≤ 18446744073709551615 := Nat.le_trans (Nat.div_le_self _ _) hn; obtain ⟨m, hm⟩ : ∃ m, m = n / 256 ^ k := ⟨_, rfl⟩
   rw [← hm] at HD HU hmx ⊢
   clear hm
   go_wp2
   go_roundw
   case rel => exact ⟨k + 1, by omega, by go_num, by rw [← HD.out]; rfl, by rw [← HU.out]; exact HB.out.set _ _, HG.out.setCell (by simp) _⟩
   case measure => simp [intOf]; omega
  ·
   obtain rfl : k = 8 := by omega
   go_wp2
   go_ret
   refine ⟨_, _, _, rfl, ?_, HG.out, fun a h => by cases h; exact Nat.le_refl _⟩; refine ⟨Wd.enc_length 8 n, Nat.le_refl _, by simp only [maxLen]; omega, fun _ => ⟨_, 0, rfl, fun i hi => ?_⟩, (fun h => by cases h), Wd.enc_small 8 n⟩; rw [Nat.zero_add, HB.out.cell i]; have hl := Wd.enc_length 8 n
   simp [List.getD, hl, hi]
end Go.Proofs.YtbpgonmoepnnpaaGreat
namespace Go.Proofs.YtbpgonmoepnnpaaGreat
open Go.RowKit Cr
def ones : W := 4294967295#32
theorem U_ones : U ones = 4294967295 := rfl
def sumW (l : List Int) : W := ~~~(over ones l)
theorem not_spell (s : W) : bits BinOp.xor IntKind.u32 IntKind.u32.max (U s) = U (~~~s) := by
 rw [show IntKind.u32.max = U ones from rfl, U_xor, show ones = BitVec.allOnes 32 from rfl, BitVec.allOnes_xor]
theorem Rows.one {w W' : World} {t : TypeId} {p : Option Addr} {n c : Nat} {x : List Int} (h : Byt w p n c x) (hW : W'.heap = (w.alloc (.cells #[.slice p n c] t)).heap) : Rows W' (some ⟨w.heap.size, 0, none⟩) 1 1 [x] := by
 have hg := (Below.refl w.heap.size w).alloc (Nat.le_refl _) (.cells #[.slice p n c] t); have g1 := (h.kept hg).heap hW
 have hc : ∀ i, W'.cell? ⟨w.heap.size, i, none⟩ = (#[.slice p n c] : Array Value)[i]? := fun i => by
  rw [← World.cell?_alloc_at (w := w) #[.slice p n c] t w.heap.size i rfl]; exact World.cell?_of_block (w := w.alloc _) (by rw [hW])
 refine ⟨rfl, Nat.le_refl _, by simp only [maxLen]; omega, fun _ => ⟨_, 0, rfl, fun i hi => ?_⟩, fun h => by cases h⟩
 obtain rfl : i = 0 := by omega
 exact ⟨p, n, c, hc 0, g1⟩
theorem Rows.two {w W' : World} {t : TypeId} {p1 p2 : Option Addr} {n1 n2 c1 c2 : Nat} {x1 x2 : List Int} (h1 : Byt w p1 n1 c1 x1) (h2 : Byt w p2 n2 c2 x2) (hW : W'.heap = (w.alloc (.cells #[.slice p1 n1 c1, .slice p2 n2 c2] t)).heap) : Rows W' (some ⟨w.heap.size, 0, none⟩) 2 2 [x1, x2] := by
 have hg := (Below.refl w.heap.size w).alloc (Nat.le_refl _) (.cells #[.slice p1 n1 c1, .slice p2 n2 c2] t); have g1 := (h1.kept hg).heap hW; have g2 := (h2.kept hg).heap hW
 have hc : ∀ i, W'.cell? ⟨w.heap.size, i, none⟩ = (#[.slice p1 n1 c1, .slice p2 n2 c2] : Array Value)[i]? := fun i => by
  rw [← World.cell?_alloc_at (w := w) #[.slice p1 n1 c1, .slice p2 n2 c2] t w.heap.size i rfl]; exact World.cell?_of_block (w := w.alloc _) (by rw [hW])
 refine ⟨rfl, Nat.le_refl _, by simp only [maxLen]; omega, fun _ => ⟨_, 0, rfl, fun i hi => ?_⟩, fun h => by cases h⟩
 have : i = 0 ∨ i = 1 := by omega
 rcases this with rfl | rfl
 · exact ⟨p1, n1, c1, hc 0, g1⟩
 · exact ⟨p2, n2, c2, hc 1, g2⟩
set_option maxRecDepth 100000 in
theorem sum_any (p : Option Addr) (n c : Nat) (xss : List (List Int)) (w : World) (h : Rows w p n c xss) : Calls Tryz.prog 118 #[.slice p n c] w fun e w' => e = .returned (.int .u32 (U (sumW xss.flatten))) ∧ Gr w w' := by
 have HH := Lib.hid h; clear h; have hf : overs ones xss = over ones xss.flatten := overs_flat xss ones; have HF := Lib.hid hf; clear hf; have HO := over_any ones p n c xss
 rw [U_ones] at HO
 have HO := Lib.hid HO
 go_enter Tryz.func118, Tryz.ntmps118
 go_wp2_with fail; refine (HO.out _ HH.out).mono ?_; rintro e w1 ⟨rfl, g1⟩; have HG := Lib.hid g1; clear g1 HO
 go_wp2
 go_ret
 exact ⟨ret_i (by rw [HF.out]; exact not_spell _), HG.out⟩
set_option maxRecDepth 100000 in
theorem at_crc (m : Nat) (p : Option Addr) (n c : Nat) (xss : List (List Int)) (w : World) (hm : m ≤ 18446744073709551615) (h : Rows w p n c xss) : Calls Tryz.prog 91 #[.int .u64 m, .slice p n c] w fun e w' => e = .returned (.int .u32 (U (sumW (Wd.enc 8 m ++ xss.flatten)))) ∧ Gr w w' := by
 have HH := Lib.hid h; clear h
 have hf : overs (over ones (Wd.enc 8 m)) xss = over ones (Wd.enc 8 m ++ xss.flatten) := by rw [overs_flat, over_app]
 have HF := Lib.hid hf; clear hf
 have HO := fun q k d ys => over_any ones q k d ys
 rw [U_ones] at HO
 have HO := Lib.hid HO
 go_enter Tryz.func91, Tryz.ntmps91
 go_wp2_with fail; refine (eight_any _ _ hm).mono ?_; rintro e w1 ⟨p1, n1, c1, rfl, hb1, g1, _⟩; have HR := Lib.hid (Rows.one (t := 31) hb1 rfl); have HG := Lib.hid (g1.alloc g1.size (.cells #[.slice p1 n1 c1] 31)); clear hb1 g1; go_wp2_with fail; refine (HO.out _ _ _ _ _ HR.out).mono ?_; rintro e w2 ⟨rfl, g2⟩; have HG2 := Lib.hid (Gr.trans HG.out g2); have HH2 := Lib.hid (HH.out.kept HG2.out); clear g2 HG HR HO HH; go_wp2_with fail; refine (over_any _ _ _ _ _ _ HH2.out).mono ?_; rintro e w3 ⟨rfl, g3⟩; have HG3 := Lib.hid (HG2.out.trans g3); clear g3 HG2 HH2
 go_wp2
 go_ret
 exact ⟨ret_i (by have e : overs ones [Wd.enc 8 m] = over ones (Wd.enc 8 m) := rfl; rw [e, HF.out]; exact not_spell _), HG3.out⟩
end Go.Proofs.YtbpgonmoepnnpaaGreat
namespace Go.Proofs.YtbpgonmoepnnpaaGreat
open Go.RowKit Cr
def padTo (n : Nat) (ys : List Int) : List Int := ys ++ List.replicate (n - ys.length) 0
theorem padTo_len {n : Nat} {ys : List Int} (h : ys.length ≤ n) : (padTo n ys).length = n := by simp [padTo]; omega
theorem padTo_small {n : Nat} {ys : List Int} (h : Wd.Small ys) : Wd.Small (padTo n ys) := h.app fun x hx => by rw [List.mem_replicate] at hx; omega
theorem Blk.other {w : World} {g r : Nat} {t : TypeId} {cs cs' : Array Value} (h : Blk w g t cs) (hne : g ≠ r) : Blk (w.setRow r cs') g t cs := (setRow_other w r g cs' hne).trans h
end Go.Proofs.YtbpgonmoepnnpaaGreat
namespace Go.Proofs.YtbpgonmoepnnpaaGreat
open Go.RowKit
theorem div_rounds (n k : Nat) : n / 256 ^ k / 256 = n / 256 ^ (k + 1) := by rw [Nat.pow_succ, Nat.div_div_eq_div_mul]
theorem refGet_any (p : Option Addr) (n c : Nat) (xs : List Int) (w : World) (h : Byt w p n c xs) (h8 : n ≤ 8) : Calls Tryz.prog 100 #[.slice p n c] w fun e w' => e = .returned (.int .u64 (Wd.dec xs)) ∧ w = w' := by
 have hlen := h.len; have hsm := Lib.hid h.small
 rcases Nat.eq_zero_or_pos n with rfl | hn
 ·
  obtain rfl : xs = [] := List.eq_nil_of_length_eq_zero hlen
  go_enter Tryz.func100, Tryz.ntmps100
  go_wp2
  go_rounds 1
  go_ret
  exact ⟨rfl, rfl⟩
 ·
  obtain ⟨b, o, rfl, hc⟩ := h.at hn
  have Hlen := Lib.hid hlen; have Hc := Lib.hid hc; clear hc hlen h
  go_enter Tryz.func100, Tryz.ntmps100
  go_wp2
  go_loop [3, 4] (fun t i => ∃ k : Nat, k ≤ n ∧ i = .int .i64 k ∧ t = .int .u64 (Wd.dec (xs.drop k))) (fun _ i => (intOf i).toNat)
  case atStart => exact ⟨n, Nat.le_refl _, rfl, by rw [List.drop_eq_nil_of_le (by rw [Hlen.out]; exact Nat.le_refl _)]; rfl⟩
  case round =>
   obtain ⟨k, hk, rfl, rfl⟩ := hrel
   by_cases hlt : 0 < k
   ·
    obtain ⟨j, rfl⟩ : ∃ j, k = j + 1 := ⟨k - 1, by omega⟩; have hcell : w.cell? ⟨b, o + j, none⟩ = some (.int .u8 (xs.getD j 0)) := Hc.out j (by omega); have hs := hsm.out.getD j; have hst := Wd.dec_drop xs j (by rw [Hlen.out]; omega)
    have hlt2 : Wd.dec (xs.drop (j + 1)) < 72057594037927936 := by
     have h1 := Wd.dec_lt _ (hsm.out.drop (j + 1))
     have h2 : (xs.drop (j + 1)).length ≤ 7 := by rw [List.length_drop, Hlen.out]; omega
     have h3 := Wd.pow_lt _ h2
     omega
    generalize hx : xs.getD j 0 = x at *
    generalize hy : Wd.dec (xs.drop (j + 1)) = y at *
    have Hst := Lib.hid hst; clear hst hx hy; obtain ⟨X, rfl⟩ := Int.eq_ofNat_of_zero_le hs.1; have hs2 : (X : Int) < 256 := hs.2; clear hs
    go_wp2
    go_round
    case rel => exact ⟨j, by omega, by go_num, congrArg (Value.int .u64) (by rw [Hst.out]; simp; omega)⟩
    case measure => simp [intOf]
   ·
    obtain rfl : k = 0 := by omega
    go_wp2
    go_ret
    exact ⟨rfl, rfl⟩
end Go.Proofs.YtbpgonmoepnnpaaGreat
namespace Go.Proofs.YtbpgonmoepnnpaaGreat
open Go.RowKit
set_option maxHeartbeats 400000 in
theorem refPut_any (n k : Nat) (w : World) (hn : n ≤ 18446744073709551615) (hk : k ≤ 8) : Calls Tryz.prog 96 #[.int .u64 n, .int .i64 k] w (RetByte (Wd.enc k n) w) := by
 go_enter Tryz.func96, Tryz.ntmps96
 go_wp2
 go_loopw [0, 5] (fun t v wr => ∃ (j : Nat) (p : Option Addr) (c : Nat), j ≤ k ∧ t = .int .u64 ((n / 256 ^ j : Nat) : Int) ∧ v = .slice p j c ∧ Hid (OwnB wr w.heap.size 5 (.slice p j c) (Wd.enc j n)) ∧ Hid (Below w.heap.size w wr))
  (fun _ v _ => k - lenOf v)
 case atStart => exact ⟨0, none, 0, Nat.zero_le _, by simp, rfl, OwnB.nil _ _ _, Below.refl _ _⟩
 case round =>
  obtain ⟨j, p, c, hj, rfl, rfl, ho, hb⟩ := hrel; have hd := Lib.hid (div_rounds n j); have hmx : n / 256 ^ j ≤ 18446744073709551615 := Nat.le_trans (Nat.div_le_self _ _) hn; have hsn := Lib.hid (Wd.enc_snoc j n); have hl := Lib.hid (Wd.enc_length j n); have hbs := hb.out.size
  generalize hm : n / 256 ^ j = m at *
  have HM := Lib.hid hm; clear hm
  by_cases hlt : j < k
  ·
   go_wp2_with (at_builtin; refine wpList_app_byt bt rfl (.tmp 10) (.tmp 14) rfl w.heap.size _ _ rfl (ho.out.alloc _) (some ⟨wr.heap.size, 0, none⟩) 1 1 [((m % 256 : Nat) : Int)] rfl ?h1 ?h2 ?h3 ?_)
   case h1 => simpa using Byt.one wr ((m % 256 : Nat) : Int) 5 (by omega)
   case h2 => rw [hl.out]; omega
   case h3 => simp; omega
   intro v' w' own grow
   have HO := Lib.hid (own.as (ys := Wd.enc (j + 1) n) (by rw [hsn.out]; simp)); have HB : Hid (Below w.heap.size w w') := Below.app (hb.out.alloc hbs _) (by simp; omega) (ho.out.alloc _) grow; obtain ⟨p', c', hv⟩ := HO.out.shape (j + 1) (Wd.enc_length _ _); subst hv; clear own grow
   go_wp2
   go_roundw
   case rel => exact ⟨j + 1, p', c', by omega, by rw [← hd.out]; rfl, rfl, HO, HB⟩
   case measure => simp [lenOf]; omega
  ·
   obtain rfl : j = k := by omega
   go_wp2
   go_ret
   exact RetByte.of_own ho.out hb.out
end Go.Proofs.YtbpgonmoepnnpaaGreat
namespace Go.Proofs.YtbpgonmoepnnpaaGreat
open Go.RowKit
theorem map_u8_inj : ∀ (a b : List Int), Wd.Small a → Wd.Small b → (a.map fun n => UInt8.ofNat n.toNat) = (b.map fun n => UInt8.ofNat n.toNat) → a = b
 | [], [], _, _, _ => rfl
 | [], _ :: _, _, _, h => by simp at h
 | _ :: _, [], _, _, h => by simp at h
 | x :: r, y :: s, hx, hy, h => by
  simp only [List.map_cons, List.cons.injEq] at h
  have h1 := hx.head; have h2 := hy.head; have e := congrArg UInt8.toNat h.1
  simp only [UInt8.toNat_ofNat'] at e
  rw [map_u8_inj r s hx.tail hy.tail h.2]
  congr 1
  omega
theorem strOfNums_inj {a b : List Int} (ha : Wd.Small a) (hb : Wd.Small b) : (strOfNums a).toList = (strOfNums b).toList ↔ a = b := by
 constructor
 ·
  intro h
  rw [Lib.strOfNums_toList, Lib.strOfNums_toList] at h
  exact map_u8_inj a b ha hb h
 ·
  rintro rfl
  rfl
theorem wireSame_any (p q : Option Addr) (n c m d : Nat) (xs ys : List Int) (w : World) (h : Byt w p n c xs) (k : Byt w q m d ys) : Calls Tryz.prog 126 #[.slice p n c, .slice q m d] w fun e w' => e = .returned (.bool (decide (xs = ys))) ∧ w = w' := by
 have hc1 := h.lies.convert h.len c 31 5 9 Tryz.underlying31 Tryz.underlying5 Tryz.underlying9; have hc2 := k.lies.convert k.len d 31 5 9 Tryz.underlying31 Tryz.underlying5 Tryz.underlying9; have he : Hid ((strOfNums xs).toList = (strOfNums ys).toList ↔ xs = ys) := strOfNums_inj h.small k.small; clear h k; obtain ⟨r, hr⟩ : ∃ r, r = strOfNums xs := ⟨_, rfl⟩; obtain ⟨s, hs⟩ : ∃ s, s = strOfNums ys := ⟨_, rfl⟩
 rw [← hr] at hc1 he
 rw [← hs] at hc2 he
 clear hr hs
 go_enter Tryz.func126, Tryz.ntmps126
 go_wp2
 go_ret
 refine ⟨ret_b ?_, rfl⟩
 show (r.toList == s.toList) = decide (xs = ys)
 rw [Bool.eq_iff_iff, beq_iff_eq, decide_eq_true_eq]; exact he.out
end Go.Proofs.YtbpgonmoepnnpaaGreat
namespace Go.Proofs.YtbpgonmoepnnpaaGreat
open Go.RowKit
def Grown0 (tB : Nat) (w : World) (e : Ending) (w' : World) : Prop := ∃ v, e = .returned v ∧ OwnB w' w.heap.size tB v [] ∧ Gr w w'
set_option maxHeartbeats 400000 in
theorem grow_any (n : Nat) (w : World) (hbig : n ≤ 140737488355328) : Calls Tryz.prog 130 #[.slice none 0 0, .int .i64 n] w (Grown0 5 w) := by
 rcases Nat.eq_zero_or_pos n with rfl | hn
 ·
  go_enter Tryz.func130, Tryz.ntmps130
  go_wp2
  go_ret
  exact ⟨_, rfl, OwnB.nil _ _ _, Gr.refl _⟩
 ·
  obtain ⟨i0, hi, hz0, hz1, hz2⟩ := info_parts bt.info
  have hrz : ∀ ty, (Builtin.append_ #[31, 3] ty #[.slice none 0 0, .int .i64 (n : Int)]).run Tryz.prog w =
    .ok (.slice (some ⟨w.heap.size, 0, none⟩) n (grownCap w n 0 5)) (w.drew.alloc (.cells (#[] ++ Builtin.zeroCells (Value.int .u8 0).cells n ++ Builtin.zeroCells (Value.int .u8 0).cells (grownCap w n 0 5 - n)) 5)) := fun ty => by
   have h := Lib.run_append_grow_zeros (P := Tryz.prog) w 31 3 ty 5 i0 (.int .u8 0) .i64 .i64 Tryz.underlying31 Tryz.underlying3 hi hz0 none 0 0 [] (by rw [hz1]; exact run_firstCells_none w.drew 1 0 0 0) n hn (by omega) (by omega) (by omega)
    (by rw [hz2]; omega) (by rw [hz2]; exact growslice_fits (by omega) (by omega))
   simpa using h
  have hGn : n ≤ grownCap w n 0 5 := grownCap_ge w _ _ _; have hG63 : grownCap w n 0 5 ≤ maxLen := grownCap_le_maxLen w n 0 5 (by unfold maxLen; omega); obtain ⟨G, hG⟩ : ∃ G, G = grownCap w n 0 5 := ⟨_, rfl⟩
  rw [← hG] at hrz hGn hG63
  clear hG hi hz0 hz1 hz2; have HG := Lib.hid hG63
  have hG63' : G ≤ 9223372036854775807 := by unfold maxLen at hG63; omega
  clear hG63; obtain ⟨C, hC⟩ : ∃ C, C = #[] ++ Builtin.zeroCells (Value.int .u8 0).cells n ++ Builtin.zeroCells (Value.int .u8 0).cells (G - n) := ⟨_, rfl⟩
  have hCs : Hid (C.size = G * 1) := by
   show _ = _
   rw [hC]
   simp only [Array.size_append, size_zeroCells, Array.size_empty, Value.cells]
   simp
   omega
  rw [← hC] at hrz
  clear hC
  go_enter Tryz.func130, Tryz.ntmps130
  go_wp2_with (at_builtin; refine Lib.wpList_append_run _ rfl _ _ _ _ rfl _ _ rfl rfl _ _ (hrz _) ?_)
  go_ret
  refine ⟨_, rfl, ⟨?_, fun _ h => by cases h⟩, ?_⟩
  · exact World.ownsRow_made (w := w.drew) C G (Nat.le_refl _) HG.out hCs.out
  · exact (Below.refl _ _).drew.alloc (Nat.le_refl _) _
set_option maxHeartbeats 800000 in
theorem concat_any (p : Option Addr) (n c : Nat) (xss : List (List Int)) (w : World) (h : Rows w p n c xss) (hbig : tot xss ≤ 140737488355328) : Calls Tryz.prog 115 #[.slice p n c] w (RetByte xss.flatten w) := by
 have HLen := Lib.hid h.len
 have hn63 : n ≤ 9223372036854775807 := by have := h.cap; have := h.most; unfold maxLen at this; omega
 have HH := Lib.hid h; have Hbig := Lib.hid hbig; clear h hbig
 go_enter Tryz.func115, Tryz.ntmps115
 go_wp2
 go_loop [3, 11] (fun t i => ∃ k : Nat, k ≤ n ∧ i = .int .i64 k ∧ t = .int .i64 (tot (xss.take k) : Nat)) (fun _ i => n - (intOf i).toNat)
 case atStart => exact ⟨0, Nat.zero_le _, rfl, rfl⟩
 case round =>
  obtain ⟨k, hk, rfl, rfl⟩ := hrel; have hle := tot_le xss k; have hb2 := Hbig.out
  by_cases hlt : k < n
  ·
   obtain ⟨b, o, rfl, hc⟩ := HH.out.lies (by omega); obtain ⟨q, m, d, hcell, hby⟩ := hc k hlt; have hle2 := tot_le xss (k + 1); have hL := tot_succ xss k m (by rw [HLen.out]; exact hlt) hby.len; have HL := Lib.hid hL
   have hSm : tot (xss.take k) + m ≤ 140737488355328 := by omega
   clear hL hle2 hc hby hb2 hle
   go_wp2
   go_round
   case rel => exact ⟨k + 1, by omega, by go_num, congrArg (Value.int .i64) (by rw [HL.out]; rfl)⟩
   case measure => simp [intOf]; omega
  ·
   obtain rfl : k = n := by omega
   have hall : xss.take k = xss := List.take_of_length_le (by rw [HLen.out]; exact Nat.le_refl _); rw [hall]; clear hall hle; go_wp2_with fail; refine (grow_any _ _ hb2).mono ?_; rintro e w1 ⟨v, rfl, own, gr⟩; have HO := Lib.hid own; have HB := Lib.hid gr; clear own gr hb2
   go_wp2
   go_loopw [6, 27] (fun v i wr => ∃ j : Nat, j ≤ k ∧ i = .int .i64 j ∧ Hid (OwnB wr w.heap.size 5 v (xss.take j).flatten) ∧ Hid (Below w.heap.size w wr)) (fun _ i _ => k - (intOf i).toNat)
   case atStart => exact ⟨0, Nat.zero_le _, rfl, HO, HB⟩
   case round =>
    obtain ⟨j, hj, rfl, ho, hb⟩ := hrel; have hbs := hb.out.size
    by_cases hlt : j < k
    ·
     obtain ⟨b, o, rfl, hc⟩ := (HH.out.kept hb.out).lies (by omega); obtain ⟨q, m, d, hcell, hby⟩ := hc j hlt; have hfs := Lib.hid (flat_succ xss j (by rw [HLen.out]; exact hlt))
     have hsz : Hid ((xss.take j).flatten.length + m ≤ 140737488355328) := by
      have h1 := tot_le xss (j + 1)
      rw [tot_succ xss j m (by rw [HLen.out]; exact hlt) hby.len] at h1
      exact Nat.le_trans h1 Hbig.out
     have HBY := Lib.hid hby
     clear hby hc
     go_wp2_with (at_builtin; refine wpList_app_byt bt rfl (.tmp 31) (.tmp 32) rfl w.heap.size _ _ rfl ho.out q m d _ rfl HBY.out hsz.out hbs ?_)
     intro v' w' own grow
     have HO2 := Lib.hid (own.as hfs.out.symm); have HB2 : Hid (Below w.heap.size w w') := Below.app hb.out hbs ho.out grow; clear own grow
     go_wp2
     go_roundw
     case rel => exact ⟨j + 1, by omega, by go_num, HO2, HB2⟩
     case measure => simp [intOf]; omega
    ·
     obtain rfl : j = k := by omega
     have hall : xss.take j = xss := List.take_of_length_le (by rw [HLen.out]; exact Nat.le_refl _); have ho2 := ho.out
     rw [hall] at ho2
     obtain ⟨q, d, hv⟩ := ho2.shape (tot xss) rfl; subst hv; have HO2 := Lib.hid ho2; clear ho2 hall
     go_wp2
     go_ret
     exact RetByte.of_own HO2.out hb.out
theorem join_any (p : Option Addr) (n c : Nat) (xss : List (List Int)) (w : World) (h : Rows w p n c xss) (hbig : tot xss ≤ 140737488355328) : Calls Tryz.prog 92 #[.slice p n c] w (RetByte xss.flatten w) := by
 go_enter Tryz.func92, Tryz.ntmps92
 go_wp2_with fail; refine (concat_any _ _ _ _ _ h hbig).mono ?_; rintro e w' ⟨q, m, d, rfl, hby, hg, hf⟩
 go_wp2
 go_ret
 exact ⟨q, m, d, rfl, hby, hg, hf⟩
end Go.Proofs.YtbpgonmoepnnpaaGreat
