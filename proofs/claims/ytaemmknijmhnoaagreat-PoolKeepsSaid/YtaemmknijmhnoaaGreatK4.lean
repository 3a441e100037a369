/-
  Texts, put together: Flow FlowBy Disk4 FlowZ.
-/
import Derived.Orders
import Derived.RegionTactic
import Derived.Deep.DeepCutAuto
import Derived.Deep.CutBlock
import Derived.Outline
import Derived.Test.YtaemmknijmhnoaaGreatK3
set_option linter.unusedVariables false
set_option linter.unusedSimpArgs false
/-
  A region that draws its order, told slot by slot: what each operation leaves in its slot is said once, in words that stay true as the world grows; then no order is gone through at all. Over whatever program.
-/
namespace Go.Proofs.YtaemmknijmhnoaaGreat
namespace Flow
open Go

section
variable {P : Program} {ops : Array Oper} {Q : Exit → Act → World → Prop} {md : Region.Mode}

/-- How many operations have not come up. -/
def left (listed : Array Bool) : Nat → Nat
  | 0 => 0
  | n + 1 => left listed n + (if listed.getD n true = true then 0 else 1)

theorem left_zero {listed : Array Bool} : ∀ {n : Nat}, left listed n = 0 → ∀ i, i < n → listed.getD i true = true
  | 0, _, _, h => absurd h (Nat.not_lt_zero _)
  | n + 1, h, i, hi => by
    simp only [left] at h
    by_cases hn : listed.getD n true = true
    · rw [if_pos hn] at h
      by_cases e : i = n
      · subst e; exact hn
      · exact left_zero (n := n) (by omega) i (by omega)
    · rw [if_neg hn] at h; omega
theorem left_same {listed : Array Bool} {i : Nat} : ∀ {n : Nat}, n ≤ i → left (listed.setIfInBounds i true) n = left listed n
  | 0, _ => rfl
  | n + 1, h => by
    simp only [left]
    rw [left_same (n := n) (by omega), getD_set_ne true (by omega)]
theorem left_less {listed : Array Bool} {i : Nat} (hi : listed.getD i true = false) : ∀ {n : Nat}, i < n → left (listed.setIfInBounds i true) n + 1 = left listed n
  | 0, h => absurd h (Nat.not_lt_zero _)
  | n + 1, h => by
    simp only [left]
    by_cases e : i = n
    · subst e
      have hs : i < listed.size := by
        rcases Nat.lt_or_ge i listed.size with h' | h'
        · exact h'
        · simp [Array.getElem?_eq_none h'] at hi
      rw [left_same (Nat.le_refl _), hi]
      have : (listed.setIfInBounds i true).getD i true = true := by simp [hs]
      rw [if_pos this, if_neg (by simp)]
    · rw [getD_set_ne true e, ← left_less hi (n := n) (by omega)]
      omega

/-- Which slots an operation waits for. -/
def needs (md : Region.Mode) (ops : Array Oper) (o : Oper) : List Nat := (o.after.toList.filter fun e => Region.binds md e).filterMap fun e => (ops[e.on]?).bind (·.dst)

/-- The frame, but for the region's own slots, is as it was. -/
structure Same (ops : Array Oper) (a0 a : Act) : Prop where
  defers : a.defers = a0.defers
  size : a.tmps.size = a0.tmps.size
  old : ∀ d, (∀ (i : Nat) (o : Oper), ops[i]? = some o → o.dst ≠ some d) → a.tmps.getD d undef = a0.tmps.getD d undef

theorem Same.at {a0 a : Act} (h : Same ops a0 a) (d : Nat) (hd : (ops.all fun o => o.dst != some d) = true) {v : Value} (hv : a0.tmps.getD d undef = v := by rfl) : a.tmps.getD d undef = v := by
  rw [h.old d fun i o ho => by
    have := Array.all_eq_true_iff_forall_mem.1 hd o (Array.mem_of_getElem? ho)
    simpa using this]
  exact hv

/-- One operation: what its slot holds behind it, wherever it comes up. -/
def Step (P : Program) (md : Region.Mode) (ops : Array Oper) (Q : Exit → Act → World → Prop) (Sl : Nat → Value → World → Prop) (Inv : World → Prop) (G : World → World → Prop) (a0 : Act) (o : Oper) : Prop :=
  ∀ a w, Same ops a0 a → Inv w → (∀ d, (needs md ops o).contains d = true → Sl d (a.tmps.getD d undef) w) →
    ∀ K : Act → World → Prop, (∀ v w', G w w' → Inv w' → (∀ d, o.dst = some d → Sl d v w') → K (a.put o.dst v) w') →
      if Region.wanted o (yielded ops a.tmps) = true then o.wp P a w K Q else K (a.put o.dst undef) w

/-- Each of them. -/
def Steps (P : Program) (md : Region.Mode) (ops : Array Oper) (Q : Exit → Act → World → Prop) (Sl : Nat → Value → World → Prop) (Inv : World → Prop) (G : World → World → Prop) (a0 : Act) : List Oper → Prop
  | [] => True
  | o :: r => Step P md ops Q Sl Inv G a0 o ∧ Steps P md ops Q Sl Inv G a0 r
theorem Steps.cons {Sl : Nat → Value → World → Prop} {Inv : World → Prop} {G : World → World → Prop} {a0 : Act} {o : Oper} {r : List Oper} (h : Step P md ops Q Sl Inv G a0 o) (k : Steps P md ops Q Sl Inv G a0 r) : Steps P md ops Q Sl Inv G a0 (o :: r) := ⟨h, k⟩
theorem Steps.at {Sl : Nat → Value → World → Prop} {Inv : World → Prop} {G : World → World → Prop} {a0 : Act} : ∀ {l : List Oper}, Steps P md ops Q Sl Inv G a0 l → ∀ o ∈ l, Step P md ops Q Sl Inv G a0 o
  | [], _, _, h => by cases h
  | x :: r, h, o, ho => by
    rcases List.mem_cons.1 ho with rfl | ho
    · exact h.1
    · exact Steps.at h.2 o ho

/-- The side conditions, for the kernel: each edge goes back; no two operations have one slot; each slot is in the frame. -/
def fine (n : Nat) (ops : Array Oper) : Bool :=
  ((List.range ops.size).all fun i => match ops[i]? with
    | some o => o.after.all (fun e => decide (e.on < i)) && (match o.dst with
      | some d => decide (d < n) && (List.range i).all fun j => match ops[j]? with
        | some o' => o'.dst != some d
        | none => true
      | none => true)
    | none => true)

theorem fine_down {n : Nat} (h : fine n ops = true) {i : Nat} {o : Oper} (ho : ops[i]? = some o) : ∀ e ∈ o.after, e.on < i := by
  have hi : i < ops.size := (Array.getElem?_eq_some_iff.1 ho).1
  have := List.all_eq_true.1 h i (List.mem_range.2 hi)
  simp only [ho, Bool.and_eq_true] at this
  intro e he
  exact of_decide_eq_true (Array.all_eq_true_iff_forall_mem.1 this.1 e he)
theorem fine_slot {n : Nat} (h : fine n ops = true) {i : Nat} {o : Oper} (ho : ops[i]? = some o) {d : Nat} (hd : o.dst = some d) : d < n ∧ ∀ j o', j < i → ops[j]? = some o' → o'.dst ≠ some d := by
  have hi : i < ops.size := (Array.getElem?_eq_some_iff.1 ho).1
  have := List.all_eq_true.1 h i (List.mem_range.2 hi)
  simp only [ho, hd, Bool.and_eq_true, decide_eq_true_eq] at this
  refine ⟨this.2.1, fun j o' hj ho' => ?_⟩
  have h2 := List.all_eq_true.1 this.2.2 j (List.mem_range.2 hj)
  simp only [ho'] at h2
  simpa using h2
theorem fine_one {n : Nat} (h : fine n ops = true) {i j : Nat} {o o' : Oper} (ho : ops[i]? = some o) (ho' : ops[j]? = some o') {d : Nat} (hd : o.dst = some d) (hd' : o'.dst = some d) : i = j := by
  rcases Nat.lt_trichotomy i j with hlt | heq | hgt
  · exact absurd hd ((fine_slot h ho' hd').2 i o hlt ho)
  · exact heq
  · exact absurd hd' ((fine_slot h ho hd).2 j o' hgt ho')

/-- The same, of the edges that bind alone. -/
def fineB (md : Region.Mode) (n : Nat) (ops : Array Oper) : Bool :=
  ((List.range ops.size).all fun i => match ops[i]? with
    | some o => o.after.all (fun e => !Region.binds md e || decide (e.on < i)) && (match o.dst with
      | some d => decide (d < n) && (List.range i).all fun j => match ops[j]? with
        | some o' => o'.dst != some d
        | none => true
      | none => true)
    | none => true)
theorem fineB_down {n : Nat} (h : fineB md n ops = true) {i : Nat} {o : Oper} (ho : ops[i]? = some o) : ∀ e ∈ o.after, Region.binds md e = true → e.on < i := by
  have hi : i < ops.size := (Array.getElem?_eq_some_iff.1 ho).1
  have := List.all_eq_true.1 h i (List.mem_range.2 hi)
  simp only [ho, Bool.and_eq_true] at this
  intro e he hb
  have h2 := Array.all_eq_true_iff_forall_mem.1 this.1 e he
  rw [hb] at h2
  exact of_decide_eq_true (by simpa using h2)
theorem fineB_slot {n : Nat} (h : fineB md n ops = true) {i : Nat} {o : Oper} (ho : ops[i]? = some o) {d : Nat} (hd : o.dst = some d) : d < n ∧ ∀ j o', j < i → ops[j]? = some o' → o'.dst ≠ some d := by
  have hi : i < ops.size := (Array.getElem?_eq_some_iff.1 ho).1
  have := List.all_eq_true.1 h i (List.mem_range.2 hi)
  simp only [ho, hd, Bool.and_eq_true, decide_eq_true_eq] at this
  refine ⟨this.2.1, fun j o' hj ho' => ?_⟩
  have h2 := List.all_eq_true.1 this.2.2 j (List.mem_range.2 hj)
  simp only [ho'] at h2
  simpa using h2
theorem fineB_one {n : Nat} (h : fineB md n ops = true) {i j : Nat} {o o' : Oper} (ho : ops[i]? = some o) (ho' : ops[j]? = some o') {d : Nat} (hd : o.dst = some d) (hd' : o'.dst = some d) : i = j := by
  rcases Nat.lt_trichotomy i j with hlt | heq | hgt
  · exact absurd hd ((fineB_slot h ho' hd').2 i o hlt ho)
  · exact heq
  · exact absurd hd' ((fineB_slot h ho hd).2 j o' hgt ho')

theorem getD_put_same {a : Act} {d : Nat} {v : Value} (h : d < a.tmps.size) : (a.put (some d) v).tmps.getD d undef = v := by
  simp [Act.put, h]
theorem getD_put_other {a : Act} {x : Option Nat} {d : Nat} {v : Value} (h : x ≠ some d) : (a.put x v).tmps.getD d undef = a.tmps.getD d undef := by
  cases x with
  | none => rfl
  | some e =>
    have hne : e ≠ d := fun he => h (by rw [he])
    simp [Act.put, Array.getElem?_setIfInBounds_ne hne]
theorem put_defers (a : Act) (x : Option Nat) (v : Value) : (a.put x v).defers = a.defers := by cases x <;> rfl
theorem put_size (a : Act) (x : Option Nat) (v : Value) : (a.put x v).tmps.size = a.tmps.size := by cases x <;> simp [Act.put]

variable {Sl : Nat → Value → World → Prop} {Inv : World → Prop} {G : World → World → Prop} {a0 : Act}

theorem walk (hmono : ∀ d v w w', Sl d v w → G w w' → Sl d v w') (hf : fine a0.tmps.size ops = true) (hs : ∀ (i : Nat) (o : Oper), ops[i]? = some o → Step P md ops Q Sl Inv G a0 o)
    (hfin : ∀ a w, Same ops a0 a → Inv w → (∀ (i : Nat) (o : Oper) d, ops[i]? = some o → o.dst = some d → Sl d (a.tmps.getD d undef) w) → Q .normal a w) :
    ∀ (fuel : Nat) (listed : Array Bool) (a : Act) (w : World), left listed ops.size ≤ fuel → listed.size = ops.size → Same ops a0 a → Inv w →
      (∀ (i : Nat) (o : Oper) d, ops[i]? = some o → listed.getD i true = true → o.dst = some d → Sl d (a.tmps.getD d undef) w) → wpAny P md ops Q fuel listed a w := by
  have ends : ∀ (listed : Array Bool) (a : Act) (w : World), (∀ i, i < ops.size → listed.getD i true = true) → Same ops a0 a → Inv w →
      (∀ (i : Nat) (o : Oper) d, ops[i]? = some o → listed.getD i true = true → o.dst = some d → Sl d (a.tmps.getD d undef) w) → Q .normal a w := fun listed a w hl hsame hinv hsl =>
    hfin a w hsame hinv fun i o d ho hd => hsl i o d ho (hl i (Array.getElem?_eq_some_iff.1 ho).1) hd
  have alls : ∀ listed : Array Bool, listed.size = ops.size → Region.ready md ops listed = [] → ∀ i, i < ops.size → listed.getD i true = true := by
    intro listed hsz hr i
    induction i using Nat.strongRecOn with
    | _ i ih =>
      intro hi
      cases hg : listed.getD i true with
      | true => rfl
      | false =>
        exfalso
        have : i ∈ Region.ready md ops listed := mem_ready.2 ⟨hg, ops[i], Array.getElem?_eq_getElem hi, fun e he _ => by
          have hlt := fine_down hf (Array.getElem?_eq_getElem hi) e he
          have h1 := ih e.on hlt (by omega)
          have h2 : e.on < listed.size := by omega
          simp only [Array.getD_eq_getD_getElem?, Array.getElem?_eq_getElem h2, Option.getD_some] at h1 ⊢
          exact h1⟩
        rw [hr] at this
        cases this
  intro fuel
  induction fuel with
  | zero =>
    intro listed a w hl hsz hsame hinv hsl
    have hall := left_zero (listed := listed) (n := ops.size) (by omega)
    refine ⟨?_, ends listed a w hall hsame hinv hsl⟩
    cases hr : Region.ready md ops listed with
    | nil => rfl
    | cons j r =>
      have hj : j ∈ Region.ready md ops listed := by rw [hr]; exact List.mem_cons_self ..
      obtain ⟨hun, o, ho, _⟩ := mem_ready.1 hj
      rw [hall j (Array.getElem?_eq_some_iff.1 ho).1] at hun
      cases hun
  | succ fuel ih =>
    intro listed a w hl hsz hsame hinv hsl
    refine ⟨fun hr => ends listed a w (alls listed hsz hr) hsame hinv hsl, fun i hi => ?_⟩
    obtain ⟨hun, o, ho, hdep⟩ := mem_ready.1 hi
    have hib : i < ops.size := (Array.getElem?_eq_some_iff.1 ho).1
    refine wpOp_step ho fun K hK => hs i o ho a w hsame hinv ?_ K ?_
    · intro d hd
      have hd' : d ∈ needs md ops o := by simpa using hd
      obtain ⟨e, he, hed⟩ := List.mem_filterMap.1 hd'
      obtain ⟨he1, he2⟩ := List.mem_filter.1 he
      cases hoe : ops[e.on]? with
      | none => rw [hoe] at hed; cases hed
      | some oe =>
        rw [hoe] at hed
        have hl1 := hdep e (by simpa using he1) he2
        refine hsl e.on oe d hoe ?_ hed
        have h2 : e.on < listed.size := by have := (Array.getElem?_eq_some_iff.1 hoe).1; omega
        simp only [Array.getD_eq_getD_getElem?, Array.getElem?_eq_getElem h2, Option.getD_some] at hl1 ⊢
        exact hl1
    · intro v w' hg hinv' hv
      refine hK _ _ (ih (listed.setIfInBounds i true) (a.put o.dst v) w' ?_ (by simpa using hsz) ⟨(put_defers ..).trans hsame.defers, (put_size ..).trans hsame.size, fun d hd => ?_⟩ hinv' ?_)
      · have := left_less hun hib; omega
      · rw [getD_put_other (hd i o ho)]; exact hsame.old d hd
      · intro j oj d hoj hlj hdj
        by_cases hji : j = i
        · subst hji
          rw [ho] at hoj
          cases hoj
          have hds := (fine_slot hf ho hdj).1
          rw [hdj, getD_put_same (by rw [hsame.size]; exact hds)]
          exact hv d hdj
        · rw [getD_put_other (fun e => hji (fine_one hf hoj ho hdj e))]
          rw [getD_set_ne true (Ne.symm hji)] at hlj
          exact hmono _ _ _ _ (hsl j oj d hoj hlj hdj) hg

/-- **The law**: a region that draws its order. -/
theorem region {id : Nat} {w : World} (Sl : Nat → Value → World → Prop) (Inv : World → Prop) (G : World → World → Prop) (hm : P.follows .mixedOrders = true) (hf : fine a0.tmps.size ops = true)
    (hmono : ∀ d v w w', Sl d v w → G w w' → Sl d v w') (h0 : Inv w.drew) (hs : Steps P .any ops Q Sl Inv G a0 ops.toList)
    (hfin : ∀ a w, Same ops a0 a → Inv w → (∀ (i : Nat) (o : Oper) d, ops[i]? = some o → o.dst = some d → Sl d (a.tmps.getD d undef) w) → Q .normal a w) :
    (Code.region id ops true).wp P Q a0 w := by
  refine wp_region_any hm ?_
  refine walk hmono hf (fun i o ho => hs.at o (by simpa using Array.mem_of_getElem? ho)) hfin _ _ a0 w.drew ?_ (by simp) ⟨rfl, rfl, fun _ _ => rfl⟩ h0 ?_
  · have : ∀ n, left (Array.replicate ops.size false) n ≤ n := by
      intro n
      induction n with
      | zero => exact Nat.le_refl _
      | succ n ih => simp only [left]; split <;> omega
    exact this _
  · intro i o d ho hl _
    have hi : i < ops.size := (Array.getElem?_eq_some_iff.1 ho).1
    simp [hi] at hl

/-- A guard that is met. -/
theorem wanted_yes {o : Oper} {tmps : Array Value} (g : Nat) (want : Bool) (d : Nat) (hg : o.guard = some (g, want)) (hd : (ops[g]?).bind (·.dst) = some d) (hv : tmps.getD d undef = .bool want) : Region.wanted o (yielded ops tmps) = true := by
  unfold Region.wanted
  rw [hg]
  cases ho : ops[g]? with
  | none => rw [ho] at hd; cases hd
  | some og =>
    rw [ho] at hd
    have hd' : og.dst = some d := hd
    have hv' : tmps[d]?.getD undef = .bool want := by simpa using hv
    have hy : yielded ops tmps g = some want := by
      unfold yielded
      rw [ho]
      simp only [Option.bind_some, hd']
      cases ht : tmps[d]? with
      | none => rw [ht] at hv'; cases want <;> cases hv'
      | some x => rw [ht] at hv'; simp only [Option.getD_some] at hv'; rw [hv']
    simp [hy]
/-- A guard that is not met. -/
theorem wanted_no {o : Oper} {tmps : Array Value} (g : Nat) (want : Bool) (d : Nat) (hg : o.guard = some (g, want)) (hd : (ops[g]?).bind (·.dst) = some d) (hv : tmps.getD d undef = .bool !want) : ¬ Region.wanted o (yielded ops tmps) = true := by
  unfold Region.wanted
  rw [hg]
  cases ho : ops[g]? with
  | none => rw [ho] at hd; cases hd
  | some og =>
    rw [ho] at hd
    have hd' : og.dst = some d := hd
    have hv' : tmps[d]?.getD undef = .bool !want := by simpa using hv
    have hy : yielded ops tmps g = some !want := by
      unfold yielded
      rw [ho]
      simp only [Option.bind_some, hd']
      cases ht : tmps[d]? with
      | none => rw [ht] at hv'; cases want <;> cases hv'
      | some x => rw [ht] at hv'; simp only [Option.getD_some] at hv'; rw [hv']
    cases want <;> simp [hy]
/-- A guard that itself has not come to anything. -/
theorem wanted_undef {o : Oper} {tmps : Array Value} (g : Nat) (want : Bool) (d : Nat) (hg : o.guard = some (g, want)) (hd : (ops[g]?).bind (·.dst) = some d) (hv : tmps.getD d undef = undef) : ¬ Region.wanted o (yielded ops tmps) = true := by
  unfold Region.wanted
  rw [hg]
  cases ho : ops[g]? with
  | none => rw [ho] at hd; cases hd
  | some og =>
    rw [ho] at hd
    have hd' : og.dst = some d := hd
    have hv' : tmps[d]?.getD undef = undef := by simpa using hv
    have hy : yielded ops tmps g = none := by
      unfold yielded
      rw [ho]
      simp only [Option.bind_some, hd']
      cases ht : tmps[d]? with
      | none => rfl
      | some x => rw [ht] at hv'; simp only [Option.getD_some] at hv'; rw [hv']; rfl
    cases want <;> simp [hy]
theorem wanted_none {o : Oper} {tmps : Array Value} (hg : o.guard = none) : Region.wanted o (yielded ops tmps) = true := by
  unfold Region.wanted
  rw [hg]

end
end Flow
end Go.Proofs.YtaemmknijmhnoaaGreat

/-
  A region that draws its order, told slot by slot, where one operation may spoil what a slot holds that nobody looks at any more (an append onto the call's own row): the world's growth is said operation by operation, and a slot must bear it only where it can be there already and is still looked at. Over whatever program.
-/
namespace Go.Proofs.YtaemmknijmhnoaaGreat
namespace Flow
open Go

section
variable {P : Program} {ops : Array Oper} {Q : Exit → Act → World → Prop} {md : Region.Mode}

/-- Does operation j wait for operation i? (through so many edges) -/
def waits (md : Region.Mode) (ops : Array Oper) (i : Nat) : Nat → Nat → Bool
  | 0, j => i == j
  | f + 1, j => i == j || match ops[j]? with
    | some o => o.after.any fun e => Region.binds md e && waits md ops i f e.on
    | none => false

def Closed (md : Region.Mode) (ops : Array Oper) (listed : Array Bool) : Prop := ∀ (j : Nat) (o : Oper), ops[j]? = some o → listed.getD j true = true → ∀ e ∈ o.after, Region.binds md e = true → listed.getD e.on true = true

theorem waits_listed {listed : Array Bool} {i : Nat} (hc : Closed md ops listed) : ∀ (f j : Nat), waits md ops i f j = true → listed.getD j true = true → listed.getD i true = true
  | 0, j, h, hl => by have : i = j := by simpa [waits] using h
                      rw [this]; exact hl
  | f + 1, j, h, hl => by
    simp only [waits, Bool.or_eq_true] at h
    rcases h with h | h
    · have : i = j := by simpa using h
      rw [this]; exact hl
    · cases ho : ops[j]? with
      | none => rw [ho] at h; cases h
      | some o =>
        rw [ho] at h
        obtain ⟨k, hk, h2⟩ := Array.any_eq_true.1 h
        simp only [Bool.and_eq_true] at h2
        exact waits_listed hc f _ h2.2 (hc j o ho hl _ (Array.getElem_mem hk) h2.1)

variable {Sl : Nat → Value → World → Prop} {Inv : World → Prop} {G : Nat → World → World → Prop} {a0 : Act}

/-- The frame behind a region: its own slots d are read off it, all others are as they were. -/
theorem frame {a0 a : Act} (h : Same ops a0 a) (ds : List Nat) (l : List Nat) (hl : l = List.range a0.tmps.size) (hd : (l.all fun i => ds.contains i || ops.all fun o => o.dst != some i) = true) :
    a = { tmps := (l.map fun i => if ds.contains i then a.tmps.getD i undef else a0.tmps.getD i undef).toArray, defers := a0.defers } := by
  obtain ⟨t, df⟩ := a
  have h1 : df = a0.defers := h.defers
  have h2 : t.size = a0.tmps.size := h.size
  subst h1
  congr 1
  apply Array.ext
  · simp [hl, h2]
  · intro i h3 h4
    have hi : i < a0.tmps.size := by omega
    have hm := List.all_eq_true.1 hd i (by rw [hl]; exact List.mem_range.2 hi)
    have e1 : t.getD i undef = t[i] := by simp [h3]
    simp only [hl, List.getElem_toArray, List.getElem_map, List.getElem_range]
    by_cases hc : ds.contains i = true
    · rw [if_pos hc, e1]
    · rw [if_neg hc, ← e1]
      have : ds.contains i = false := by simpa using hc
      rw [this, Bool.false_or] at hm
      exact h.at i hm
end
end Flow
end Go.Proofs.YtaemmknijmhnoaaGreat

namespace Go.Proofs.YtaemmknijmhnoaaGreat
open Go.RowKit Go.Maps

/-- What a write does. -/
def St.wrote (s : St) (i : Nat) (x : Sec) : St := { s with fuse := if 0 < s.fuse then s.fuse - 1 else s.fuse, t := fun j => if j = i then s.t i ++ [x] else s.t j, writes := s.writes + 1 }
def St.refuses (s : St) : Prop := s.fuse = 0 ∨ s.dead = true
instance (s : St) : Decidable s.refuses := inferInstanceAs (Decidable (_ ∨ _))

set_option maxRecDepth 100000 in
set_option maxHeartbeats 1000000 in
theorem Write_deadM {F : Nat → Prop} {b : Nat} {lv : Value} {m : Nat} {L : Nat → Value} {s : St} (w : World) (h : DkAt w F b lv m L s) (i : Nat) (hi : i < s.ls.length) (x : Sec) (hr : s.refuses) : Calls Tryz.prog 77 #[.pointer (some ⟨b, 0, none⟩), .int .i64 (i : Int), .agg (sec x)] w fun e w' => e = .returned (.int .i64 8) ∧ DkAt w' F b lv m L { s with dead := true } ∧ Upd F F w w' := by
  have hg : Gr w (w.alloc (.cells (sec x) TS)) := (Gr.refl w).alloc (Nat.le_refl _) _
  have h' := h.gr hg
  have ha := asked_any _ h' (i : Int)
  have he : askE s.ls.length (i : Int) = 0 := by unfold askE; rw [if_neg (by omega)]
  rw [he] at ha
  have HA := Lib.hid ha
  obtain ⟨h0, h1, h2, h3, h4⟩ := h'.cells
  have hf := h'.blk.frozen 3
  have HB := Lib.hid (h'.blk.set 3 (.bool true))
  have HU := Lib.hid (Upd.trans (Upd.of_gr (F := F) hg) (upd_cell (w := w.alloc (.cells (sec x) TS)) (i := 3) h.ownB (.bool true)))
  have HU0 := Lib.hid (Upd.of_gr (F := F) hg)
  have HD : Hid (DkAt ((w.alloc (.cells (sec x) TS)).setCell ⟨b, 3, none⟩ (.bool true)) F b lv m L { s with dead := true }) := Lib.hid (h'.block (s' := { s with dead := true }) ⟨h.ok.pos, h.ok.most, h.ok.out, h.ok.less, h.ok.lo, h.ok.hi⟩ rfl rfl (Nat.le_refl _) (by simpa using HB.out) (fun k _ hk => Below.heap_setCell _ _ _ k hk) (by simp [World.setCell]))
  by_cases hz : s.fuse = 0
  · rw [hz] at h2
    clear h h' ha he hi HB hr h0 h1 h4 HU0 hz
    go_enter Tryz.func77, Tryz.ntmps77
    go_wp2_with fail
    refine HA.out.mono ?_
    rintro e w1 ⟨rfl, rfl⟩
    go_wp2
    go_ret
    exact ⟨rfl, HD.out, HU.out⟩
  · have hd : s.dead = true := by rcases hr with h | h
                                  · exact absurd h hz
                                  · exact h
    have hs : { s with dead := true } = s := by cases s; simp at hd; simp [hd]
    have HD0 : Hid (DkAt (w.alloc (.cells (sec x) TS)) F b lv m L { s with dead := true }) := Lib.hid (by rw [hs]; exact h')
    rw [hd] at h3
    have hz2 : (s.fuse == 0) = false := by simpa using hz
    obtain ⟨f, hff⟩ : ∃ f, f = s.fuse := ⟨_, rfl⟩
    rw [← hff] at h2 hz2
    clear h h' ha he hi HB hr h0 h1 h4 HU hz hs HD hd hff
    go_enter Tryz.func77, Tryz.ntmps77
    go_wp2_with fail
    refine HA.out.mono ?_
    rintro e w1 ⟨rfl, rfl⟩
    go_wp2
    go_ret
    exact ⟨rfl, HD0.out, HU0.out⟩
theorem Write_dead {F : Nat → Prop} {p : Value} {s : St} (w : World) (h : Dk w F p s) (i : Nat) (hi : i < s.ls.length) (x : Sec) (hr : s.refuses) : Calls Tryz.prog 77 #[p, .int .i64 (i : Int), .agg (sec x)] w fun e w' => e = .returned (.int .i64 8) ∧ Dk w' F p { s with dead := true } ∧ Upd F F w w' := by
  obtain ⟨b, lv, m, L, rfl, h⟩ := h
  refine (Write_deadM w h i hi x hr).mono ?_
  rintro e w' ⟨rfl, hd, hu⟩
  exact ⟨rfl, ⟨_, _, _, _, rfl, hd⟩, hu⟩

end Go.Proofs.YtaemmknijmhnoaaGreat

/-
  A region that draws its order, told slot by slot, one of whose operations waits for all the others: what is said of the world may end with it (a store into the map that the others look into). Over whatever program.
-/
namespace Go.Proofs.YtaemmknijmhnoaaGreat
namespace Flow
open Go

section
variable {P : Program} {ops : Array Oper} {Q : Exit → Act → World → Prop} {md : Region.Mode}

/-- Which slots an operation reads. -/
def reads (md : Region.Mode) (ops : Array Oper) (o : Oper) : List Nat := (o.after.toList.filter fun e => Region.binds md e && (match e.ground with
  | .data => true
  | _ => false)).filterMap fun e => (ops[e.on]?).bind (·.dst)
theorem early {b : Bool} {p : Prop} (h : cond b p True) (e : b = true) : p := by subst e; exact h

/-- May slot d be filled, and still be looked at by an operation that i does not wait for, as operation i comes up? -/
def bears2 (md : Region.Mode) (ops : Array Oper) (keep : List Nat) (fuel : Nat) (i d : Nat) : Bool :=
  ((List.range ops.size).any fun j => match ops[j]? with
    | some o => o.dst == some d && !waits md ops i fuel j
    | none => false) &&
  (keep.contains d || (List.range ops.size).any fun j => j != i && !waits md ops j fuel i && match ops[j]? with
    | some o => (reads md ops o).contains d
    | none => false)
/-- Which slots must bear an operation: asked of the kernel. -/
theorem bears2_only {keep : List Nat} {fl i d : Nat} (l : List Nat) (h : (ops.toList.all fun o => match o.dst with
    | some e => !(bears2 md ops keep fl i e) || l.contains e
    | none => true) = true) (hb : bears2 md ops keep fl i d = true) : d ∈ l := by
  have h1 := hb
  unfold bears2 at h1
  rw [Bool.and_eq_true] at h1
  obtain ⟨j, _, hj⟩ := List.any_eq_true.1 h1.1
  cases ho : ops[j]? with
  | none => rw [ho] at hj; cases hj
  | some o =>
    rw [ho] at hj
    simp only [Bool.and_eq_true, beq_iff_eq] at hj
    have h2 := List.all_eq_true.1 h o (by simpa using Array.mem_of_getElem? ho)
    rw [hj.1] at h2
    simp only [hb, Bool.not_true, Bool.false_or] at h2
    simpa using h2

/-- One operation: what holds of the world ahead of it, and behind it. -/
def StepV (P : Program) (md : Region.Mode) (ops : Array Oper) (Q : Exit → Act → World → Prop) (Sl : Nat → Value → World → Prop) (I J E : World → Prop) (early here : Bool) (G : World → World → Prop) (a0 : Act) (o : Oper) : Prop :=
  ∀ a w, Same ops a0 a → I w → cond early (E w) True → (∀ d, (reads md ops o).contains d = true → Sl d (a.tmps.getD d undef) w) →
    ∀ K : Act → World → Prop, (∀ v w', G w w' → J w' → cond here True (E w → E w') → (∀ d, o.dst = some d → Sl d v w') → K (a.put o.dst v) w') →
      if Region.wanted o (yielded ops a.tmps) = true then o.wp P a w K Q else K (a.put o.dst undef) w
/-- Each of them, with its number; z is the last one. -/
def StepsZ (P : Program) (md : Region.Mode) (ops : Array Oper) (Q : Exit → Act → World → Prop) (Sl : Nat → Value → World → Prop) (Inv Fin Ear : World → Prop) (G : Nat → World → World → Prop) (a0 : Act) (z y fl : Nat) : Nat → List Oper → Prop
  | _, [] => True
  | i, o :: r => StepV P md ops Q Sl Inv (cond (i == z) Fin Inv) Ear (waits md ops i fl y) (i == y || i == z) (G i) a0 o ∧ StepsZ P md ops Q Sl Inv Fin Ear G a0 z y fl (i + 1) r
theorem StepsZ.cons {Sl : Nat → Value → World → Prop} {Inv Fin Ear : World → Prop} {G : Nat → World → World → Prop} {a0 : Act} {z y fl i : Nat} {o : Oper} {r : List Oper} (h : StepV P md ops Q Sl Inv (cond (i == z) Fin Inv) Ear (waits md ops i fl y) (i == y || i == z) (G i) a0 o) (k : StepsZ P md ops Q Sl Inv Fin Ear G a0 z y fl (i + 1) r) : StepsZ P md ops Q Sl Inv Fin Ear G a0 z y fl i (o :: r) := ⟨h, k⟩
theorem StepsZ.at {Sl : Nat → Value → World → Prop} {Inv Fin Ear : World → Prop} {G : Nat → World → World → Prop} {a0 : Act} {z y fl : Nat} : ∀ {l : List Oper} {i : Nat}, StepsZ P md ops Q Sl Inv Fin Ear G a0 z y fl i l → ∀ (j : Nat) (o : Oper), l[j]? = some o → StepV P md ops Q Sl Inv (cond (i + j == z) Fin Inv) Ear (waits md ops (i + j) fl y) (i + j == y || i + j == z) (G (i + j)) a0 o
  | [], _, _, _, _, h => by simp at h
  | x :: r, i, h, 0, o, ho => by
    simp only [List.getElem?_cons_zero, Option.some.injEq] at ho
    subst ho
    exact h.1
  | x :: r, i, h, j + 1, o, ho => by
    simp only [List.getElem?_cons_succ] at ho
    have := StepsZ.at h.2 j o ho
    rwa [show i + 1 + j = i + (j + 1) by omega] at this

variable {Sl : Nat → Value → World → Prop} {Inv Fin Ear : World → Prop} {G : Nat → World → World → Prop} {a0 : Act}

theorem walkZ (z y : Nat) (oz : Oper) (hoz : ops[z]? = some oz) (keep : List Nat) (fl : Nat) (hall : ∀ j, j < ops.size → waits md ops j fl z = true) (hmono : ∀ i d v w w', bears2 md ops keep fl i d = true → Sl d v w → G i w w' → Sl d v w') (hf : fine a0.tmps.size ops = true) (hs : ∀ (i : Nat) (o : Oper), ops[i]? = some o → StepV P md ops Q Sl Inv (cond (i == z) Fin Inv) Ear (waits md ops i fl y) (i == y || i == z) (G i) a0 o)
    (hfin : ∀ a w, Same ops a0 a → Fin w → (∀ (i : Nat) (o : Oper) d, ops[i]? = some o → o.dst = some d → d ∈ keep → Sl d (a.tmps.getD d undef) w) → Q .normal a w) :
    ∀ (fuel : Nat) (listed : Array Bool) (a : Act) (w : World), left listed ops.size ≤ fuel → listed.size = ops.size → Closed md ops listed → Same ops a0 a → (listed.getD z true = false → Inv w) → (listed.getD z true = true → Fin w) → (listed.getD y true = false → Ear w) →
      (∀ (i : Nat) (o : Oper) d, ops[i]? = some o → listed.getD i true = true → o.dst = some d → (d ∈ keep ∨ ∃ (j : Nat) (oj : Oper), ops[j]? = some oj ∧ listed.getD j true = false ∧ d ∈ reads md ops oj) → Sl d (a.tmps.getD d undef) w) → wpAny P md ops Q fuel listed a w := by
  have hzb : z < ops.size := (Array.getElem?_eq_some_iff.1 hoz).1
  have ends : ∀ (listed : Array Bool) (a : Act) (w : World), (∀ i, i < ops.size → listed.getD i true = true) → Same ops a0 a → (listed.getD z true = true → Fin w) →
      (∀ (i : Nat) (o : Oper) d, ops[i]? = some o → listed.getD i true = true → o.dst = some d → (d ∈ keep ∨ ∃ (j : Nat) (oj : Oper), ops[j]? = some oj ∧ listed.getD j true = false ∧ d ∈ reads md ops oj) → Sl d (a.tmps.getD d undef) w) → Q .normal a w := fun listed a w hl hsame hinv hsl =>
    hfin a w hsame (hinv (hl z hzb)) fun i o d ho hd hk => hsl i o d ho (hl i (Array.getElem?_eq_some_iff.1 ho).1) hd (.inl hk)
  have alls : ∀ listed : Array Bool, listed.size = ops.size → Region.ready md ops listed = [] → ∀ i, i < ops.size → listed.getD i true = true := by
    intro listed hsz hr i
    induction i using Nat.strongRecOn with
    | _ i ih =>
      intro hi
      cases hg : listed.getD i true with
      | true => rfl
      | false =>
        exfalso
        have : i ∈ Region.ready md ops listed := mem_ready.2 ⟨hg, ops[i], Array.getElem?_eq_getElem hi, fun e he _ => by
          have hlt := fine_down hf (Array.getElem?_eq_getElem hi) e he
          have h1 := ih e.on hlt (by omega)
          have h2 : e.on < listed.size := by omega
          simp only [Array.getD_eq_getD_getElem?, Array.getElem?_eq_getElem h2, Option.getD_some] at h1 ⊢
          exact h1⟩
        rw [hr] at this
        cases this
  intro fuel
  induction fuel with
  | zero =>
    intro listed a w hl hsz hcl hsame hinv hfz hear hsl
    have hall2 := left_zero (listed := listed) (n := ops.size) (by omega)
    refine ⟨?_, ends listed a w hall2 hsame hfz hsl⟩
    cases hr : Region.ready md ops listed with
    | nil => rfl
    | cons j r =>
      have hj : j ∈ Region.ready md ops listed := by rw [hr]; exact List.mem_cons_self ..
      obtain ⟨hun, o, ho, _⟩ := mem_ready.1 hj
      rw [hall2 j (Array.getElem?_eq_some_iff.1 ho).1] at hun
      cases hun
  | succ fuel ih =>
    intro listed a w hl hsz hcl hsame hinv hfz hear hsl
    refine ⟨fun hr => ends listed a w (alls listed hsz hr) hsame hfz hsl, fun i hi => ?_⟩
    obtain ⟨hun, o, ho, hdep⟩ := mem_ready.1 hi
    have hib : i < ops.size := (Array.getElem?_eq_some_iff.1 ho).1
    have flip : ∀ j, j < ops.size → listed.getD j false = true → listed.getD j true = true := fun j hj h => by
      have h2 : j < listed.size := by omega
      simp only [Array.getD_eq_getD_getElem?, Array.getElem?_eq_getElem h2, Option.getD_some] at h ⊢
      exact h
    have anc : ∀ j, waits md ops j fl i = true → j ≠ i → listed.getD j true = true := fun j hw hne => by
      cases fl with
      | zero => exact absurd (by simpa [waits] using hw) hne
      | succ f =>
        simp only [waits, Bool.or_eq_true] at hw
        rcases hw with hw | hw
        · exact absurd (by simpa using hw) hne
        · rw [ho] at hw
          obtain ⟨k, hk, h2⟩ := Array.any_eq_true.1 hw
          simp only [Bool.and_eq_true] at h2
          have hmem := Array.getElem_mem hk
          have hei := fine_down hf ho _ hmem
          exact waits_listed hcl f _ h2.2 (flip _ (by omega) (hdep _ hmem h2.1))
    have hzn : listed.getD z true = false := by
      cases hzl : listed.getD z true with
      | false => rfl
      | true => rw [waits_listed hcl fl z (hall i hib) hzl] at hun; cases hun
    have hyn : cond (waits md ops i fl y) (Ear w) True := by
      cases hw : waits md ops i fl y with
      | false => exact True.intro
      | true =>
        refine hear ?_
        cases hyl : listed.getD y true with
        | false => rfl
        | true => rw [waits_listed hcl fl y hw hyl] at hun; cases hun
    refine wpOp_step ho fun K hK => hs i o ho a w hsame (hinv hzn) hyn ?_ K ?_
    · intro d hd
      have hd' : d ∈ reads md ops o := by simpa using hd
      obtain ⟨e, he, hed⟩ := List.mem_filterMap.1 hd'
      obtain ⟨he1, he3⟩ := List.mem_filter.1 he
      have he2 : Region.binds md e = true := by simp only [Bool.and_eq_true] at he3; exact he3.1
      cases hoe : ops[e.on]? with
      | none => rw [hoe] at hed; cases hed
      | some oe =>
        rw [hoe] at hed
        have hl1 := hdep e (by simpa using he1) he2
        exact hsl e.on oe d hoe (flip _ (Array.getElem?_eq_some_iff.1 hoe).1 hl1) hed (.inr ⟨i, o, ho, hun, hd'⟩)
    · intro v w' hg hinv' hear' hv
      have hset : ∀ j, listed.getD j true = true → (listed.setIfInBounds i true).getD j true = true := fun j h => by
        by_cases hji : i = j
        · subst hji
          have : i < listed.size := by omega
          simp [this]
        · rw [getD_set_ne true hji]; exact h
      refine hK _ _ (ih (listed.setIfInBounds i true) (a.put o.dst v) w' ?_ (by simpa using hsz) ?_ ⟨(put_defers ..).trans hsame.defers, (put_size ..).trans hsame.size, fun d hd => ?_⟩ ?_ ?_ ?_ ?_)
      · have := left_less hun hib; omega
      · intro j oj hoj hlj e he hb
        by_cases hji : i = j
        · subst hji
          rw [ho] at hoj
          cases hoj
          have hei : e.on < ops.size := by have := fine_down hf ho e he; omega
          exact hset _ (flip _ hei (hdep e he hb))
        · rw [getD_set_ne true hji] at hlj
          exact hset _ (hcl j oj hoj hlj e he hb)
      · rw [getD_put_other (hd i o ho)]; exact hsame.old d hd
      · intro h
        by_cases hiz : i = z
        · subst hiz
          have : i < listed.size := by omega
          simp [this] at h
        · have e : (i == z) = false := by simpa using hiz
          rw [e] at hinv'
          exact hinv'
      · intro h
        by_cases hiz : i = z
        · have e : (i == z) = true := by simpa using hiz
          rw [e] at hinv'
          exact hinv'
        · rw [getD_set_ne true hiz, hzn] at h
          cases h
      · intro h
        by_cases hiy : i = y
        · subst hiy
          have : i < listed.size := by omega
          simp [this] at h
        · rw [getD_set_ne true hiy] at h
          by_cases hiz : i = z
          · subst hiz
            have hyb : y < ops.size := by
              rcases Nat.lt_or_ge y ops.size with h' | h'
              · exact h'
              · simp [Array.getElem?_eq_none (show listed.size ≤ y by omega)] at h
            have := anc y (hall y hyb) (fun e => hiy e.symm)
            rw [this] at h
            cases h
          · have e : (i == y || i == z) = false := by simp [hiy, hiz]
            rw [e] at hear'
            exact hear' (hear h)
      · intro j oj d hoj hlj hdj hlive
        by_cases hji : j = i
        · subst hji
          rw [ho] at hoj
          cases hoj
          have hds := (fine_slot hf ho hdj).1
          rw [hdj, getD_put_same (by rw [hsame.size]; exact hds)]
          exact hv d hdj
        · rw [getD_put_other (fun e => hji (fine_one hf hoj ho hdj e))]
          rw [getD_set_ne true (Ne.symm hji)] at hlj
          have hjb : j < ops.size := (Array.getElem?_eq_some_iff.1 hoj).1
          refine hmono i d _ _ _ ?_ (hsl j oj d hoj hlj hdj ?_) hg
          · unfold bears2
            rw [Bool.and_eq_true]
            constructor
            · refine List.any_eq_true.2 ⟨j, List.mem_range.2 hjb, ?_⟩
              rw [hoj]
              have hnw : waits md ops i fl j = false := by
                cases hw : waits md ops i fl j with
                | false => rfl
                | true => rw [waits_listed hcl fl j hw hlj] at hun; cases hun
              simp [hdj, hnw]
            · rw [Bool.or_eq_true]
              rcases hlive with hk | ⟨j', oj', hoj', hl', hn'⟩
              · exact .inl (by simpa using hk)
              · right
                have hne : j' ≠ i := by
                  rintro rfl
                  have : j' < listed.size := by omega
                  simp [this] at hl'
                have hnw2 : waits md ops j' fl i = false := by
                  cases hw : waits md ops j' fl i with
                  | false => rfl
                  | true =>
                    exfalso
                    have hl3 := anc j' hw hne
                    have hlj : listed.getD j' true = false := by
                      cases hlj' : listed.getD j' true with
                      | false => rfl
                      | true => rw [hset j' hlj'] at hl'; cases hl'
                    rw [hl3] at hlj
                    cases hlj
                refine List.any_eq_true.2 ⟨j', List.mem_range.2 (Array.getElem?_eq_some_iff.1 hoj').1, ?_⟩
                rw [hoj']
                simp [hne, hn', hnw2]
          · rcases hlive with hk | ⟨j', oj', hoj', hl', hn'⟩
            · exact .inl hk
            · refine .inr ⟨j', oj', hoj', ?_, hn'⟩
              cases hlj' : listed.getD j' true with
              | false => rfl
              | true => rw [hset j' hlj'] at hl'; cases hl'

/-- **The law**, operation by operation. -/
theorem regionZ {id : Nat} {w : World} (z y : Nat) (hzz : (ops[z]?).isSome = true) (keep : List Nat) (fl : Nat) (Sl : Nat → Value → World → Prop) (Inv Fin Ear : World → Prop) (G : Nat → World → World → Prop) (hm : P.follows .mixedOrders = true) (hall : ((List.range ops.size).all fun j => waits .any ops j fl z) = true) (hf : fine a0.tmps.size ops = true)
    (hmono : ∀ i d v w w', bears2 .any ops keep fl i d = true → Sl d v w → G i w w' → Sl d v w') (h0 : Inv w.drew) (h1 : Ear w.drew) (hs : StepsZ P .any ops Q Sl Inv Fin Ear G a0 z y fl 0 ops.toList)
    (hfin : ∀ a w, Same ops a0 a → Fin w → (∀ (i : Nat) (o : Oper) d, ops[i]? = some o → o.dst = some d → d ∈ keep → Sl d (a.tmps.getD d undef) w) → Q .normal a w) :
    (Code.region id ops true).wp P Q a0 w := by
  obtain ⟨oz, hoz⟩ := Option.isSome_iff_exists.1 hzz
  refine wp_region_any hm ?_
  have hun : ∀ (i : Nat) (o : Oper), ops[i]? = some o → (Array.replicate ops.size false).getD i true = true → False := fun i o ho hl => by
    have hi : i < ops.size := (Array.getElem?_eq_some_iff.1 ho).1
    simp [hi] at hl
  refine walkZ z y oz hoz keep fl (fun j hj => List.all_eq_true.1 hall j (List.mem_range.2 hj)) hmono hf (fun i o ho => ?_) hfin _ _ a0 w.drew ?_ (by simp) (fun j o ho hl => (hun j o ho hl).elim) ⟨rfl, rfl, fun _ _ => rfl⟩ (fun _ => h0) (fun h => (hun z oz hoz h).elim) (fun _ => h1) (fun i o d ho hl _ _ => (hun i o ho hl).elim)
  · have := hs.at i o (by simpa using ho)
    rwa [Nat.zero_add] at this
  · have : ∀ n, left (Array.replicate ops.size false) n ≤ n := by
      intro n
      induction n with
      | zero => exact Nat.le_refl _
      | succ n ih => simp only [left]; split <;> omega
    exact this _


end
end Flow
end Go.Proofs.YtaemmknijmhnoaaGreat

