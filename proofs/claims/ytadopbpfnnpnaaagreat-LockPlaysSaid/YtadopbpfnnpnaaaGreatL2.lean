/-
  Texts on locks, put together: Lk3 Flow FlowBy.
-/
import Derived.Orders
import Derived.RegionTactic
import Derived.Test.YtadopbpfnnpnaaaGreatL1
set_option linter.unusedVariables false
set_option linter.unusedSimpArgs false
/-
  The code's table of locks: has, fits, may, Holds, Len.
-/
namespace Go.Proofs.YtadopbpfnnpnaaaGreat
open Go.RowKit Go.Maps

/-- A set of keys, perhaps a nil one. -/
def HsAt (w : World) (h : Option Nat) (ks : List Key) : Prop := (h = none ∧ ks = []) ∨ ∃ n, h = some n ∧ Mp Tryz.prog KL w n (unitF ks) ks
theorem HsAt.gr {w w' : World} {h : Option Nat} {ks : List Key} (H : HsAt w h ks) (g : Gr w w') : HsAt w' h ks := by
  rcases H with H | ⟨n, h1, h2⟩
  · exact .inl H
  · exact .inr ⟨n, h1, h2.stays (g.block n h2.lt)⟩
theorem HsAt.look {w : World} {h : Option Nat} {ks : List Key} (H : HsAt w h ks) {k : Key} (hk : KL.dom k) : (Instr.lookup TMs (.map h) (kv k) true).run Tryz.prog w = .ok (.tuple #[.agg #[], .bool (decide (k ∈ ks))]) w := by
  rcases H with ⟨rfl, rfl⟩ | ⟨n, rfl, h2⟩
  · have := Maps.look_nil true KL_ok.keyed (t := TMs) Tryz.underlying63 (w := w) (Tryz.zeroValue58 w) (KL_ok.key k hk)
    rw [show KL.val k = kv k from rfl] at this
    simpa using this
  · have := h2.look_ok KL_ok (t := TMs) Tryz.underlying63 (Tryz.zeroValue58 w) hk
    rw [show KL.val k = kv k from rfl] at this
    rw [this]
    unfold unitF
    by_cases e : k ∈ ks
    · simp [e]
    · simp [e]
theorem TbAt.hs {w : World} {t km om : Nat} {B : Tag → Option Nat} {T : Tb} (h : TbAt w t km om B T) (o : Nat) : HsAt w (B (.pm o)) (T.of o).ks := by
  unfold Tb.of
  cases e : T.py o with
  | none => exact .inl ⟨(h.py0 o e).2, rfl⟩
  | some p =>
    obtain ⟨b, h', h1, h2, h3, h4⟩ := h.py o p e
    exact .inr ⟨h', h2, h4⟩
set_option maxRecDepth 100000 in
theorem has_any (w : World) {h : Option Nat} {ks : List Key} {a b m : Value} (ha : a.cells = #[a]) (hb : b.cells = #[b]) (hm : m.cells = #[m]) (H : HsAt w h ks) {k : Key} (hk : KL.dom k) :
    Calls Tryz.prog 42 #[.agg #[.map h, a, b, m], kv k] w fun e w' => e = .returned (.bool (decide (k ∈ ks))) ∧ Gr w w' := by
  have g1 : Gr w ((w.alloc (.cells #[.map h, a, b, m] TPy)).alloc (.cells #[.int .i64 k.1, .int .i64 k.2] TKey)) := ((Gr.refl w).alloc (Nat.le_refl _) _).alloc (by simp) _
  have hl := (H.gr g1).look hk
  obtain ⟨X, hX⟩ : ∃ X, X = decide (k ∈ ks) := ⟨_, rfl⟩
  rw [← hX] at hl ⊢
  unfold kv at hl ⊢
  have HG := Lib.hid g1
  clear H hX g1 hk
  go_enter Tryz.func42, Tryz.ntmps42
  go_wp2_with fail
  go_ret
  exact ⟨rfl, HG.out.alloc (Nat.le_trans (by simp; omega) (Nat.le_refl _)) _⟩
/-- Two modes go together. -/
def tog (a b : Int) : Bool := decide (a = 1) && decide (b = 1)
def Lk.fits (l : Lk) (o : Nat) (m : Int) : Bool := decide ((l.hs.length : Int) - (if o ∈ l.hs then 1 else 0) = 0) || tog m l.mode
def Tb.may (T : Tb) (o : Nat) (k : Key) (m : Int) : Bool :=
  match T.lk k with
  | none => true
  | some l => l.fits o m && (decide (k ∈ (T.of o).ks) || decide ((l.line.length : Int) = 0))
set_option maxRecDepth 100000 in
theorem together_any (a b : Int) (w : World) : Calls Tryz.prog 44 #[.int .i64 a, .int .i64 b] w fun e w' => e = .returned (.bool (tog a b)) ∧ w = w' := by
  by_cases ha : a = 1
  · by_cases hb : b = 1
    · subst ha hb
      go_enter Tryz.func44, Tryz.ntmps44
      go_wp2
      go_ret
      exact ⟨rfl, rfl⟩
    · subst ha
      have e : (b == 1) = false := beq_eq_false_iff_ne.2 hb
      have hv : tog 1 b = false := by unfold tog; simp [hb]
      rw [hv]
      clear hb hv
      go_enter Tryz.func44, Tryz.ntmps44
      go_wp2
      go_ret
      exact ⟨rfl, rfl⟩
  · have e : (a == 1) = false := beq_eq_false_iff_ne.2 ha
    have hv : tog a b = false := by unfold tog; simp [ha]
    rw [hv]
    clear ha hv
    go_enter Tryz.func44, Tryz.ntmps44
    go_wp2
    go_ret
    exact ⟨rfl, rfl⟩
section
variable {w : World} {t km om : Nat} {B : Tag → Option Nat} {T : Tb}
theorem holders_look {w : World} {n : Nat} {hs : List Nat} (H : Mp Tryz.prog KO w n (unitF hs) hs) {o : Nat} (ho : KO.dom o) : (Instr.lookup TMh (.map (some n)) (.int .u64 (o : Int)) true).run Tryz.prog w = .ok (.tuple #[.agg #[], .bool (decide (o ∈ hs))]) w := by
  have := H.look_ok KO_ok (t := TMh) Tryz.underlying53 (Tryz.zeroValue58 w) ho
  rw [show KO.val o = .int .u64 (o : Int) from rfl] at this
  rw [this]
  unfold unitF
  by_cases e : o ∈ hs
  · simp [e]
  · simp [e]
set_option maxRecDepth 100000 in
theorem fits_any {b n : Nat} {v : Value} {l : Lk} (h1 : Blk w b TLk #[.int .i64 l.mode, .map (some n), v]) (h2 : Mp Tryz.prog KO w n (unitF l.hs) l.hs) (hb : l.hs.length ≤ 1000000000) {o : Nat} (ho : KO.dom o) (m : Int) :
    Calls Tryz.prog 51 #[.pointer (some ⟨b, 0, none⟩), .int .u64 (o : Int), .int .i64 m] w fun e w' => e = .returned (.bool (l.fits o m)) ∧ Gr w w' := by
  have c0 := h1.cell 0
  have c1 := h1.cell 1
  have hl := holders_look h2 ho
  have hn : (Builtin.len_ #[TMh] TI #[.map (some n)]).run Tryz.prog w = .ok (.int .i64 (l.hs.length : Int)) w := h2.len KO_ok Tryz.underlying53 TI
  obtain ⟨L, hL⟩ : ∃ L, L = l.hs.length := ⟨_, rfl⟩
  obtain ⟨M, hM⟩ : ∃ M, M = l.mode := ⟨_, rfl⟩
  unfold Lk.fits
  rw [← hL] at hn hb ⊢
  rw [← hM] at c0 ⊢
  have HT := Lib.hid (fun W => together_any m M W)
  simp at c0 c1
  have d0 := (h1.alloc (.cells #[] 58)).cell 0
  rw [← hM] at d0
  simp at d0
  have g1 : Gr w (w.alloc (.cells #[] 58)) := (Gr.refl w).alloc (Nat.le_refl _) _
  have HG := Lib.hid g1
  by_cases e : o ∈ l.hs
  · rw [decide_eq_true e] at hl
    simp only [e, if_true]
    clear e hL hM h1 h2 g1
    by_cases e1 : ((L : Int) - 1 = 0)
    · have e2 : (((L : Int) - 1) == 0) = true := beq_iff_eq.2 e1
      rw [decide_eq_true e1, Bool.true_or]
      clear e1
      go_enter Tryz.func51, Tryz.ntmps51
      go_wp2_with fail
      go_ret
      exact ⟨rfl, HG.out⟩
    · have e2 : (((L : Int) - 1) == 0) = false := beq_eq_false_iff_ne.2 e1
      rw [decide_eq_false e1, Bool.false_or]
      clear e1
      go_enter Tryz.func51, Tryz.ntmps51
      go_wp2_with fail
      refine (HT.out _).mono ?_
      rintro e w' ⟨rfl, rfl⟩
      go_wp2_with fail
      go_ret
      exact ⟨rfl, HG.out⟩
  · rw [decide_eq_false e] at hl
    simp only [e, if_false]
    clear e hL hM h1 h2 g1
    by_cases e1 : ((L : Int) - 0 = 0)
    · have e2 : ((L : Int) == 0) = true := beq_iff_eq.2 (by omega)
      rw [decide_eq_true e1, Bool.true_or]
      clear e1
      go_enter Tryz.func51, Tryz.ntmps51
      go_wp2_with fail
      go_ret
      exact ⟨rfl, HG.out⟩
    · have e2 : ((L : Int) == 0) = false := beq_eq_false_iff_ne.2 (by omega)
      rw [decide_eq_false e1, Bool.false_or]
      clear e1
      go_enter Tryz.func51, Tryz.ntmps51
      go_wp2_with fail
      refine (HT.out _).mono ?_
      rintro e w' ⟨rfl, rfl⟩
      go_wp2_with fail
      go_ret
      exact ⟨rfl, HG.out⟩
structure Tb.Ok (T : Tb) : Prop where
  holds : ∀ o k, k ∈ (T.of o).ks → ∃ l, T.lk k = some l ∧ o ∈ l.hs
  hs : ∀ k l, T.lk k = some l → l.hs.length ≤ 1000000000
  line : ∀ k l, T.lk k = some l → l.line.length ≤ 1000000000
  key : ∀ o, KL.dom (T.of o).key
end
end Go.Proofs.YtadopbpfnnpnaaaGreat

/-
  A region that draws its order, told slot by slot: what each operation leaves in its slot is said once, in words that stay true as the world grows; then no order is gone through at all. Over whatever program.
-/
namespace Go.Proofs.YtadopbpfnnpnaaaGreat
namespace Flow
open Go

section
variable {P : Program} {ops : Array Oper} {Q : Exit → Act → World → Prop} {md : Region.Mode}

/-- How many operations have not come up. -/
def left (listed : Array Bool) : Nat → Nat
  | 0 => 0
  | n + 1 => left listed n + (if listed.getD n true = true then 0 else 1)

theorem left_zero {listed : Array Bool} : ∀ {n : Nat}, left listed n = 0 → ∀ i, i < n → listed.getD i true = true
  | 0, _, _, h => absurd h (Nat.not_lt_zero _)
  | n + 1, h, i, hi => by
    simp only [left] at h
    by_cases hn : listed.getD n true = true
    · rw [if_pos hn] at h
      by_cases e : i = n
      · subst e; exact hn
      · exact left_zero (n := n) (by omega) i (by omega)
    · rw [if_neg hn] at h; omega
theorem left_same {listed : Array Bool} {i : Nat} : ∀ {n : Nat}, n ≤ i → left (listed.setIfInBounds i true) n = left listed n
  | 0, _ => rfl
  | n + 1, h => by
    simp only [left]
    rw [left_same (n := n) (by omega), getD_set_ne true (by omega)]
theorem left_less {listed : Array Bool} {i : Nat} (hi : listed.getD i true = false) : ∀ {n : Nat}, i < n → left (listed.setIfInBounds i true) n + 1 = left listed n
  | 0, h => absurd h (Nat.not_lt_zero _)
  | n + 1, h => by
    simp only [left]
    by_cases e : i = n
    · subst e
      have hs : i < listed.size := by
        rcases Nat.lt_or_ge i listed.size with h' | h'
        · exact h'
        · simp [Array.getElem?_eq_none h'] at hi
      rw [left_same (Nat.le_refl _), hi]
      have : (listed.setIfInBounds i true).getD i true = true := by simp [hs]
      rw [if_pos this, if_neg (by simp)]
    · rw [getD_set_ne true e, ← left_less hi (n := n) (by omega)]
      omega

/-- Which slots an operation waits for. -/
def needs (md : Region.Mode) (ops : Array Oper) (o : Oper) : List Nat := (o.after.toList.filter fun e => Region.binds md e).filterMap fun e => (ops[e.on]?).bind (·.dst)

/-- The frame, but for the region's own slots, is as it was. -/
structure Same (ops : Array Oper) (a0 a : Act) : Prop where
  defers : a.defers = a0.defers
  size : a.tmps.size = a0.tmps.size
  old : ∀ d, (∀ (i : Nat) (o : Oper), ops[i]? = some o → o.dst ≠ some d) → a.tmps.getD d undef = a0.tmps.getD d undef

theorem Same.at {a0 a : Act} (h : Same ops a0 a) (d : Nat) (hd : (ops.all fun o => o.dst != some d) = true) {v : Value} (hv : a0.tmps.getD d undef = v := by rfl) : a.tmps.getD d undef = v := by
  rw [h.old d fun i o ho => by
    have := Array.all_eq_true_iff_forall_mem.1 hd o (Array.mem_of_getElem? ho)
    simpa using this]
  exact hv

/-- One operation: what its slot holds behind it, wherever it comes up. -/
def Step (P : Program) (md : Region.Mode) (ops : Array Oper) (Q : Exit → Act → World → Prop) (Sl : Nat → Value → World → Prop) (Inv : World → Prop) (G : World → World → Prop) (a0 : Act) (o : Oper) : Prop :=
  ∀ a w, Same ops a0 a → Inv w → (∀ d, (needs md ops o).contains d = true → Sl d (a.tmps.getD d undef) w) →
    ∀ K : Act → World → Prop, (∀ v w', G w w' → Inv w' → (∀ d, o.dst = some d → Sl d v w') → K (a.put o.dst v) w') →
      if Region.wanted o (yielded ops a.tmps) = true then o.wp P a w K Q else K (a.put o.dst undef) w

/-- Each of them. -/
def Steps (P : Program) (md : Region.Mode) (ops : Array Oper) (Q : Exit → Act → World → Prop) (Sl : Nat → Value → World → Prop) (Inv : World → Prop) (G : World → World → Prop) (a0 : Act) : List Oper → Prop
  | [] => True
  | o :: r => Step P md ops Q Sl Inv G a0 o ∧ Steps P md ops Q Sl Inv G a0 r
theorem Steps.cons {Sl : Nat → Value → World → Prop} {Inv : World → Prop} {G : World → World → Prop} {a0 : Act} {o : Oper} {r : List Oper} (h : Step P md ops Q Sl Inv G a0 o) (k : Steps P md ops Q Sl Inv G a0 r) : Steps P md ops Q Sl Inv G a0 (o :: r) := ⟨h, k⟩
theorem Steps.at {Sl : Nat → Value → World → Prop} {Inv : World → Prop} {G : World → World → Prop} {a0 : Act} : ∀ {l : List Oper}, Steps P md ops Q Sl Inv G a0 l → ∀ o ∈ l, Step P md ops Q Sl Inv G a0 o
  | [], _, _, h => by cases h
  | x :: r, h, o, ho => by
    rcases List.mem_cons.1 ho with rfl | ho
    · exact h.1
    · exact Steps.at h.2 o ho

/-- The side conditions, for the kernel: each edge goes back; no two operations have one slot; each slot is in the frame. -/
def fine (n : Nat) (ops : Array Oper) : Bool :=
  ((List.range ops.size).all fun i => match ops[i]? with
    | some o => o.after.all (fun e => decide (e.on < i)) && (match o.dst with
      | some d => decide (d < n) && (List.range i).all fun j => match ops[j]? with
        | some o' => o'.dst != some d
        | none => true
      | none => true)
    | none => true)

theorem fine_down {n : Nat} (h : fine n ops = true) {i : Nat} {o : Oper} (ho : ops[i]? = some o) : ∀ e ∈ o.after, e.on < i := by
  have hi : i < ops.size := (Array.getElem?_eq_some_iff.1 ho).1
  have := List.all_eq_true.1 h i (List.mem_range.2 hi)
  simp only [ho, Bool.and_eq_true] at this
  intro e he
  exact of_decide_eq_true (Array.all_eq_true_iff_forall_mem.1 this.1 e he)
theorem fine_slot {n : Nat} (h : fine n ops = true) {i : Nat} {o : Oper} (ho : ops[i]? = some o) {d : Nat} (hd : o.dst = some d) : d < n ∧ ∀ j o', j < i → ops[j]? = some o' → o'.dst ≠ some d := by
  have hi : i < ops.size := (Array.getElem?_eq_some_iff.1 ho).1
  have := List.all_eq_true.1 h i (List.mem_range.2 hi)
  simp only [ho, hd, Bool.and_eq_true, decide_eq_true_eq] at this
  refine ⟨this.2.1, fun j o' hj ho' => ?_⟩
  have h2 := List.all_eq_true.1 this.2.2 j (List.mem_range.2 hj)
  simp only [ho'] at h2
  simpa using h2
theorem fine_one {n : Nat} (h : fine n ops = true) {i j : Nat} {o o' : Oper} (ho : ops[i]? = some o) (ho' : ops[j]? = some o') {d : Nat} (hd : o.dst = some d) (hd' : o'.dst = some d) : i = j := by
  rcases Nat.lt_trichotomy i j with hlt | heq | hgt
  · exact absurd hd ((fine_slot h ho' hd').2 i o hlt ho)
  · exact heq
  · exact absurd hd' ((fine_slot h ho hd).2 j o' hgt ho')

theorem getD_put_same {a : Act} {d : Nat} {v : Value} (h : d < a.tmps.size) : (a.put (some d) v).tmps.getD d undef = v := by
  simp [Act.put, h]
theorem getD_put_other {a : Act} {x : Option Nat} {d : Nat} {v : Value} (h : x ≠ some d) : (a.put x v).tmps.getD d undef = a.tmps.getD d undef := by
  cases x with
  | none => rfl
  | some e =>
    have hne : e ≠ d := fun he => h (by rw [he])
    simp [Act.put, Array.getElem?_setIfInBounds_ne hne]
theorem put_defers (a : Act) (x : Option Nat) (v : Value) : (a.put x v).defers = a.defers := by cases x <;> rfl
theorem put_size (a : Act) (x : Option Nat) (v : Value) : (a.put x v).tmps.size = a.tmps.size := by cases x <;> simp [Act.put]

variable {Sl : Nat → Value → World → Prop} {Inv : World → Prop} {G : World → World → Prop} {a0 : Act}

theorem walk (hmono : ∀ d v w w', Sl d v w → G w w' → Sl d v w') (hf : fine a0.tmps.size ops = true) (hs : ∀ (i : Nat) (o : Oper), ops[i]? = some o → Step P md ops Q Sl Inv G a0 o)
    (hfin : ∀ a w, Same ops a0 a → Inv w → (∀ (i : Nat) (o : Oper) d, ops[i]? = some o → o.dst = some d → Sl d (a.tmps.getD d undef) w) → Q .normal a w) :
    ∀ (fuel : Nat) (listed : Array Bool) (a : Act) (w : World), left listed ops.size ≤ fuel → listed.size = ops.size → Same ops a0 a → Inv w →
      (∀ (i : Nat) (o : Oper) d, ops[i]? = some o → listed.getD i true = true → o.dst = some d → Sl d (a.tmps.getD d undef) w) → wpAny P md ops Q fuel listed a w := by
  have ends : ∀ (listed : Array Bool) (a : Act) (w : World), (∀ i, i < ops.size → listed.getD i true = true) → Same ops a0 a → Inv w →
      (∀ (i : Nat) (o : Oper) d, ops[i]? = some o → listed.getD i true = true → o.dst = some d → Sl d (a.tmps.getD d undef) w) → Q .normal a w := fun listed a w hl hsame hinv hsl =>
    hfin a w hsame hinv fun i o d ho hd => hsl i o d ho (hl i (Array.getElem?_eq_some_iff.1 ho).1) hd
  have alls : ∀ listed : Array Bool, listed.size = ops.size → Region.ready md ops listed = [] → ∀ i, i < ops.size → listed.getD i true = true := by
    intro listed hsz hr i
    induction i using Nat.strongRecOn with
    | _ i ih =>
      intro hi
      cases hg : listed.getD i true with
      | true => rfl
      | false =>
        exfalso
        have : i ∈ Region.ready md ops listed := mem_ready.2 ⟨hg, ops[i], Array.getElem?_eq_getElem hi, fun e he _ => by
          have hlt := fine_down hf (Array.getElem?_eq_getElem hi) e he
          have h1 := ih e.on hlt (by omega)
          have h2 : e.on < listed.size := by omega
          simp only [Array.getD_eq_getD_getElem?, Array.getElem?_eq_getElem h2, Option.getD_some] at h1 ⊢
          exact h1⟩
        rw [hr] at this
        cases this
  intro fuel
  induction fuel with
  | zero =>
    intro listed a w hl hsz hsame hinv hsl
    have hall := left_zero (listed := listed) (n := ops.size) (by omega)
    refine ⟨?_, ends listed a w hall hsame hinv hsl⟩
    cases hr : Region.ready md ops listed with
    | nil => rfl
    | cons j r =>
      have hj : j ∈ Region.ready md ops listed := by rw [hr]; exact List.mem_cons_self ..
      obtain ⟨hun, o, ho, _⟩ := mem_ready.1 hj
      rw [hall j (Array.getElem?_eq_some_iff.1 ho).1] at hun
      cases hun
  | succ fuel ih =>
    intro listed a w hl hsz hsame hinv hsl
    refine ⟨fun hr => ends listed a w (alls listed hsz hr) hsame hinv hsl, fun i hi => ?_⟩
    obtain ⟨hun, o, ho, hdep⟩ := mem_ready.1 hi
    have hib : i < ops.size := (Array.getElem?_eq_some_iff.1 ho).1
    refine wpOp_step ho fun K hK => hs i o ho a w hsame hinv ?_ K ?_
    · intro d hd
      have hd' : d ∈ needs md ops o := by simpa using hd
      obtain ⟨e, he, hed⟩ := List.mem_filterMap.1 hd'
      obtain ⟨he1, he2⟩ := List.mem_filter.1 he
      cases hoe : ops[e.on]? with
      | none => rw [hoe] at hed; cases hed
      | some oe =>
        rw [hoe] at hed
        have hl1 := hdep e (by simpa using he1) he2
        refine hsl e.on oe d hoe ?_ hed
        have h2 : e.on < listed.size := by have := (Array.getElem?_eq_some_iff.1 hoe).1; omega
        simp only [Array.getD_eq_getD_getElem?, Array.getElem?_eq_getElem h2, Option.getD_some] at hl1 ⊢
        exact hl1
    · intro v w' hg hinv' hv
      refine hK _ _ (ih (listed.setIfInBounds i true) (a.put o.dst v) w' ?_ (by simpa using hsz) ⟨(put_defers ..).trans hsame.defers, (put_size ..).trans hsame.size, fun d hd => ?_⟩ hinv' ?_)
      · have := left_less hun hib; omega
      · rw [getD_put_other (hd i o ho)]; exact hsame.old d hd
      · intro j oj d hoj hlj hdj
        by_cases hji : j = i
        · subst hji
          rw [ho] at hoj
          cases hoj
          have hds := (fine_slot hf ho hdj).1
          rw [hdj, getD_put_same (by rw [hsame.size]; exact hds)]
          exact hv d hdj
        · rw [getD_put_other (fun e => hji (fine_one hf hoj ho hdj e))]
          rw [getD_set_ne true (Ne.symm hji)] at hlj
          exact hmono _ _ _ _ (hsl j oj d hoj hlj hdj) hg

/-- **The law**: a region that draws its order. -/
theorem region {id : Nat} {w : World} (Sl : Nat → Value → World → Prop) (Inv : World → Prop) (G : World → World → Prop) (hm : P.follows .mixedOrders = true) (hf : fine a0.tmps.size ops = true)
    (hmono : ∀ d v w w', Sl d v w → G w w' → Sl d v w') (h0 : Inv w.drew) (hs : Steps P .any ops Q Sl Inv G a0 ops.toList)
    (hfin : ∀ a w, Same ops a0 a → Inv w → (∀ (i : Nat) (o : Oper) d, ops[i]? = some o → o.dst = some d → Sl d (a.tmps.getD d undef) w) → Q .normal a w) :
    (Code.region id ops true).wp P Q a0 w := by
  refine wp_region_any hm ?_
  refine walk hmono hf (fun i o ho => hs.at o (by simpa using Array.mem_of_getElem? ho)) hfin _ _ a0 w.drew ?_ (by simp) ⟨rfl, rfl, fun _ _ => rfl⟩ h0 ?_
  · have : ∀ n, left (Array.replicate ops.size false) n ≤ n := by
      intro n
      induction n with
      | zero => exact Nat.le_refl _
      | succ n ih => simp only [left]; split <;> omega
    exact this _
  · intro i o d ho hl _
    have hi : i < ops.size := (Array.getElem?_eq_some_iff.1 ho).1
    simp [hi] at hl

/-- A guard that is met. -/
theorem wanted_yes {o : Oper} {tmps : Array Value} (g : Nat) (want : Bool) (d : Nat) (hg : o.guard = some (g, want)) (hd : (ops[g]?).bind (·.dst) = some d) (hv : tmps.getD d undef = .bool want) : Region.wanted o (yielded ops tmps) = true := by
  unfold Region.wanted
  rw [hg]
  cases ho : ops[g]? with
  | none => rw [ho] at hd; cases hd
  | some og =>
    rw [ho] at hd
    have hd' : og.dst = some d := hd
    have hv' : tmps[d]?.getD undef = .bool want := by simpa using hv
    have hy : yielded ops tmps g = some want := by
      unfold yielded
      rw [ho]
      simp only [Option.bind_some, hd']
      cases ht : tmps[d]? with
      | none => rw [ht] at hv'; cases want <;> cases hv'
      | some x => rw [ht] at hv'; simp only [Option.getD_some] at hv'; rw [hv']
    simp [hy]
/-- A guard that is not met. -/
theorem wanted_no {o : Oper} {tmps : Array Value} (g : Nat) (want : Bool) (d : Nat) (hg : o.guard = some (g, want)) (hd : (ops[g]?).bind (·.dst) = some d) (hv : tmps.getD d undef = .bool !want) : ¬ Region.wanted o (yielded ops tmps) = true := by
  unfold Region.wanted
  rw [hg]
  cases ho : ops[g]? with
  | none => rw [ho] at hd; cases hd
  | some og =>
    rw [ho] at hd
    have hd' : og.dst = some d := hd
    have hv' : tmps[d]?.getD undef = .bool !want := by simpa using hv
    have hy : yielded ops tmps g = some !want := by
      unfold yielded
      rw [ho]
      simp only [Option.bind_some, hd']
      cases ht : tmps[d]? with
      | none => rw [ht] at hv'; cases want <;> cases hv'
      | some x => rw [ht] at hv'; simp only [Option.getD_some] at hv'; rw [hv']
    cases want <;> simp [hy]
/-- A guard that itself has not come to anything. -/
theorem wanted_undef {o : Oper} {tmps : Array Value} (g : Nat) (want : Bool) (d : Nat) (hg : o.guard = some (g, want)) (hd : (ops[g]?).bind (·.dst) = some d) (hv : tmps.getD d undef = undef) : ¬ Region.wanted o (yielded ops tmps) = true := by
  unfold Region.wanted
  rw [hg]
  cases ho : ops[g]? with
  | none => rw [ho] at hd; cases hd
  | some og =>
    rw [ho] at hd
    have hd' : og.dst = some d := hd
    have hv' : tmps[d]?.getD undef = undef := by simpa using hv
    have hy : yielded ops tmps g = none := by
      unfold yielded
      rw [ho]
      simp only [Option.bind_some, hd']
      cases ht : tmps[d]? with
      | none => rfl
      | some x => rw [ht] at hv'; simp only [Option.getD_some] at hv'; rw [hv']; rfl
    cases want <;> simp [hy]
theorem wanted_none {o : Oper} {tmps : Array Value} (hg : o.guard = none) : Region.wanted o (yielded ops tmps) = true := by
  unfold Region.wanted
  rw [hg]

end
end Flow
end Go.Proofs.YtadopbpfnnpnaaaGreat

/-
  A region that draws its order, told slot by slot, where one operation may spoil what a slot holds that nobody looks at any more (an append onto the call's own row): the world's growth is said operation by operation, and a slot must bear it only where it can be there already and is still looked at. Over whatever program.
-/
namespace Go.Proofs.YtadopbpfnnpnaaaGreat
namespace Flow
open Go

section
variable {P : Program} {ops : Array Oper} {Q : Exit → Act → World → Prop} {md : Region.Mode}

variable {Sl : Nat → Value → World → Prop} {Inv : World → Prop} {G : Nat → World → World → Prop} {a0 : Act}

/-- The frame behind a region: its own slots d are read off it, all others are as they were. -/
theorem frame {a0 a : Act} (h : Same ops a0 a) (ds : List Nat) (l : List Nat) (hl : l = List.range a0.tmps.size) (hd : (l.all fun i => ds.contains i || ops.all fun o => o.dst != some i) = true) :
    a = { tmps := (l.map fun i => if ds.contains i then a.tmps.getD i undef else a0.tmps.getD i undef).toArray, defers := a0.defers } := by
  obtain ⟨t, df⟩ := a
  have h1 : df = a0.defers := h.defers
  have h2 : t.size = a0.tmps.size := h.size
  subst h1
  congr 1
  apply Array.ext
  · simp [hl, h2]
  · intro i h3 h4
    have hi : i < a0.tmps.size := by omega
    have hm := List.all_eq_true.1 hd i (by rw [hl]; exact List.mem_range.2 hi)
    have e1 : t.getD i undef = t[i] := by simp [h3]
    simp only [hl, List.getElem_toArray, List.getElem_map, List.getElem_range]
    by_cases hc : ds.contains i = true
    · rw [if_pos hc, e1]
    · rw [if_neg hc, ← e1]
      have : ds.contains i = false := by simpa using hc
      rw [this, Bool.false_or] at hm
      exact h.at i hm
end
end Flow
end Go.Proofs.YtadopbpfnnpnaaaGreat

