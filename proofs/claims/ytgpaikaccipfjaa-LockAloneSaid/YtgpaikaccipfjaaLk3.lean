
/-
  The code's table of locks: has, fits, may, Holds, Len.
-/
import Derived.Test.YtgpaikaccipfjaaLk2
namespace Go.Proofs.Ytgpaikaccipfjaa
open Go.RowKit Go.Maps

/-- A set of keys, perhaps a nil one. -/
def HsAt (w : World) (h : Option Nat) (ks : List Key) : Prop := (h = none ∧ ks = []) ∨ ∃ n, h = some n ∧ Mp Try.prog KL w n (unitF ks) ks
theorem HsAt.gr {w w' : World} {h : Option Nat} {ks : List Key} (H : HsAt w h ks) (g : Gr w w') : HsAt w' h ks := by
  rcases H with H | ⟨n, h1, h2⟩
  · exact .inl H
  · exact .inr ⟨n, h1, h2.stays (g.block n h2.lt)⟩
theorem HsAt.look {w : World} {h : Option Nat} {ks : List Key} (H : HsAt w h ks) {k : Key} (hk : KL.dom k) : (Instr.lookup TMs (.map h) (kv k) true).run Try.prog w = .ok (.tuple #[.agg #[], .bool (decide (k ∈ ks))]) w := by
  rcases H with ⟨rfl, rfl⟩ | ⟨n, rfl, h2⟩
  · have := Maps.look_nil true KL_ok.keyed (t := TMs) Try.underlying59 (w := w) (Try.zeroValue88 w) (KL_ok.key k hk)
    rw [show KL.val k = kv k from rfl] at this
    simpa using this
  · have := h2.look_ok KL_ok (t := TMs) Try.underlying59 (Try.zeroValue88 w) hk
    rw [show KL.val k = kv k from rfl] at this
    rw [this]
    unfold unitF
    by_cases e : k ∈ ks
    · simp [e]
    · simp [e]
theorem TbAt.hs {w : World} {t km om : Nat} {B : Tag → Option Nat} {T : Tb} (h : TbAt w t km om B T) (o : Nat) : HsAt w (B (.pm o)) (T.of o).ks := by
  unfold Tb.of
  cases e : T.py o with
  | none => exact .inl ⟨(h.py0 o e).2, rfl⟩
  | some p =>
    obtain ⟨b, h', h1, h2, h3, h4⟩ := h.py o p e
    exact .inr ⟨h', h2, h4⟩
set_option maxRecDepth 100000 in
theorem has_any (w : World) {h : Option Nat} {ks : List Key} {a b m : Value} (ha : a.cells = #[a]) (hb : b.cells = #[b]) (hm : m.cells = #[m]) (H : HsAt w h ks) {k : Key} (hk : KL.dom k) :
    Calls Try.prog 30 #[.agg #[.map h, a, b, m], kv k] w fun e w' => e = .returned (.bool (decide (k ∈ ks))) ∧ Gr w w' := by
  have g1 : Gr w ((w.alloc (.cells #[.map h, a, b, m] TPy)).alloc (.cells #[.int .i64 k.1, .int .i64 k.2] TKey)) := ((Gr.refl w).alloc (Nat.le_refl _) _).alloc (by simp) _
  have hl := (H.gr g1).look hk
  obtain ⟨X, hX⟩ : ∃ X, X = decide (k ∈ ks) := ⟨_, rfl⟩
  rw [← hX] at hl ⊢
  unfold kv at hl ⊢
  have HG := Lib.hid g1
  clear H hX g1 hk
  go_enter Try.func30, Try.ntmps30
  go_wp2_with fail
  go_ret
  exact ⟨rfl, HG.out.alloc (Nat.le_trans (by simp; omega) (Nat.le_refl _)) _⟩
/-- Two modes go together. -/
def tog (a b : Int) : Bool := decide (a = 1) && decide (b = 1)
def Lk.fits (l : Lk) (o : Nat) (m : Int) : Bool := decide ((l.hs.length : Int) - (if o ∈ l.hs then 1 else 0) = 0) || tog m l.mode
def Tb.may (T : Tb) (o : Nat) (k : Key) (m : Int) : Bool :=
  match T.lk k with
  | none => true
  | some l => l.fits o m && (decide (k ∈ (T.of o).ks) || decide ((l.line.length : Int) = 0))
set_option maxRecDepth 100000 in
theorem together_any (a b : Int) (w : World) : Calls Try.prog 31 #[.int .i64 a, .int .i64 b] w fun e w' => e = .returned (.bool (tog a b)) ∧ w = w' := by
  by_cases ha : a = 1
  · by_cases hb : b = 1
    · subst ha hb
      go_enter Try.func31, Try.ntmps31
      go_wp2
      go_ret
      exact ⟨rfl, rfl⟩
    · subst ha
      have e : (b == 1) = false := beq_eq_false_iff_ne.2 hb
      have hv : tog 1 b = false := by unfold tog; simp [hb]
      rw [hv]
      clear hb hv
      go_enter Try.func31, Try.ntmps31
      go_wp2
      go_ret
      exact ⟨rfl, rfl⟩
  · have e : (a == 1) = false := beq_eq_false_iff_ne.2 ha
    have hv : tog a b = false := by unfold tog; simp [ha]
    rw [hv]
    clear ha hv
    go_enter Try.func31, Try.ntmps31
    go_wp2
    go_ret
    exact ⟨rfl, rfl⟩
section
variable {w : World} {t km om : Nat} {B : Tag → Option Nat} {T : Tb}
theorem holders_look {w : World} {n : Nat} {hs : List Nat} (H : Mp Try.prog KO w n (unitF hs) hs) {o : Nat} (ho : KO.dom o) : (Instr.lookup TMh (.map (some n)) (.int .u64 (o : Int)) true).run Try.prog w = .ok (.tuple #[.agg #[], .bool (decide (o ∈ hs))]) w := by
  have := H.look_ok KO_ok (t := TMh) Try.underlying67 (Try.zeroValue88 w) ho
  rw [show KO.val o = .int .u64 (o : Int) from rfl] at this
  rw [this]
  unfold unitF
  by_cases e : o ∈ hs
  · simp [e]
  · simp [e]
set_option maxRecDepth 100000 in
theorem fits_any {b n : Nat} {v : Value} {l : Lk} (h1 : Blk w b TLk #[.int .i64 l.mode, .map (some n), v]) (h2 : Mp Try.prog KO w n (unitF l.hs) l.hs) (hb : l.hs.length ≤ 1000000000) {o : Nat} (ho : KO.dom o) (m : Int) :
    Calls Try.prog 42 #[.pointer (some ⟨b, 0, none⟩), .int .u64 (o : Int), .int .i64 m] w fun e w' => e = .returned (.bool (l.fits o m)) ∧ Gr w w' := by
  have c0 := h1.cell 0
  have c1 := h1.cell 1
  have hl := holders_look h2 ho
  have hn : (Builtin.len_ #[TMh] TI #[.map (some n)]).run Try.prog w = .ok (.int .i64 (l.hs.length : Int)) w := h2.len KO_ok Try.underlying67 TI
  obtain ⟨L, hL⟩ : ∃ L, L = l.hs.length := ⟨_, rfl⟩
  obtain ⟨M, hM⟩ : ∃ M, M = l.mode := ⟨_, rfl⟩
  unfold Lk.fits
  rw [← hL] at hn hb ⊢
  rw [← hM] at c0 ⊢
  have HT := Lib.hid (fun W => together_any m M W)
  simp at c0 c1
  have d0 := (h1.alloc (.cells #[] 88)).cell 0
  rw [← hM] at d0
  simp at d0
  have g1 : Gr w (w.alloc (.cells #[] 88)) := (Gr.refl w).alloc (Nat.le_refl _) _
  have HG := Lib.hid g1
  by_cases e : o ∈ l.hs
  · rw [decide_eq_true e] at hl
    simp only [e, if_true]
    clear e hL hM h1 h2 g1
    by_cases e1 : ((L : Int) - 1 = 0)
    · have e2 : (((L : Int) - 1) == 0) = true := beq_iff_eq.2 e1
      rw [decide_eq_true e1, Bool.true_or]
      clear e1
      go_enter Try.func42, Try.ntmps42
      go_wp2_with fail
      go_ret
      exact ⟨rfl, HG.out⟩
    · have e2 : (((L : Int) - 1) == 0) = false := beq_eq_false_iff_ne.2 e1
      rw [decide_eq_false e1, Bool.false_or]
      clear e1
      go_enter Try.func42, Try.ntmps42
      go_wp2_with fail
      refine (HT.out _).mono ?_
      rintro e w' ⟨rfl, rfl⟩
      go_wp2_with fail
      go_ret
      exact ⟨rfl, HG.out⟩
  · rw [decide_eq_false e] at hl
    simp only [e, if_false]
    clear e hL hM h1 h2 g1
    by_cases e1 : ((L : Int) - 0 = 0)
    · have e2 : ((L : Int) == 0) = true := beq_iff_eq.2 (by omega)
      rw [decide_eq_true e1, Bool.true_or]
      clear e1
      go_enter Try.func42, Try.ntmps42
      go_wp2_with fail
      go_ret
      exact ⟨rfl, HG.out⟩
    · have e2 : ((L : Int) == 0) = false := beq_eq_false_iff_ne.2 (by omega)
      rw [decide_eq_false e1, Bool.false_or]
      clear e1
      go_enter Try.func42, Try.ntmps42
      go_wp2_with fail
      refine (HT.out _).mono ?_
      rintro e w' ⟨rfl, rfl⟩
      go_wp2_with fail
      go_ret
      exact ⟨rfl, HG.out⟩
structure Tb.Ok (T : Tb) : Prop where
  holds : ∀ o k, k ∈ (T.of o).ks → ∃ l, T.lk k = some l ∧ o ∈ l.hs
  hs : ∀ k l, T.lk k = some l → l.hs.length ≤ 1000000000
  line : ∀ k l, T.lk k = some l → l.line.length ≤ 1000000000
  key : ∀ o, KL.dom (T.of o).key
end
end Go.Proofs.Ytgpaikaccipfjaa
