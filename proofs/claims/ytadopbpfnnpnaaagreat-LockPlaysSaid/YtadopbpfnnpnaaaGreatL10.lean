/-
  Texts on locks, put together: Lk17.
-/
import Derived.Test.YtadopbpfnnpnaaaGreatL9
set_option linter.unusedVariables false
set_option linter.unusedSimpArgs false
/-
  The code's table of locks: next.
-/
namespace Go.Proofs.YtadopbpfnnpnaaaGreat
open Go.RowKit Go.Maps

def SlNextA (bl : Nat) (N : Nat) (cp : Nat) (_ : Nat) (p : Option Addr) (_ : Int) (slot : Nat) (v : Value) (_ : World) : Prop :=
  match slot with
  | 15 | 16 => v = .pointer (some ⟨bl, 0, none⟩)
  | 17 => v = .pointer (some ⟨bl, 2, none⟩)
  | 18 => v = .slice p N cp
  | 19 => v = .int .i64 N
  | 20 | 21 | 38 => v = .bool false
  | _ => True

def SlNextB (bl : Nat) (N : Nat) (cp : Nat) (_ : Nat) (lb : Nat) (off : Nat) (o2 : Nat) (_ : Int) (m2 : Int) (slot : Nat) (v : Value) (_ : World) : Prop :=
  match slot with
  | 15 | 16 | 22 | 23 | 24 | 30 | 31 => v = .pointer (some ⟨bl, 0, none⟩)
  | 17 | 25 | 32 => v = .pointer (some ⟨bl, 2, none⟩)
  | 18 | 26 | 33 => v = .slice (some ⟨lb, 2 * off, none⟩) N cp
  | 19 => v = .int .i64 N
  | 20 | 21 => v = .bool true
  | 27 | 28 | 34 => v = .pointer (some ⟨lb, 2 * off, none⟩)
  | 29 => v = .int .u64 (o2 : Int)
  | 35 => v = .pointer (some ⟨lb, 2 * off + 1, none⟩)
  | 36 => v = .int .i64 m2
  | 37 | 38 => v = .bool false
  | _ => True

def SlNextC (bl : Nat) (N : Nat) (cp : Nat) (_ : Nat) (lb : Nat) (off : Nat) (o2 : Nat) (_ : Int) (m2 : Int) (slot : Nat) (v : Value) (_ : World) : Prop :=
  match slot with
  | 15 | 16 | 22 | 23 | 24 | 30 | 31 => v = .pointer (some ⟨bl, 0, none⟩)
  | 17 | 25 | 32 => v = .pointer (some ⟨bl, 2, none⟩)
  | 18 | 26 | 33 => v = .slice (some ⟨lb, 2 * off, none⟩) N cp
  | 19 => v = .int .i64 N
  | 20 | 21 | 37 | 38 => v = .bool true
  | 27 | 28 | 34 => v = .pointer (some ⟨lb, 2 * off, none⟩)
  | 29 => v = .int .u64 (o2 : Int)
  | 35 => v = .pointer (some ⟨lb, 2 * off + 1, none⟩)
  | 36 => v = .int .i64 m2
  | _ => True


/-- One that stands first in a line stands there no more. -/
def Tb.pop (T : Tb) (k : Key) (o : Nat) (r : List (Nat × Int)) : Tb :=
  { T with many := T.many - 1, lk := updF T.lk k (some { T.lkOf k with line := r, pop := true }), py := updF T.py o (some { T.of o with key := (0, 0), mode := 0 }) }
def Tb.nextN : Nat → Tb → Key → List Nat → List Nat × Tb
  | 0, T, _, c => (c, T)
  | n + 1, T, k, c => match (T.lkOf k).line with
    | [] => (c, T)
    | (o, m) :: r => if (T.lkOf k).fits o m = true then Tb.nextN n ((T.pop k o r).give o k m) k (c ++ [o]) else (c, T)
/-- What the way wants of the table as it goes. -/
def Tb.Good (T : Tb) (k : Key) : Prop :=
  (T.lkOf k).hs.length ≤ 1000000000 ∧ (T.lkOf k).line.length ≤ 1000000000 ∧ T.oo.length ≤ 1000000000 ∧ T.kk.length ≤ 1000000000 ∧ -999999999 ≤ T.many ∧ T.many ≤ 1000000000 ∧
    ∀ o m r, (T.lkOf k).line = (o, m) :: r → KO.dom o ∧ (T.py o).isSome = true ∧ (T.of o).ks.length ≤ 1000000000
theorem nextN_nil {n : Nat} {T : Tb} {k : Key} {c : List Nat} (h : (T.lkOf k).line = []) : Tb.nextN n T k c = (c, T) := by
  cases n with
  | zero => rfl
  | succ n => unfold Tb.nextN; rw [h]
theorem nextN_no {n : Nat} {T : Tb} {k : Key} {c : List Nat} {o : Nat} {m : Int} {r : List (Nat × Int)} (h : (T.lkOf k).line = (o, m) :: r) (hf : (T.lkOf k).fits o m = false) : Tb.nextN n T k c = (c, T) := by
  cases n with
  | zero => rfl
  | succ n => unfold Tb.nextN; rw [h]; simp [hf]
theorem nextN_yes {n : Nat} {T : Tb} {k : Key} {c : List Nat} {o : Nat} {m : Int} {r : List (Nat × Int)} (h : (T.lkOf k).line = (o, m) :: r) (hf : (T.lkOf k).fits o m = true) : Tb.nextN (n + 1) T k c = Tb.nextN n ((T.pop k o r).give o k m) k (c ++ [o]) := by
  rw [Tb.nextN, h]; simp [hf]
theorem give_lkOf (T : Tb) (o : Nat) (k : Key) (m : Int) : (T.give o k m).lk k = some { T.lkOf k with mode := m, hs := putK o (T.lkOf k).hs } := by
  unfold Tb.give
  simp only [updF_same, ready_lkOf]
theorem pop_lk (T : Tb) (k : Key) (o : Nat) (r : List (Nat × Int)) : (T.pop k o r).lk k = some { T.lkOf k with line := r, pop := true } := by
  unfold Tb.pop
  simp [updF_same]
theorem lkOf_of {T : Tb} {k : Key} {l : Lk} (h : T.lk k = some l) : T.lkOf k = l := by unfold Tb.lkOf; rw [h]; rfl
/-- Who comes to it, and the table then. -/
def Tb.nextC (T : Tb) (k : Key) : List Nat := (Tb.nextN (T.lkOf k).line.length T k []).1
def Tb.nextT0 (T : Tb) (k : Key) : Tb := (Tb.nextN (T.lkOf k).line.length T k []).2
def Tb.nextT (T : Tb) (k : Key) : Tb := if ((T.nextT0 k).lkOf k).hs = [] then { T.nextT0 k with lk := updF (T.nextT0 k).lk k none, kk := delK k (T.nextT0 k).kk } else T.nextT0 k
def RetNext (t km om : Nat) (B : Tag → Option Nat) (T : Tb) (k : Key) (w : World) (e : Ending) (w' : World) : Prop :=
  ∃ v B', e = .returned v ∧ Us w' w.heap.size v (T.nextC k) ∧ TbAt w' t km om B' (T.nextT k) ∧ Tn w w' B B' ∧ (∀ g, v.ownBlock = some g → ¬ FB B' g)
section
variable {w : World} {t km om : Nat} {B : Tag → Option Nat} {T : Tb}
/-- A block of cells of another type is none of the table's. -/
theorem TbAt.far_ty (h : TbAt w t km om B T) {g : Nat} {cs : Array Value} {ty : TypeId} (hb : w.heap[g]? = some (.cells cs ty (0, 0))) (h1 : ty ≠ TTb) (h2 : ty ≠ TLk) (h3 : ty ≠ TPy) (h4 : ty ≠ TWt) : ¬ FB B g := fun ⟨a, ha⟩ => by
  have nm : ∀ {f : Nat → Option Value} {f2 : Key → Option Value} {ks : List Nat} {ks2 : List Key}, ¬ Mp Tryz.prog KO w g f ks ∧ ¬ Mp Tryz.prog KL w g f2 ks2 := fun {f f2 ks ks2} =>
    ⟨(fun e => by obtain ⟨es, c, e1⟩ := e.isMap; rw [hb] at e1; cases e1), (fun e => by obtain ⟨es, c, e1⟩ := e.isMap; rw [hb] at e1; cases e1)⟩
  have nb : ∀ {ty2 : TypeId} {cs2 : Array Value}, ty ≠ ty2 → ¬ Blk w g ty2 cs2 := fun hne e => by
    unfold Blk at e
    rw [hb] at e
    cases e
    exact hne rfl
  cases a with
  | tb => have := h.bt; rw [ha] at this; cases this; exact nb h1 h.blk
  | km => have := h.bk; rw [ha] at this; cases this; exact (nm (f := fun _ => none) (ks := [])).2 h.keys
  | om => have := h.bo; rw [ha] at this; cases this; exact (nm (f2 := fun _ => none) (ks2 := [])).1 h.owners
  | lk k =>
    cases hk : T.lk k with
    | none => rw [(h.lk0 k hk).1] at ha; cases ha
    | some l =>
      obtain ⟨b, h', v, e1, e2, e3, e4, e5⟩ := h.lk k l hk
      rw [ha] at e1; cases e1; exact nb h2 e3
  | hm k =>
    cases hk : T.lk k with
    | none => rw [(h.lk0 k hk).2.1] at ha; cases ha
    | some l =>
      obtain ⟨b, h', v, e1, e2, e3, e4, e5⟩ := h.lk k l hk
      rw [ha] at e2; cases e2; exact (nm (f2 := fun _ => none) (ks2 := [])).1 e4
  | ln k =>
    cases hk : T.lk k with
    | none => rw [(h.lk0 k hk).2.2] at ha; cases ha
    | some l =>
      obtain ⟨b, h', v, e1, e2, e3, e4, e5⟩ := h.lk k l hk
      rcases e5 with ⟨r1, _⟩ | ⟨b', off, cap, cs', r1, r2, r3, _⟩
      · rw [ha] at r1; cases r1
      · rw [ha] at r1; cases r1; exact nb h4 r3
  | py o =>
    cases ho : T.py o with
    | none => rw [(h.py0 o ho).1] at ha; cases ha
    | some p =>
      obtain ⟨b, h', e1, e2, e3, e4⟩ := h.py o p ho
      rw [ha] at e1; cases e1; exact nb h3 e3
  | pm o =>
    cases ho : T.py o with
    | none => rw [(h.py0 o ho).2] at ha; cases ha
    | some p =>
      obtain ⟨b, h', e1, e2, e3, e4⟩ := h.py o p ho
      rw [ha] at e2; cases e2; exact (nm (f := fun _ => none) (ks := [])).2 e4
theorem Us.far {w : World} {base : Nat} {v : Value} {xs : List Nat} (hu : Us w base v xs) (h : TbAt w t km om B T) : ∀ g, v.ownBlock = some g → ¬ FB B g := fun g hg => by
  rcases hu.2 with ⟨h0, _⟩ | ⟨g', cap, cur, h0, hb, hh, _⟩
  · rw [h0] at hg; cases hg
  · rw [h0] at hg; cases hg
    exact h.far_ty hh (by decide) (by decide) (by decide) (by decide)
theorem Us.base {w : World} {b b' : Nat} {v : Value} {xs : List Nat} (h : Us w b v xs) (hb : b' ≤ b) : Us w b' v xs := by
  refine ⟨h.1, ?_⟩
  rcases h.2 with h0 | ⟨g, cap, cur, h1, h2, r⟩
  · exact .inl h0
  · exact .inr ⟨g, cap, cur, h1, Nat.le_trans hb h2, r⟩
theorem Us.tn {w w' : World} {B B' : Tag → Option Nat} {base : Nat} {v : Value} {xs : List Nat} (h : Us w base v xs) (k : Tn w w' B B') (hn : ∀ g, v.ownBlock = some g → ¬ FB B g) : Us w' base v xs :=
  h.stays fun g hg => k.onl.block g (h.lt g hg).2 (hn g hg)
/-- A line whose first one goes. -/
theorem ln_pop {w : World} {lb off cp o : Nat} {m : Int} {r : List (Nat × Int)} {cs : Array Value} (hb : Blk w lb TWt cs) (h1 : r.length + 1 ≤ cp) (h2 : cp ≤ maxLen) (h3 : 2 * off + 2 * cp ≤ cs.size)
    (h4 : ∀ i u, (wcells ((o, m) :: r))[i]? = some u → cs[2 * off + i]? = some u) :
    (1 < cp → LnAt w (some lb) (.slice (some ⟨lb, 2 * off + 2, none⟩) r.length (cp - 1)) r true) ∧ (¬ 1 < cp → LnAt w (some lb) (.slice (some ⟨lb, 2 * off, none⟩) r.length (cp - 1)) r true) := by
  refine ⟨fun h => .inr ⟨lb, off + 1, cp - 1, cs, rfl, rfl, hb, by omega, by omega, by omega, fun i u hi => ?_, fun e => by cases e⟩, fun h => .inr ⟨lb, off, cp - 1, cs, rfl, rfl, hb, by omega, by omega, by omega, fun i u hi => ?_, fun e => by cases e⟩⟩
  · have := h4 (i + 2) u (by
      show ([Value.int .u64 (o : Int), .int .i64 m] ++ wcells r)[i + 2]? = some u
      simpa using hi)
    rw [← this]
    congr 1
    omega
  · have h0 : r = [] := List.eq_nil_of_length_eq_zero (by omega)
    rw [h0] at hi
    cases i <;> cases hi
theorem TbAt.popLine {w2 : World} (h : TbAt w t km om B T) {k : Key} {l : Lk} (hl : T.lk k = some l) {r : List (Nat × Int)} {bl : Nat} (e1 : B (.lk k) = some bl) (g : Gr w w2) (v1 : Value) (hv : LnAt w (B (.ln k)) v1 r true) :
    TbAt (w2.setCell ⟨bl, 2, none⟩ v1) t km om B { T with lk := updF T.lk k (some { l with line := r, pop := true }) } ∧ Tn w (w2.setCell ⟨bl, 2, none⟩ v1) B B := by
  obtain ⟨b, hm, v, q1, q2, q3, q4, q5⟩ := h.lk k l hl
  rw [e1] at q1
  cases q1
  have hw : Onl (fun n => B (.lk k) = some n ∨ B (.hm k) = some n ∨ B (.ln k) = some n) w (w2.setCell ⟨bl, 2, none⟩ v1) :=
    (Onl.of_gr g).trans (Onl.of_set (S := fun n => B (.lk k) = some n ∨ B (.hm k) = some n ∨ B (.ln k) = some n) v1 (.inl e1)) (fun _ _ e => e)
  have hne := @TbAt.ne w t km om B T h
  have hk : ∀ n, n < w.heap.size → n ≠ bl → (w2.setCell ⟨bl, 2, none⟩ v1).heap[n]? = w.heap[n]? := fun n h1 h2 => (Below.heap_setCell _ _ _ _ h2).trans (g.block n h1)
  have hb := (q3.gr g).set 2 v1
  simp at hb
  have := h.setLk hl (l' := { l with line := r, pop := true }) (ol := B (.ln k)) hw ⟨bl, hm, v1, e1, q2, hb, q4.stays (hk _ q4.lt (hne q2 e1 (by simp))), hv.stays fun n hn => hk n (h.lt _ n hn) (hne hn e1 (by simp))⟩ (fun n hn => .inl hn)
  rwa [updF_self] at this
theorem TbAt.popParty (h : TbAt w t km om B T) {o : Nat} {p : Py} (ho : T.py o = some p) {pb : Nat} (e1 : B (.py o) = some pb) :
    TbAt (((w.setCell ⟨pb, 1, none⟩ (.int .i64 0)).setCell ⟨pb, 2, none⟩ (.int .i64 0)).setCell ⟨pb, 3, none⟩ (.int .i64 0)) t km om B { T with py := updF T.py o (some { p with key := (0, 0), mode := 0 }) } ∧ Tn w (((w.setCell ⟨pb, 1, none⟩ (.int .i64 0)).setCell ⟨pb, 2, none⟩ (.int .i64 0)).setCell ⟨pb, 3, none⟩ (.int .i64 0)) B B := by
  obtain ⟨b, hm, q1, q2, q3, q4⟩ := h.py o p ho
  rw [e1] at q1
  cases q1
  have hs := fun (u : World) (i : Nat) (v : Value) => Onl.of_set (S := fun n => B (.py o) = some n ∨ B (.pm o) = some n) (w := u) (a := ⟨pb, i, none⟩) v (.inl e1)
  have hw : Onl (fun n => B (.py o) = some n ∨ B (.pm o) = some n) w (((w.setCell ⟨pb, 1, none⟩ (.int .i64 0)).setCell ⟨pb, 2, none⟩ (.int .i64 0)).setCell ⟨pb, 3, none⟩ (.int .i64 0)) :=
    ((hs _ 1 _).trans (hs _ 2 _) (fun _ _ e => e)).trans (hs _ 3 _) (fun _ _ e => e)
  have hb := ((q3.set 1 (.int .i64 0)).set 2 (.int .i64 0)).set 3 (.int .i64 0)
  simp at hb
  refine h.setPy ho hw ⟨pb, hm, e1, q2, hb, q4.stays ?_⟩
  have hne := h.ne q2 e1 (by simp)
  rw [Below.heap_setCell _ _ _ _ hne, Below.heap_setCell _ _ _ _ hne, Below.heap_setCell _ _ _ _ hne]
set_option maxRecDepth 100000 in
set_option maxHeartbeats 8000000 in
theorem next_any (h : TbAt w t km om B T) {k : Key} (hk : KL.dom k) (hlk : (T.lk k).isSome = true) (hgood : ∀ n, n ≤ (T.lkOf k).line.length → (Tb.nextN n T k []).2.Good k) :
    Calls Tryz.prog 41 #[.pointer (some ⟨t, 0, none⟩), kv k] w (RetNext t km om B T k w) := by
  have g1 : Gr w (w.alloc (.cells #[.int .i64 k.1, .int .i64 k.2] TKey)) := (Gr.refl w).alloc (Nat.le_refl _) _
  have b6 := (Blk.new w TKey #[.int .i64 k.1, .int .i64 k.2])
  obtain ⟨k1, hk1⟩ : ∃ x, x = k.1 := ⟨_, rfl⟩
  obtain ⟨k2, hk2⟩ : ∃ x, x = k.2 := ⟨_, rfl⟩
  show Calls Tryz.prog 41 #[.pointer (some ⟨t, 0, none⟩), .agg #[.int .i64 k.1, .int .i64 k.2]] w _
  rw [← hk1, ← hk2] at g1 b6 ⊢
  have hkv : kv k = .agg #[.int .i64 k1, .int .i64 k2] := by rw [hk1, hk2]; rfl
  obtain ⟨W0, hW0⟩ : ∃ W0, W0 = w.alloc (.cells #[.int .i64 k1, .int .i64 k2] TKey) := ⟨_, rfl⟩
  rw [← hW0] at g1 b6
  have h1 := h.gr g1
  obtain ⟨l0, hl0⟩ := Option.isSome_iff_exists.1 hlk
  obtain ⟨bl, hm0, v0, e1, e2, e3, e4, e5⟩ := h1.lk k l0 hl0
  have hl : ∀ q, (Instr.lookup TMk (.map (some km)) (.agg #[.int .i64 k1, .int .i64 k2]) false).run Tryz.prog (W0.drewN q) = .ok (.pointer (some ⟨bl, 0, none⟩)) (W0.drewN q) := fun q => by
    have := (h1.stays (w' := W0.drewN q) (fun _ _ _ => rfl)).look hk
    rw [hkv, e1] at this
    exact this
  have c0 := h1.c3.1
  have x0 := b6.cell 0
  have x1 := b6.cell 1
  simp at x0 x1
  obtain ⟨kb, hkb⟩ : ∃ kb, kb = w.heap.size := ⟨_, rfl⟩
  rw [← hkb] at b6 x0 x1
  have HH := Lib.hid (And.intro h (And.intro h1 (And.intro hgood (And.intro g1 (And.intro b6 (And.intro e1 hl0))))))
  have HW := Lib.hid (And.intro hW0 hkb)
  have HKV := Lib.hid hkv
  clear h h1 hgood g1 b6 e1 e2 e3 e4 e5 hl0 hW0 hkb hk1 hk2 hkv hlk
  go_enter Tryz.func41, Tryz.ntmps41
  go_upto_region 1 with fail
  rw [show (w.alloc (.cells #[.int .i64 k1, .int .i64 k2] 33)) = W0 from HW.out.1.symm, ← HW.out.2]
  go_quiet (fail)
  rename_i nq
  clear hl c0 x0 x1
  have HG0 : Hid (Gr W0 (W0.drewN nq)) := Lib.hid (grD (Gr.refl _))
  obtain ⟨W1, hW1⟩ : ∃ W1, W1 = W0.drewN nq := ⟨_, rfl⟩
  rw [← hW1] at HG0 ⊢
  clear hW1
  go_wp2_with fail
  go_loopw [6] (fun s6 wr => ∃ n T' B' c, Hid (Us wr W1.heap.size s6 c ∧ Tb.nextN n T' k c = Tb.nextN (T.lkOf k).line.length T k [] ∧ (T'.lkOf k).line.length ≤ n ∧ c.length + n ≤ (T.lkOf k).line.length ∧ TbAt wr t km om B' T' ∧ Tn W1 wr B B' ∧ B' (.lk k) = some bl ∧ (T'.lk k).isSome = true ∧ (∀ i, i ≤ n → (Tb.nextN i T' k c).2.Good k))) (fun _ wr => lenOf ((wr.cell? ⟨bl, 2, none⟩).getD undef))
  case atStart =>
    obtain ⟨h, h1, hgood, g1, b6, e1, hl0⟩ := HH.out
    exact ⟨_, T, B, [], Lib.hid ⟨Us.nil _ _, rfl, Nat.le_refl _, by simp, h1.gr HG0.out, Tn.refl _ _, e1, by rw [hl0]; rfl, hgood⟩⟩
  case round =>
    obtain ⟨n, T', B', c, HR⟩ := hrel
    obtain ⟨hu, hn, hle, hnl, tr, tn, eb, hls, hg⟩ := HR.out
    obtain ⟨l, hl⟩ := Option.isSome_iff_exists.1 hls
    have hlo : T'.lkOf k = l := lkOf_of hl
    have hg0 := hg 0 (Nat.zero_le _)
    obtain ⟨q1, q2, q3, q4, q5, q6, q7⟩ := (show T'.Good k from hg0)
    rw [hlo] at q1 q2 q7 hle
    obtain ⟨bl', hm, v, e1, e2, e3, e4, e5⟩ := tr.lk k l hl
    rw [eb] at e1
    cases e1
    obtain ⟨p, N, cp, hv, hN⟩ : ∃ p N cp, v = .slice p N cp ∧ N = l.line.length := by
      rcases e5 with ⟨r1, r2, r3⟩ | ⟨b', off, cap, cs, r1, r2, _⟩
      · exact ⟨none, 0, 0, r2, by rw [r3]; rfl⟩
      · exact ⟨_, l.line.length, cap, r2, rfl⟩
    subst hv
    have HL := Lib.hid (fun V (g : Gr wr V) => e3.gr g)
    have b6r : Blk wr kb TKey #[.int .i64 k1, .int .i64 k2] := tn.blk (HH.out.2.2.2.2.1.gr HG0.out) (HH.out.2.1.far_ty HH.out.2.2.2.2.1 (by decide) (by decide) (by decide) (by decide))
    have HB := Lib.hid (fun V (g : Gr wr V) => b6r.gr g)
    obtain ⟨LM, hLM⟩ : ∃ LM, LM = l.mode := ⟨_, rfl⟩
    rw [← hLM] at HL
    have HI := Lib.hid (And.intro hl (And.intro hlo (And.intro e2 (And.intro e4 (And.intro e5 hN)))))
    cases hline : l.line with
    | nil =>
      have hN0 : N = 0 := by rw [hN, hline]; rfl
      have HEnd := Lib.hid (show Tb.nextN n T' k c = (c, T') from nextN_nil (by rw [hlo, hline]))
      have hq0 : decide (0 < N) = false := decide_eq_false (by omega)
      clear hu hn hle hnl tr tn eb hls hg hl hlo hg0 q1 q2 q3 q4 q5 q6 q7 e2 e3 e4 e5 hN b6r hLM hline hN0
      go_upto_region 3 with fail
      refine Flow.region (SlNextA bl N cp hm p LM) (Gr wr) (fun _ _ => True) (by kernel_rfl) (by kernel_rfl) (fun _ _ _ _ h _ => h) ⟨rfl, rfl, rfl, Nat.le_refl _, fun _ _ => rfl⟩ ?steps ?fin
      case steps =>
        refine Flow.Steps.cons (fun a W hfr hinv hdep K hK => ?_) ?_
        · have s5 : a.tmps.getD 5 undef = .pointer (some ⟨bl, 0, none⟩) := hfr.at 5 (by kernel_rfl)
          have t5 : a.tmps[5]?.getD undef = .pointer (some ⟨bl, 0, none⟩) := by simpa using s5
          rw [if_pos (Flow.wanted_none rfl)]
          clear hfr hdep
          go_simp
          exact hK _ _ True.intro hinv (fun d hd => by cases hd; trivial)
        refine Flow.Steps.cons (fun a W hfr hinv hdep K hK => ?_) ?_
        · have s15 : a.tmps.getD 15 undef = .pointer (some ⟨bl, 0, none⟩) := hdep 15 (by kernel_rfl)
          have t15 : a.tmps[15]?.getD undef = .pointer (some ⟨bl, 0, none⟩) := by simpa using s15
          rw [if_pos (Flow.wanted_none rfl)]
          clear hfr hdep
          go_simp
          exact hK _ _ True.intro hinv (fun d hd => by cases hd; trivial)
        refine Flow.Steps.cons (fun a W hfr hinv hdep K hK => ?_) ?_
        · have s16 : a.tmps.getD 16 undef = .pointer (some ⟨bl, 0, none⟩) := hdep 16 (by kernel_rfl)
          have t16 : a.tmps[16]?.getD undef = .pointer (some ⟨bl, 0, none⟩) := by simpa using s16
          rw [if_pos (Flow.wanted_none rfl)]
          clear hfr hdep
          go_simp
          exact hK _ _ True.intro hinv (fun d hd => by cases hd; trivial)
        refine Flow.Steps.cons (fun a W hfr hinv hdep K hK => ?_) ?_
        · have s17 : a.tmps.getD 17 undef = .pointer (some ⟨bl, 2, none⟩) := hdep 17 (by kernel_rfl)
          have t17 : a.tmps[17]?.getD undef = .pointer (some ⟨bl, 2, none⟩) := by simpa using s17
          have m0 := (HL.out W hinv).cell 0; have m1 := (HL.out W hinv).cell 1; have m2 := (HL.out W hinv).cell 2; simp at m0 m1 m2
          rw [if_pos (Flow.wanted_none rfl)]
          clear hfr hdep
          go_simp
          exact hK _ _ True.intro hinv (fun d hd => by cases hd; trivial)
        refine Flow.Steps.cons (fun a W hfr hinv hdep K hK => ?_) ?_
        · have s18 : a.tmps.getD 18 undef = .slice p N cp := hdep 18 (by kernel_rfl)
          have t18 : a.tmps[18]?.getD undef = .slice p N cp := by simpa using s18
          rw [if_pos (Flow.wanted_none rfl)]
          clear hfr hdep
          go_simp
          exact hK _ _ True.intro hinv (fun d hd => by cases hd; trivial)
        refine Flow.Steps.cons (fun a W hfr hinv hdep K hK => ?_) ?_
        · have s19 : a.tmps.getD 19 undef = .int .i64 N := hdep 19 (by kernel_rfl)
          have t19 : a.tmps[19]?.getD undef = .int .i64 N := by simpa using s19
          have hh := hq0
          rw [if_pos (Flow.wanted_none rfl)]
          clear hfr hdep
          go_simp
          exact hK _ _ True.intro hinv (fun d hd => by cases hd; trivial)
        refine Flow.Steps.cons (fun a W hfr hinv hdep K hK => ?_) ?_
        · have s20 : a.tmps.getD 20 undef = .bool false := hdep 20 (by kernel_rfl)
          have t20 : a.tmps[20]?.getD undef = .bool false := by simpa using s20
          rw [if_pos (Flow.wanted_none rfl)]
          clear hfr hdep
          go_simp
          exact hK _ _ True.intro hinv (fun d hd => by cases hd; trivial)
        refine Flow.Steps.cons (fun a W hfr hinv hdep K hK => ?_) ?_
        · have sg : a.tmps.getD 21 undef = .bool !true := hdep 21 (by kernel_rfl)
          have s5 : a.tmps.getD 5 undef = .pointer (some ⟨bl, 0, none⟩) := hfr.at 5 (by kernel_rfl)
          have t5 : a.tmps[5]?.getD undef = .pointer (some ⟨bl, 0, none⟩) := by simpa using s5
          rw [if_neg (Flow.wanted_no 6 true 21 rfl (by kernel_rfl) sg)]
          clear hfr hdep
          exact hK _ _ True.intro hinv (fun d hd => by cases hd; trivial)
        refine Flow.Steps.cons (fun a W hfr hinv hdep K hK => ?_) ?_
        · have sg : a.tmps.getD 21 undef = .bool !true := hdep 21 (by kernel_rfl)
          have s5 : a.tmps.getD 5 undef = .pointer (some ⟨bl, 0, none⟩) := hfr.at 5 (by kernel_rfl)
          have t5 : a.tmps[5]?.getD undef = .pointer (some ⟨bl, 0, none⟩) := by simpa using s5
          rw [if_neg (Flow.wanted_no 6 true 21 rfl (by kernel_rfl) sg)]
          clear hfr hdep
          exact hK _ _ True.intro hinv (fun d hd => by cases hd; trivial)
        refine Flow.Steps.cons (fun a W hfr hinv hdep K hK => ?_) ?_
        · have sg : a.tmps.getD 21 undef = .bool !true := hdep 21 (by kernel_rfl)
          rw [if_neg (Flow.wanted_no 6 true 21 rfl (by kernel_rfl) sg)]
          clear hfr hdep
          exact hK _ _ True.intro hinv (fun d hd => by cases hd; trivial)
        refine Flow.Steps.cons (fun a W hfr hinv hdep K hK => ?_) ?_
        · have sg : a.tmps.getD 21 undef = .bool !true := hdep 21 (by kernel_rfl)
          rw [if_neg (Flow.wanted_no 6 true 21 rfl (by kernel_rfl) sg)]
          clear hfr hdep
          exact hK _ _ True.intro hinv (fun d hd => by cases hd; trivial)
        refine Flow.Steps.cons (fun a W hfr hinv hdep K hK => ?_) ?_
        · have sg : a.tmps.getD 21 undef = .bool !true := hdep 21 (by kernel_rfl)
          have m0 := (HL.out W hinv).cell 0; have m1 := (HL.out W hinv).cell 1; have m2 := (HL.out W hinv).cell 2; simp at m0 m1 m2
          rw [if_neg (Flow.wanted_no 6 true 21 rfl (by kernel_rfl) sg)]
          clear hfr hdep
          exact hK _ _ True.intro hinv (fun d hd => by cases hd; trivial)
        refine Flow.Steps.cons (fun a W hfr hinv hdep K hK => ?_) ?_
        · have sg : a.tmps.getD 21 undef = .bool !true := hdep 21 (by kernel_rfl)
          rw [if_neg (Flow.wanted_no 6 true 21 rfl (by kernel_rfl) sg)]
          clear hfr hdep
          exact hK _ _ True.intro hinv (fun d hd => by cases hd; trivial)
        refine Flow.Steps.cons (fun a W hfr hinv hdep K hK => ?_) ?_
        · have sg : a.tmps.getD 21 undef = .bool !true := hdep 21 (by kernel_rfl)
          rw [if_neg (Flow.wanted_no 6 true 21 rfl (by kernel_rfl) sg)]
          clear hfr hdep
          exact hK _ _ True.intro hinv (fun d hd => by cases hd; trivial)
        refine Flow.Steps.cons (fun a W hfr hinv hdep K hK => ?_) ?_
        · have sg : a.tmps.getD 21 undef = .bool !true := hdep 21 (by kernel_rfl)
          have m0 := (HL.out W hinv).cell 0; have m1 := (HL.out W hinv).cell 1; have m2 := (HL.out W hinv).cell 2; simp at m0 m1 m2
          rw [if_neg (Flow.wanted_no 6 true 21 rfl (by kernel_rfl) sg)]
          clear hfr hdep
          exact hK _ _ True.intro hinv (fun d hd => by cases hd; trivial)
        refine Flow.Steps.cons (fun a W hfr hinv hdep K hK => ?_) ?_
        · have sg : a.tmps.getD 21 undef = .bool !true := hdep 21 (by kernel_rfl)
          have s5 : a.tmps.getD 5 undef = .pointer (some ⟨bl, 0, none⟩) := hfr.at 5 (by kernel_rfl)
          have t5 : a.tmps[5]?.getD undef = .pointer (some ⟨bl, 0, none⟩) := by simpa using s5
          rw [if_neg (Flow.wanted_no 6 true 21 rfl (by kernel_rfl) sg)]
          clear hfr hdep
          exact hK _ _ True.intro hinv (fun d hd => by cases hd; trivial)
        refine Flow.Steps.cons (fun a W hfr hinv hdep K hK => ?_) ?_
        · have sg : a.tmps.getD 21 undef = .bool !true := hdep 21 (by kernel_rfl)
          rw [if_neg (Flow.wanted_no 6 true 21 rfl (by kernel_rfl) sg)]
          clear hfr hdep
          exact hK _ _ True.intro hinv (fun d hd => by cases hd; trivial)
        refine Flow.Steps.cons (fun a W hfr hinv hdep K hK => ?_) ?_
        · have sg : a.tmps.getD 21 undef = .bool !true := hdep 21 (by kernel_rfl)
          rw [if_neg (Flow.wanted_no 6 true 21 rfl (by kernel_rfl) sg)]
          clear hfr hdep
          exact hK _ _ True.intro hinv (fun d hd => by cases hd; trivial)
        refine Flow.Steps.cons (fun a W hfr hinv hdep K hK => ?_) ?_
        · have sg : a.tmps.getD 21 undef = .bool !true := hdep 21 (by kernel_rfl)
          have m0 := (HL.out W hinv).cell 0; have m1 := (HL.out W hinv).cell 1; have m2 := (HL.out W hinv).cell 2; simp at m0 m1 m2
          rw [if_neg (Flow.wanted_no 6 true 21 rfl (by kernel_rfl) sg)]
          clear hfr hdep
          exact hK _ _ True.intro hinv (fun d hd => by cases hd; trivial)
        refine Flow.Steps.cons (fun a W hfr hinv hdep K hK => ?_) ?_
        · have sg : a.tmps.getD 21 undef = .bool !true := hdep 21 (by kernel_rfl)
          rw [if_neg (Flow.wanted_no 6 true 21 rfl (by kernel_rfl) sg)]
          clear hfr hdep
          exact hK _ _ True.intro hinv (fun d hd => by cases hd; trivial)
        refine Flow.Steps.cons (fun a W hfr hinv hdep K hK => ?_) ?_
        · have sg : a.tmps.getD 21 undef = .bool !true := hdep 21 (by kernel_rfl)
          rw [if_neg (Flow.wanted_no 6 true 21 rfl (by kernel_rfl) sg)]
          clear hfr hdep
          exact hK _ _ True.intro hinv (fun d hd => by cases hd; trivial)
        refine Flow.Steps.cons (fun a W hfr hinv hdep K hK => ?_) ?_
        · have sg : a.tmps.getD 21 undef = .bool !true := hdep 21 (by kernel_rfl)
          have m0 := (HL.out W hinv).cell 0; have m1 := (HL.out W hinv).cell 1; have m2 := (HL.out W hinv).cell 2; simp at m0 m1 m2
          rw [if_neg (Flow.wanted_no 6 true 21 rfl (by kernel_rfl) sg)]
          clear hfr hdep
          exact hK _ _ True.intro hinv (fun d hd => by cases hd; trivial)
        refine Flow.Steps.cons (fun a W hfr hinv hdep K hK => ?_) ?_
        · have sg : a.tmps.getD 21 undef = .bool !true := hdep 21 (by kernel_rfl)
          rw [if_neg (Flow.wanted_no 6 true 21 rfl (by kernel_rfl) sg)]
          clear hfr hdep
          exact hK _ _ True.intro hinv (fun d hd => by cases hd; trivial)
        refine Flow.Steps.cons (fun a W hfr hinv hdep K hK => ?_) ?_
        · have s21 : a.tmps.getD 21 undef = .bool false := hdep 21 (by kernel_rfl)
          have t21 : a.tmps[21]?.getD undef = .bool false := by simpa using s21
          rw [if_pos (Flow.wanted_none rfl)]
          clear hfr hdep
          go_simp
          exact hK _ _ True.intro hinv (fun d hd => by cases hd; trivial)
        exact True.intro
      case fin =>
        intro a W hfr hfin hsl
        have s38 : a.tmps.getD 38 undef = .bool false := hsl 23 _ 38 rfl rfl
        have t38 : a.tmps[38]?.getD undef = .bool false := by simpa using s38
        have e := Flow.frame hfr [15, 16, 17, 18, 19, 20, 21, 22, 23, 24, 25, 26, 27, 28, 29, 30, 31, 32, 33, 34, 35, 36, 37, 38] (List.range 98) (by kernel_rfl) (by kernel_rfl)
        simp [List.range, List.range.loop] at e
        rw [t38] at e
        rw [e]
        clear e hfr hsl s38 t38
        rename_i K2 hK2
        refine hK2 _ _ ?_
        have HW2 := Lib.hid hfin
        clear hfin
        obtain ⟨hu, hn, hle, hnl, tr, tn, eb, hls, hg⟩ := HR.out
        have hTT : T.nextT0 k = T' := by unfold Tb.nextT0; rw [← hn, HEnd.out]
        have hCC : T.nextC k = c := by unfold Tb.nextC; rw [← hn, HEnd.out]
        obtain ⟨h, h1, hgood, g1, b6, ee1, hl0⟩ := HH.out
        obtain ⟨hl, hlo, e2, e4, e5, hN⟩ := HI.out
        have h1v := (HL.out W HW2.out).cell 1
        simp at h1v
        have e4W := e4.stays (HW2.out.block _ e4.lt)
        have hlen := e4W.len KO_ok (t := TMh) Tryz.underlying53 TI
        have trW := tr.gr HW2.out
        have kbW := HB.out W HW2.out
        have k0 := kbW.cell 0
        have k1' := kbW.cell 1
        simp at k0 k1'
        have c0 := trW.c3.1
        have huW := (hu.gr HW2.out).base (Gr.trans g1 HG0.out).size
        have tW : Tn w W B B' := ((Tn.of_gr (Gr.trans g1 HG0.out)).trans tn).trans (Tn.of_gr HW2.out)
        obtain ⟨L, hL⟩ : ∃ L, L = l.hs.length := ⟨_, rfl⟩
        rw [← hL] at hlen
        by_cases hL0 : L = 0
        · subst hL0
          have hhs : l.hs = [] := List.eq_nil_of_length_eq_zero hL.symm
          obtain ⟨w7, hrun, hM7, hG7⟩ := (trW.stays (w' := W.drew) (fun _ _ _ => rfl)).keys.drop KL_ok (t := TMk) Tryz.underlying48 hk 0
          rw [show KL.val k = kv k from rfl, HKV.out, show KL.ty = TKey from rfl] at hrun
          have hw7 : Onl (fun n => n = km) W w7 := (Onl.of_gr (Gr.refl _).drew).trans (Onl.of_grown (S := fun n => n = km) hG7 rfl) (fun _ _ e => e)
          obtain ⟨r7, t7⟩ := trW.delLk hw7 hM7
          have hT7 : { T' with lk := updF T'.lk k none, kk := delK k T'.kk } = T.nextT k := by
            unfold Tb.nextT
            rw [hTT, hlo, if_pos hhs]
          rw [hT7] at r7
          have hu7 := huW.tn t7 (huW.far trW)
          rw [← hCC] at hu7
          have HE := Lib.hid (And.intro hu7 (And.intro r7 (And.intro (tW.trans t7) (hu7.far r7))))
          clear hu hn hle hnl tr tn eb hls hg hTT hCC h h1 hgood g1 b6 ee1 hl0 hl hlo e2 e4 e5 hN e4W trW kbW huW tW hhs hM7 hG7 hw7 r7 t7 hT7 hu7 hL
          go_wp2_with fail
          go_region_with (fail)
          all_goals
            go_wp2_with fail
            go_ret
            exact ⟨_, _, rfl, HE.out.1, HE.out.2.1, HE.out.2.2.1, HE.out.2.2.2⟩
        · have hhs : ¬ l.hs = [] := fun e => hL0 (by rw [hL, e]; rfl)
          have hT7 : T' = T.nextT k := by
            unfold Tb.nextT
            rw [hTT, hlo, if_neg hhs]
          rw [hT7] at trW
          rw [← hCC] at huW
          have HE := Lib.hid (And.intro huW (And.intro trW (And.intro tW (huW.far trW))))
          have hq9 : ((L : Int) == 0) = false := by simp; omega
          clear hu hn hle hnl tr tn eb hls hg hTT hCC h h1 hgood g1 b6 ee1 hl0 hl hlo e2 e4 e5 hN e4W trW kbW huW tW hhs hT7 hL
          go_wp2_with fail
          go_ret
          exact ⟨_, _, rfl, HE.out.1, HE.out.2.1, HE.out.2.2.1, HE.out.2.2.2⟩
    | cons om2 r =>
      obtain ⟨o2, m2⟩ := om2
      obtain ⟨d1, d2, d3⟩ := q7 o2 m2 r hline
      have hN0 : 0 < N := by rw [hN, hline]; simp
      rcases e5 with ⟨r1, r2, r3⟩ | ⟨lb, off, cap, cs, r1, r2, r3, r4, r5, r6, r7, r8⟩
      · rw [r3] at hline; cases hline
      · obtain ⟨rp, rc⟩ : p = some ⟨lb, 2 * off, none⟩ ∧ cp = cap := by
          simp only [Value.slice.injEq] at r2
          exact ⟨r2.1, r2.2.2⟩
        subst rp
        subst rc
        clear r2
        have w0 := r7 0 (.int .u64 (o2 : Int)) (by rw [hline]; rfl)
        have w1 := r7 1 (.int .i64 m2) (by rw [hline]; rfl)
        have HLb := Lib.hid (fun V (g : Gr wr V) => And.intro (((r3.gr g).cell (2 * off)).trans w0) (((r3.gr g).cell (2 * off + 1)).trans w1))
        have HF := Lib.hid (fun V (g : Gr wr V) => fits_any (e3.gr g) (e4.stays (g.block _ e4.lt)) q1 d1 m2)
        have hq0 : decide ((0 : Int) < (N : Int)) = true := decide_eq_true (by omega)
        have HD := Lib.hid (And.intro d1 (And.intro d2 (And.intro d3 (And.intro r1 (And.intro r3 (And.intro r4 (And.intro r5 (And.intro r6 (And.intro r7 (And.intro q2 (And.intro q3 (And.intro q4 (And.intro q5 (And.intro q6 hline))))))))))))))
        cases hf : l.fits o2 m2 with
        | false =>
          rw [hf] at HF
          have HEnd := Lib.hid (show Tb.nextN n T' k c = (c, T') from nextN_no (by rw [hlo, hline]) (by rw [hlo]; exact hf))
          clear hu hn hle hnl tr tn eb hls hg hl hlo hg0 q1 q2 q3 q4 q5 q6 e2 e3 e4 b6r hLM hline d1 d2 d3 r1 r3 r4 r5 r6 r7 r8 w0 w1 hf q7 hN
          go_upto_region 3 with fail
          refine Flow.region (SlNextB bl N cp hm lb off o2 LM m2) (Gr wr) (fun _ _ => True) (by kernel_rfl) (by kernel_rfl) (fun _ _ _ _ h _ => h) ⟨rfl, rfl, rfl, Nat.le_refl _, fun _ _ => rfl⟩ ?steps ?fin
          case steps =>
            refine Flow.Steps.cons (fun a W hfr hinv hdep K hK => ?_) ?_
            · have s5 : a.tmps.getD 5 undef = .pointer (some ⟨bl, 0, none⟩) := hfr.at 5 (by kernel_rfl)
              have t5 : a.tmps[5]?.getD undef = .pointer (some ⟨bl, 0, none⟩) := by simpa using s5
              rw [if_pos (Flow.wanted_none rfl)]
              clear hfr hdep
              go_simp
              exact hK _ _ True.intro hinv (fun d hd => by cases hd; trivial)
            refine Flow.Steps.cons (fun a W hfr hinv hdep K hK => ?_) ?_
            · have s15 : a.tmps.getD 15 undef = .pointer (some ⟨bl, 0, none⟩) := hdep 15 (by kernel_rfl)
              have t15 : a.tmps[15]?.getD undef = .pointer (some ⟨bl, 0, none⟩) := by simpa using s15
              rw [if_pos (Flow.wanted_none rfl)]
              clear hfr hdep
              go_simp
              exact hK _ _ True.intro hinv (fun d hd => by cases hd; trivial)
            refine Flow.Steps.cons (fun a W hfr hinv hdep K hK => ?_) ?_
            · have s16 : a.tmps.getD 16 undef = .pointer (some ⟨bl, 0, none⟩) := hdep 16 (by kernel_rfl)
              have t16 : a.tmps[16]?.getD undef = .pointer (some ⟨bl, 0, none⟩) := by simpa using s16
              rw [if_pos (Flow.wanted_none rfl)]
              clear hfr hdep
              go_simp
              exact hK _ _ True.intro hinv (fun d hd => by cases hd; trivial)
            refine Flow.Steps.cons (fun a W hfr hinv hdep K hK => ?_) ?_
            · have s17 : a.tmps.getD 17 undef = .pointer (some ⟨bl, 2, none⟩) := hdep 17 (by kernel_rfl)
              have t17 : a.tmps[17]?.getD undef = .pointer (some ⟨bl, 2, none⟩) := by simpa using s17
              have l0 := (HL.out W hinv).cell 0; have l1 := (HL.out W hinv).cell 1; have l2 := (HL.out W hinv).cell 2; obtain ⟨z0, z1⟩ := HLb.out W hinv; simp at l0 l1 l2
              rw [if_pos (Flow.wanted_none rfl)]
              clear hfr hdep
              go_simp
              exact hK _ _ True.intro hinv (fun d hd => by cases hd; trivial)
            refine Flow.Steps.cons (fun a W hfr hinv hdep K hK => ?_) ?_
            · have s18 : a.tmps.getD 18 undef = .slice (some ⟨lb, 2 * off, none⟩) N cp := hdep 18 (by kernel_rfl)
              have t18 : a.tmps[18]?.getD undef = .slice (some ⟨lb, 2 * off, none⟩) N cp := by simpa using s18
              rw [if_pos (Flow.wanted_none rfl)]
              clear hfr hdep
              go_simp
              exact hK _ _ True.intro hinv (fun d hd => by cases hd; trivial)
            refine Flow.Steps.cons (fun a W hfr hinv hdep K hK => ?_) ?_
            · have s19 : a.tmps.getD 19 undef = .int .i64 N := hdep 19 (by kernel_rfl)
              have t19 : a.tmps[19]?.getD undef = .int .i64 N := by simpa using s19
              have hh := hq0
              rw [if_pos (Flow.wanted_none rfl)]
              clear hfr hdep
              go_simp
              exact hK _ _ True.intro hinv (fun d hd => by cases hd; trivial)
            refine Flow.Steps.cons (fun a W hfr hinv hdep K hK => ?_) ?_
            · have s20 : a.tmps.getD 20 undef = .bool true := hdep 20 (by kernel_rfl)
              have t20 : a.tmps[20]?.getD undef = .bool true := by simpa using s20
              rw [if_pos (Flow.wanted_none rfl)]
              clear hfr hdep
              go_simp
              exact hK _ _ True.intro hinv (fun d hd => by cases hd; trivial)
            refine Flow.Steps.cons (fun a W hfr hinv hdep K hK => ?_) ?_
            · have sg : a.tmps.getD 21 undef = .bool true := hdep 21 (by kernel_rfl)
              have s5 : a.tmps.getD 5 undef = .pointer (some ⟨bl, 0, none⟩) := hfr.at 5 (by kernel_rfl)
              have t5 : a.tmps[5]?.getD undef = .pointer (some ⟨bl, 0, none⟩) := by simpa using s5
              rw [if_pos (Flow.wanted_yes 6 true 21 rfl (by kernel_rfl) sg)]
              clear hfr hdep
              go_simp
              exact hK _ _ True.intro hinv (fun d hd => by cases hd; trivial)
            refine Flow.Steps.cons (fun a W hfr hinv hdep K hK => ?_) ?_
            · have sg : a.tmps.getD 21 undef = .bool true := hdep 21 (by kernel_rfl)
              have s5 : a.tmps.getD 5 undef = .pointer (some ⟨bl, 0, none⟩) := hfr.at 5 (by kernel_rfl)
              have t5 : a.tmps[5]?.getD undef = .pointer (some ⟨bl, 0, none⟩) := by simpa using s5
              rw [if_pos (Flow.wanted_yes 6 true 21 rfl (by kernel_rfl) sg)]
              clear hfr hdep
              go_simp
              exact hK _ _ True.intro hinv (fun d hd => by cases hd; trivial)
            refine Flow.Steps.cons (fun a W hfr hinv hdep K hK => ?_) ?_
            · have sg : a.tmps.getD 21 undef = .bool true := hdep 21 (by kernel_rfl)
              have s23 : a.tmps.getD 23 undef = .pointer (some ⟨bl, 0, none⟩) := hdep 23 (by kernel_rfl)
              have t23 : a.tmps[23]?.getD undef = .pointer (some ⟨bl, 0, none⟩) := by simpa using s23
              rw [if_pos (Flow.wanted_yes 6 true 21 rfl (by kernel_rfl) sg)]
              clear hfr hdep
              go_simp
              exact hK _ _ True.intro hinv (fun d hd => by cases hd; trivial)
            refine Flow.Steps.cons (fun a W hfr hinv hdep K hK => ?_) ?_
            · have sg : a.tmps.getD 21 undef = .bool true := hdep 21 (by kernel_rfl)
              have s24 : a.tmps.getD 24 undef = .pointer (some ⟨bl, 0, none⟩) := hdep 24 (by kernel_rfl)
              have t24 : a.tmps[24]?.getD undef = .pointer (some ⟨bl, 0, none⟩) := by simpa using s24
              rw [if_pos (Flow.wanted_yes 6 true 21 rfl (by kernel_rfl) sg)]
              clear hfr hdep
              go_simp
              exact hK _ _ True.intro hinv (fun d hd => by cases hd; trivial)
            refine Flow.Steps.cons (fun a W hfr hinv hdep K hK => ?_) ?_
            · have sg : a.tmps.getD 21 undef = .bool true := hdep 21 (by kernel_rfl)
              have s25 : a.tmps.getD 25 undef = .pointer (some ⟨bl, 2, none⟩) := hdep 25 (by kernel_rfl)
              have t25 : a.tmps[25]?.getD undef = .pointer (some ⟨bl, 2, none⟩) := by simpa using s25
              have l0 := (HL.out W hinv).cell 0; have l1 := (HL.out W hinv).cell 1; have l2 := (HL.out W hinv).cell 2; obtain ⟨z0, z1⟩ := HLb.out W hinv; simp at l0 l1 l2
              rw [if_pos (Flow.wanted_yes 6 true 21 rfl (by kernel_rfl) sg)]
              clear hfr hdep
              go_simp
              exact hK _ _ True.intro hinv (fun d hd => by cases hd; trivial)
            refine Flow.Steps.cons (fun a W hfr hinv hdep K hK => ?_) ?_
            · have sg : a.tmps.getD 21 undef = .bool true := hdep 21 (by kernel_rfl)
              have s26 : a.tmps.getD 26 undef = .slice (some ⟨lb, 2 * off, none⟩) N cp := hdep 26 (by kernel_rfl)
              have t26 : a.tmps[26]?.getD undef = .slice (some ⟨lb, 2 * off, none⟩) N cp := by simpa using s26
              have hh := hN0
              rw [if_pos (Flow.wanted_yes 6 true 21 rfl (by kernel_rfl) sg)]
              clear hfr hdep
              go_simp
              exact hK _ _ True.intro hinv (fun d hd => by cases hd; trivial)
            refine Flow.Steps.cons (fun a W hfr hinv hdep K hK => ?_) ?_
            · have sg : a.tmps.getD 21 undef = .bool true := hdep 21 (by kernel_rfl)
              have s27 : a.tmps.getD 27 undef = .pointer (some ⟨lb, 2 * off, none⟩) := hdep 27 (by kernel_rfl)
              have t27 : a.tmps[27]?.getD undef = .pointer (some ⟨lb, 2 * off, none⟩) := by simpa using s27
              rw [if_pos (Flow.wanted_yes 6 true 21 rfl (by kernel_rfl) sg)]
              clear hfr hdep
              go_simp
              exact hK _ _ True.intro hinv (fun d hd => by cases hd; trivial)
            refine Flow.Steps.cons (fun a W hfr hinv hdep K hK => ?_) ?_
            · have sg : a.tmps.getD 21 undef = .bool true := hdep 21 (by kernel_rfl)
              have s28 : a.tmps.getD 28 undef = .pointer (some ⟨lb, 2 * off, none⟩) := hdep 28 (by kernel_rfl)
              have t28 : a.tmps[28]?.getD undef = .pointer (some ⟨lb, 2 * off, none⟩) := by simpa using s28
              have l0 := (HL.out W hinv).cell 0; have l1 := (HL.out W hinv).cell 1; have l2 := (HL.out W hinv).cell 2; obtain ⟨z0, z1⟩ := HLb.out W hinv; simp at l0 l1 l2
              rw [if_pos (Flow.wanted_yes 6 true 21 rfl (by kernel_rfl) sg)]
              clear hfr hdep
              go_simp
              exact hK _ _ True.intro hinv (fun d hd => by cases hd; trivial)
            refine Flow.Steps.cons (fun a W hfr hinv hdep K hK => ?_) ?_
            · have sg : a.tmps.getD 21 undef = .bool true := hdep 21 (by kernel_rfl)
              have s5 : a.tmps.getD 5 undef = .pointer (some ⟨bl, 0, none⟩) := hfr.at 5 (by kernel_rfl)
              have t5 : a.tmps[5]?.getD undef = .pointer (some ⟨bl, 0, none⟩) := by simpa using s5
              rw [if_pos (Flow.wanted_yes 6 true 21 rfl (by kernel_rfl) sg)]
              clear hfr hdep
              go_simp
              exact hK _ _ True.intro hinv (fun d hd => by cases hd; trivial)
            refine Flow.Steps.cons (fun a W hfr hinv hdep K hK => ?_) ?_
            · have sg : a.tmps.getD 21 undef = .bool true := hdep 21 (by kernel_rfl)
              have s30 : a.tmps.getD 30 undef = .pointer (some ⟨bl, 0, none⟩) := hdep 30 (by kernel_rfl)
              have t30 : a.tmps[30]?.getD undef = .pointer (some ⟨bl, 0, none⟩) := by simpa using s30
              rw [if_pos (Flow.wanted_yes 6 true 21 rfl (by kernel_rfl) sg)]
              clear hfr hdep
              go_simp
              exact hK _ _ True.intro hinv (fun d hd => by cases hd; trivial)
            refine Flow.Steps.cons (fun a W hfr hinv hdep K hK => ?_) ?_
            · have sg : a.tmps.getD 21 undef = .bool true := hdep 21 (by kernel_rfl)
              have s31 : a.tmps.getD 31 undef = .pointer (some ⟨bl, 0, none⟩) := hdep 31 (by kernel_rfl)
              have t31 : a.tmps[31]?.getD undef = .pointer (some ⟨bl, 0, none⟩) := by simpa using s31
              rw [if_pos (Flow.wanted_yes 6 true 21 rfl (by kernel_rfl) sg)]
              clear hfr hdep
              go_simp
              exact hK _ _ True.intro hinv (fun d hd => by cases hd; trivial)
            refine Flow.Steps.cons (fun a W hfr hinv hdep K hK => ?_) ?_
            · have sg : a.tmps.getD 21 undef = .bool true := hdep 21 (by kernel_rfl)
              have s32 : a.tmps.getD 32 undef = .pointer (some ⟨bl, 2, none⟩) := hdep 32 (by kernel_rfl)
              have t32 : a.tmps[32]?.getD undef = .pointer (some ⟨bl, 2, none⟩) := by simpa using s32
              have l0 := (HL.out W hinv).cell 0; have l1 := (HL.out W hinv).cell 1; have l2 := (HL.out W hinv).cell 2; obtain ⟨z0, z1⟩ := HLb.out W hinv; simp at l0 l1 l2
              rw [if_pos (Flow.wanted_yes 6 true 21 rfl (by kernel_rfl) sg)]
              clear hfr hdep
              go_simp
              exact hK _ _ True.intro hinv (fun d hd => by cases hd; trivial)
            refine Flow.Steps.cons (fun a W hfr hinv hdep K hK => ?_) ?_
            · have sg : a.tmps.getD 21 undef = .bool true := hdep 21 (by kernel_rfl)
              have s33 : a.tmps.getD 33 undef = .slice (some ⟨lb, 2 * off, none⟩) N cp := hdep 33 (by kernel_rfl)
              have t33 : a.tmps[33]?.getD undef = .slice (some ⟨lb, 2 * off, none⟩) N cp := by simpa using s33
              have hh := hN0
              rw [if_pos (Flow.wanted_yes 6 true 21 rfl (by kernel_rfl) sg)]
              clear hfr hdep
              go_simp
              exact hK _ _ True.intro hinv (fun d hd => by cases hd; trivial)
            refine Flow.Steps.cons (fun a W hfr hinv hdep K hK => ?_) ?_
            · have sg : a.tmps.getD 21 undef = .bool true := hdep 21 (by kernel_rfl)
              have s34 : a.tmps.getD 34 undef = .pointer (some ⟨lb, 2 * off, none⟩) := hdep 34 (by kernel_rfl)
              have t34 : a.tmps[34]?.getD undef = .pointer (some ⟨lb, 2 * off, none⟩) := by simpa using s34
              rw [if_pos (Flow.wanted_yes 6 true 21 rfl (by kernel_rfl) sg)]
              clear hfr hdep
              go_simp
              exact hK _ _ True.intro hinv (fun d hd => by cases hd; trivial)
            refine Flow.Steps.cons (fun a W hfr hinv hdep K hK => ?_) ?_
            · have sg : a.tmps.getD 21 undef = .bool true := hdep 21 (by kernel_rfl)
              have s35 : a.tmps.getD 35 undef = .pointer (some ⟨lb, 2 * off + 1, none⟩) := hdep 35 (by kernel_rfl)
              have t35 : a.tmps[35]?.getD undef = .pointer (some ⟨lb, 2 * off + 1, none⟩) := by simpa using s35
              have l0 := (HL.out W hinv).cell 0; have l1 := (HL.out W hinv).cell 1; have l2 := (HL.out W hinv).cell 2; obtain ⟨z0, z1⟩ := HLb.out W hinv; simp at l0 l1 l2
              rw [if_pos (Flow.wanted_yes 6 true 21 rfl (by kernel_rfl) sg)]
              clear hfr hdep
              go_simp
              exact hK _ _ True.intro hinv (fun d hd => by cases hd; trivial)
            refine Flow.Steps.cons (fun a W hfr hinv hdep K hK => ?_) ?_
            · have sg : a.tmps.getD 21 undef = .bool true := hdep 21 (by kernel_rfl)
              have s22 : a.tmps.getD 22 undef = .pointer (some ⟨bl, 0, none⟩) := hdep 22 (by kernel_rfl)
              have t22 : a.tmps[22]?.getD undef = .pointer (some ⟨bl, 0, none⟩) := by simpa using s22
              have s29 : a.tmps.getD 29 undef = .int .u64 (o2 : Int) := hdep 29 (by kernel_rfl)
              have t29 : a.tmps[29]?.getD undef = .int .u64 (o2 : Int) := by simpa using s29
              have s36 : a.tmps.getD 36 undef = .int .i64 m2 := hdep 36 (by kernel_rfl)
              have t36 : a.tmps[36]?.getD undef = .int .i64 m2 := by simpa using s36
              rw [if_pos (Flow.wanted_yes 6 true 21 rfl (by kernel_rfl) sg)]
              clear hfr hdep
              go_simp
              refine (HF.out W hinv).mono ?_
              rintro e W' ⟨rfl, g1⟩
              exact hK _ _ True.intro (Gr.trans hinv g1) (fun d hd => by cases hd; trivial)
            refine Flow.Steps.cons (fun a W hfr hinv hdep K hK => ?_) ?_
            · have s21 : a.tmps.getD 21 undef = .bool true := hdep 21 (by kernel_rfl)
              have t21 : a.tmps[21]?.getD undef = .bool true := by simpa using s21
              have s37 : a.tmps.getD 37 undef = .bool false := hdep 37 (by kernel_rfl)
              have t37 : a.tmps[37]?.getD undef = .bool false := by simpa using s37
              rw [if_pos (Flow.wanted_none rfl)]
              clear hfr hdep
              go_simp
              exact hK _ _ True.intro hinv (fun d hd => by cases hd; trivial)
            exact True.intro
          case fin =>
            intro a W hfr hfin hsl
            have s38 : a.tmps.getD 38 undef = .bool false := hsl 23 _ 38 rfl rfl
            have t38 : a.tmps[38]?.getD undef = .bool false := by simpa using s38
            have e := Flow.frame hfr [15, 16, 17, 18, 19, 20, 21, 22, 23, 24, 25, 26, 27, 28, 29, 30, 31, 32, 33, 34, 35, 36, 37, 38] (List.range 98) (by kernel_rfl) (by kernel_rfl)
            simp [List.range, List.range.loop] at e
            rw [t38] at e
            rw [e]
            clear e hfr hsl s38 t38
            rename_i K2 hK2
            refine hK2 _ _ ?_
            have HW2 := Lib.hid hfin
            clear hfin
            obtain ⟨hu, hn, hle, hnl, tr, tn, eb, hls, hg⟩ := HR.out
            have hTT : T.nextT0 k = T' := by unfold Tb.nextT0; rw [← hn, HEnd.out]
            have hCC : T.nextC k = c := by unfold Tb.nextC; rw [← hn, HEnd.out]
            obtain ⟨h, h1, hgood, g1, b6, ee1, hl0⟩ := HH.out
            obtain ⟨hl, hlo, e2, e4, e5, hN⟩ := HI.out
            have h1v := (HL.out W HW2.out).cell 1
            simp at h1v
            have e4W := e4.stays (HW2.out.block _ e4.lt)
            have hlen := e4W.len KO_ok (t := TMh) Tryz.underlying53 TI
            have trW := tr.gr HW2.out
            have kbW := HB.out W HW2.out
            have k0 := kbW.cell 0
            have k1' := kbW.cell 1
            simp at k0 k1'
            have c0 := trW.c3.1
            have huW := (hu.gr HW2.out).base (Gr.trans g1 HG0.out).size
            have tW : Tn w W B B' := ((Tn.of_gr (Gr.trans g1 HG0.out)).trans tn).trans (Tn.of_gr HW2.out)
            obtain ⟨L, hL⟩ : ∃ L, L = l.hs.length := ⟨_, rfl⟩
            rw [← hL] at hlen
            by_cases hL0 : L = 0
            · subst hL0
              have hhs : l.hs = [] := List.eq_nil_of_length_eq_zero hL.symm
              obtain ⟨w7, hrun, hM7, hG7⟩ := (trW.stays (w' := W.drew) (fun _ _ _ => rfl)).keys.drop KL_ok (t := TMk) Tryz.underlying48 hk 0
              rw [show KL.val k = kv k from rfl, HKV.out, show KL.ty = TKey from rfl] at hrun
              have hw7 : Onl (fun n => n = km) W w7 := (Onl.of_gr (Gr.refl _).drew).trans (Onl.of_grown (S := fun n => n = km) hG7 rfl) (fun _ _ e => e)
              obtain ⟨r7, t7⟩ := trW.delLk hw7 hM7
              have hT7 : { T' with lk := updF T'.lk k none, kk := delK k T'.kk } = T.nextT k := by
                unfold Tb.nextT
                rw [hTT, hlo, if_pos hhs]
              rw [hT7] at r7
              have hu7 := huW.tn t7 (huW.far trW)
              rw [← hCC] at hu7
              have HE := Lib.hid (And.intro hu7 (And.intro r7 (And.intro (tW.trans t7) (hu7.far r7))))
              clear hu hn hle hnl tr tn eb hls hg hTT hCC h h1 hgood g1 b6 ee1 hl0 hl hlo e2 e4 e5 hN e4W trW kbW huW tW hhs hM7 hG7 hw7 r7 t7 hT7 hu7 hL
              go_wp2_with fail
              go_region_with (fail)
              all_goals
                go_wp2_with fail
                go_ret
                exact ⟨_, _, rfl, HE.out.1, HE.out.2.1, HE.out.2.2.1, HE.out.2.2.2⟩
            · have hhs : ¬ l.hs = [] := fun e => hL0 (by rw [hL, e]; rfl)
              have hT7 : T' = T.nextT k := by
                unfold Tb.nextT
                rw [hTT, hlo, if_neg hhs]
              rw [hT7] at trW
              rw [← hCC] at huW
              have HE := Lib.hid (And.intro huW (And.intro trW (And.intro tW (huW.far trW))))
              have hq9 : ((L : Int) == 0) = false := by simp; omega
              clear hu hn hle hnl tr tn eb hls hg hTT hCC h h1 hgood g1 b6 ee1 hl0 hl hlo e2 e4 e5 hN e4W trW kbW huW tW hhs hT7 hL
              go_wp2_with fail
              go_ret
              exact ⟨_, _, rfl, HE.out.1, HE.out.2.1, HE.out.2.2.1, HE.out.2.2.2⟩
        | true =>
          rw [hf] at HF
          have HYes := Lib.hid (show ∀ i, Tb.nextN (i + 1) T' k c = Tb.nextN i ((T'.pop k o2 r).give o2 k m2) k (c ++ [o2]) from fun i => nextN_yes (by rw [hlo, hline]) (by rw [hlo]; exact hf))
          clear hu hn hle hnl tr tn eb hls hg hl hlo hg0 q1 q2 q3 q4 q5 q6 e2 e3 e4 b6r hLM hline d1 d2 d3 r1 r3 r4 r5 r6 r7 r8 w0 w1 hf q7 hN
          go_upto_region 3 with fail
          refine Flow.region (SlNextC bl N cp hm lb off o2 LM m2) (Gr wr) (fun _ _ => True) (by kernel_rfl) (by kernel_rfl) (fun _ _ _ _ h _ => h) ⟨rfl, rfl, rfl, Nat.le_refl _, fun _ _ => rfl⟩ ?steps ?fin
          case steps =>
            refine Flow.Steps.cons (fun a W hfr hinv hdep K hK => ?_) ?_
            · have s5 : a.tmps.getD 5 undef = .pointer (some ⟨bl, 0, none⟩) := hfr.at 5 (by kernel_rfl)
              have t5 : a.tmps[5]?.getD undef = .pointer (some ⟨bl, 0, none⟩) := by simpa using s5
              rw [if_pos (Flow.wanted_none rfl)]
              clear hfr hdep
              go_simp
              exact hK _ _ True.intro hinv (fun d hd => by cases hd; trivial)
            refine Flow.Steps.cons (fun a W hfr hinv hdep K hK => ?_) ?_
            · have s15 : a.tmps.getD 15 undef = .pointer (some ⟨bl, 0, none⟩) := hdep 15 (by kernel_rfl)
              have t15 : a.tmps[15]?.getD undef = .pointer (some ⟨bl, 0, none⟩) := by simpa using s15
              rw [if_pos (Flow.wanted_none rfl)]
              clear hfr hdep
              go_simp
              exact hK _ _ True.intro hinv (fun d hd => by cases hd; trivial)
            refine Flow.Steps.cons (fun a W hfr hinv hdep K hK => ?_) ?_
            · have s16 : a.tmps.getD 16 undef = .pointer (some ⟨bl, 0, none⟩) := hdep 16 (by kernel_rfl)
              have t16 : a.tmps[16]?.getD undef = .pointer (some ⟨bl, 0, none⟩) := by simpa using s16
              rw [if_pos (Flow.wanted_none rfl)]
              clear hfr hdep
              go_simp
              exact hK _ _ True.intro hinv (fun d hd => by cases hd; trivial)
            refine Flow.Steps.cons (fun a W hfr hinv hdep K hK => ?_) ?_
            · have s17 : a.tmps.getD 17 undef = .pointer (some ⟨bl, 2, none⟩) := hdep 17 (by kernel_rfl)
              have t17 : a.tmps[17]?.getD undef = .pointer (some ⟨bl, 2, none⟩) := by simpa using s17
              have l0 := (HL.out W hinv).cell 0; have l1 := (HL.out W hinv).cell 1; have l2 := (HL.out W hinv).cell 2; obtain ⟨z0, z1⟩ := HLb.out W hinv; simp at l0 l1 l2
              rw [if_pos (Flow.wanted_none rfl)]
              clear hfr hdep
              go_simp
              exact hK _ _ True.intro hinv (fun d hd => by cases hd; trivial)
            refine Flow.Steps.cons (fun a W hfr hinv hdep K hK => ?_) ?_
            · have s18 : a.tmps.getD 18 undef = .slice (some ⟨lb, 2 * off, none⟩) N cp := hdep 18 (by kernel_rfl)
              have t18 : a.tmps[18]?.getD undef = .slice (some ⟨lb, 2 * off, none⟩) N cp := by simpa using s18
              rw [if_pos (Flow.wanted_none rfl)]
              clear hfr hdep
              go_simp
              exact hK _ _ True.intro hinv (fun d hd => by cases hd; trivial)
            refine Flow.Steps.cons (fun a W hfr hinv hdep K hK => ?_) ?_
            · have s19 : a.tmps.getD 19 undef = .int .i64 N := hdep 19 (by kernel_rfl)
              have t19 : a.tmps[19]?.getD undef = .int .i64 N := by simpa using s19
              have hh := hq0
              rw [if_pos (Flow.wanted_none rfl)]
              clear hfr hdep
              go_simp
              exact hK _ _ True.intro hinv (fun d hd => by cases hd; trivial)
            refine Flow.Steps.cons (fun a W hfr hinv hdep K hK => ?_) ?_
            · have s20 : a.tmps.getD 20 undef = .bool true := hdep 20 (by kernel_rfl)
              have t20 : a.tmps[20]?.getD undef = .bool true := by simpa using s20
              rw [if_pos (Flow.wanted_none rfl)]
              clear hfr hdep
              go_simp
              exact hK _ _ True.intro hinv (fun d hd => by cases hd; trivial)
            refine Flow.Steps.cons (fun a W hfr hinv hdep K hK => ?_) ?_
            · have sg : a.tmps.getD 21 undef = .bool true := hdep 21 (by kernel_rfl)
              have s5 : a.tmps.getD 5 undef = .pointer (some ⟨bl, 0, none⟩) := hfr.at 5 (by kernel_rfl)
              have t5 : a.tmps[5]?.getD undef = .pointer (some ⟨bl, 0, none⟩) := by simpa using s5
              rw [if_pos (Flow.wanted_yes 6 true 21 rfl (by kernel_rfl) sg)]
              clear hfr hdep
              go_simp
              exact hK _ _ True.intro hinv (fun d hd => by cases hd; trivial)
            refine Flow.Steps.cons (fun a W hfr hinv hdep K hK => ?_) ?_
            · have sg : a.tmps.getD 21 undef = .bool true := hdep 21 (by kernel_rfl)
              have s5 : a.tmps.getD 5 undef = .pointer (some ⟨bl, 0, none⟩) := hfr.at 5 (by kernel_rfl)
              have t5 : a.tmps[5]?.getD undef = .pointer (some ⟨bl, 0, none⟩) := by simpa using s5
              rw [if_pos (Flow.wanted_yes 6 true 21 rfl (by kernel_rfl) sg)]
              clear hfr hdep
              go_simp
              exact hK _ _ True.intro hinv (fun d hd => by cases hd; trivial)
            refine Flow.Steps.cons (fun a W hfr hinv hdep K hK => ?_) ?_
            · have sg : a.tmps.getD 21 undef = .bool true := hdep 21 (by kernel_rfl)
              have s23 : a.tmps.getD 23 undef = .pointer (some ⟨bl, 0, none⟩) := hdep 23 (by kernel_rfl)
              have t23 : a.tmps[23]?.getD undef = .pointer (some ⟨bl, 0, none⟩) := by simpa using s23
              rw [if_pos (Flow.wanted_yes 6 true 21 rfl (by kernel_rfl) sg)]
              clear hfr hdep
              go_simp
              exact hK _ _ True.intro hinv (fun d hd => by cases hd; trivial)
            refine Flow.Steps.cons (fun a W hfr hinv hdep K hK => ?_) ?_
            · have sg : a.tmps.getD 21 undef = .bool true := hdep 21 (by kernel_rfl)
              have s24 : a.tmps.getD 24 undef = .pointer (some ⟨bl, 0, none⟩) := hdep 24 (by kernel_rfl)
              have t24 : a.tmps[24]?.getD undef = .pointer (some ⟨bl, 0, none⟩) := by simpa using s24
              rw [if_pos (Flow.wanted_yes 6 true 21 rfl (by kernel_rfl) sg)]
              clear hfr hdep
              go_simp
              exact hK _ _ True.intro hinv (fun d hd => by cases hd; trivial)
            refine Flow.Steps.cons (fun a W hfr hinv hdep K hK => ?_) ?_
            · have sg : a.tmps.getD 21 undef = .bool true := hdep 21 (by kernel_rfl)
              have s25 : a.tmps.getD 25 undef = .pointer (some ⟨bl, 2, none⟩) := hdep 25 (by kernel_rfl)
              have t25 : a.tmps[25]?.getD undef = .pointer (some ⟨bl, 2, none⟩) := by simpa using s25
              have l0 := (HL.out W hinv).cell 0; have l1 := (HL.out W hinv).cell 1; have l2 := (HL.out W hinv).cell 2; obtain ⟨z0, z1⟩ := HLb.out W hinv; simp at l0 l1 l2
              rw [if_pos (Flow.wanted_yes 6 true 21 rfl (by kernel_rfl) sg)]
              clear hfr hdep
              go_simp
              exact hK _ _ True.intro hinv (fun d hd => by cases hd; trivial)
            refine Flow.Steps.cons (fun a W hfr hinv hdep K hK => ?_) ?_
            · have sg : a.tmps.getD 21 undef = .bool true := hdep 21 (by kernel_rfl)
              have s26 : a.tmps.getD 26 undef = .slice (some ⟨lb, 2 * off, none⟩) N cp := hdep 26 (by kernel_rfl)
              have t26 : a.tmps[26]?.getD undef = .slice (some ⟨lb, 2 * off, none⟩) N cp := by simpa using s26
              have hh := hN0
              rw [if_pos (Flow.wanted_yes 6 true 21 rfl (by kernel_rfl) sg)]
              clear hfr hdep
              go_simp
              exact hK _ _ True.intro hinv (fun d hd => by cases hd; trivial)
            refine Flow.Steps.cons (fun a W hfr hinv hdep K hK => ?_) ?_
            · have sg : a.tmps.getD 21 undef = .bool true := hdep 21 (by kernel_rfl)
              have s27 : a.tmps.getD 27 undef = .pointer (some ⟨lb, 2 * off, none⟩) := hdep 27 (by kernel_rfl)
              have t27 : a.tmps[27]?.getD undef = .pointer (some ⟨lb, 2 * off, none⟩) := by simpa using s27
              rw [if_pos (Flow.wanted_yes 6 true 21 rfl (by kernel_rfl) sg)]
              clear hfr hdep
              go_simp
              exact hK _ _ True.intro hinv (fun d hd => by cases hd; trivial)
            refine Flow.Steps.cons (fun a W hfr hinv hdep K hK => ?_) ?_
            · have sg : a.tmps.getD 21 undef = .bool true := hdep 21 (by kernel_rfl)
              have s28 : a.tmps.getD 28 undef = .pointer (some ⟨lb, 2 * off, none⟩) := hdep 28 (by kernel_rfl)
              have t28 : a.tmps[28]?.getD undef = .pointer (some ⟨lb, 2 * off, none⟩) := by simpa using s28
              have l0 := (HL.out W hinv).cell 0; have l1 := (HL.out W hinv).cell 1; have l2 := (HL.out W hinv).cell 2; obtain ⟨z0, z1⟩ := HLb.out W hinv; simp at l0 l1 l2
              rw [if_pos (Flow.wanted_yes 6 true 21 rfl (by kernel_rfl) sg)]
              clear hfr hdep
              go_simp
              exact hK _ _ True.intro hinv (fun d hd => by cases hd; trivial)
            refine Flow.Steps.cons (fun a W hfr hinv hdep K hK => ?_) ?_
            · have sg : a.tmps.getD 21 undef = .bool true := hdep 21 (by kernel_rfl)
              have s5 : a.tmps.getD 5 undef = .pointer (some ⟨bl, 0, none⟩) := hfr.at 5 (by kernel_rfl)
              have t5 : a.tmps[5]?.getD undef = .pointer (some ⟨bl, 0, none⟩) := by simpa using s5
              rw [if_pos (Flow.wanted_yes 6 true 21 rfl (by kernel_rfl) sg)]
              clear hfr hdep
              go_simp
              exact hK _ _ True.intro hinv (fun d hd => by cases hd; trivial)
            refine Flow.Steps.cons (fun a W hfr hinv hdep K hK => ?_) ?_
            · have sg : a.tmps.getD 21 undef = .bool true := hdep 21 (by kernel_rfl)
              have s30 : a.tmps.getD 30 undef = .pointer (some ⟨bl, 0, none⟩) := hdep 30 (by kernel_rfl)
              have t30 : a.tmps[30]?.getD undef = .pointer (some ⟨bl, 0, none⟩) := by simpa using s30
              rw [if_pos (Flow.wanted_yes 6 true 21 rfl (by kernel_rfl) sg)]
              clear hfr hdep
              go_simp
              exact hK _ _ True.intro hinv (fun d hd => by cases hd; trivial)
            refine Flow.Steps.cons (fun a W hfr hinv hdep K hK => ?_) ?_
            · have sg : a.tmps.getD 21 undef = .bool true := hdep 21 (by kernel_rfl)
              have s31 : a.tmps.getD 31 undef = .pointer (some ⟨bl, 0, none⟩) := hdep 31 (by kernel_rfl)
              have t31 : a.tmps[31]?.getD undef = .pointer (some ⟨bl, 0, none⟩) := by simpa using s31
              rw [if_pos (Flow.wanted_yes 6 true 21 rfl (by kernel_rfl) sg)]
              clear hfr hdep
              go_simp
              exact hK _ _ True.intro hinv (fun d hd => by cases hd; trivial)
            refine Flow.Steps.cons (fun a W hfr hinv hdep K hK => ?_) ?_
            · have sg : a.tmps.getD 21 undef = .bool true := hdep 21 (by kernel_rfl)
              have s32 : a.tmps.getD 32 undef = .pointer (some ⟨bl, 2, none⟩) := hdep 32 (by kernel_rfl)
              have t32 : a.tmps[32]?.getD undef = .pointer (some ⟨bl, 2, none⟩) := by simpa using s32
              have l0 := (HL.out W hinv).cell 0; have l1 := (HL.out W hinv).cell 1; have l2 := (HL.out W hinv).cell 2; obtain ⟨z0, z1⟩ := HLb.out W hinv; simp at l0 l1 l2
              rw [if_pos (Flow.wanted_yes 6 true 21 rfl (by kernel_rfl) sg)]
              clear hfr hdep
              go_simp
              exact hK _ _ True.intro hinv (fun d hd => by cases hd; trivial)
            refine Flow.Steps.cons (fun a W hfr hinv hdep K hK => ?_) ?_
            · have sg : a.tmps.getD 21 undef = .bool true := hdep 21 (by kernel_rfl)
              have s33 : a.tmps.getD 33 undef = .slice (some ⟨lb, 2 * off, none⟩) N cp := hdep 33 (by kernel_rfl)
              have t33 : a.tmps[33]?.getD undef = .slice (some ⟨lb, 2 * off, none⟩) N cp := by simpa using s33
              have hh := hN0
              rw [if_pos (Flow.wanted_yes 6 true 21 rfl (by kernel_rfl) sg)]
              clear hfr hdep
              go_simp
              exact hK _ _ True.intro hinv (fun d hd => by cases hd; trivial)
            refine Flow.Steps.cons (fun a W hfr hinv hdep K hK => ?_) ?_
            · have sg : a.tmps.getD 21 undef = .bool true := hdep 21 (by kernel_rfl)
              have s34 : a.tmps.getD 34 undef = .pointer (some ⟨lb, 2 * off, none⟩) := hdep 34 (by kernel_rfl)
              have t34 : a.tmps[34]?.getD undef = .pointer (some ⟨lb, 2 * off, none⟩) := by simpa using s34
              rw [if_pos (Flow.wanted_yes 6 true 21 rfl (by kernel_rfl) sg)]
              clear hfr hdep
              go_simp
              exact hK _ _ True.intro hinv (fun d hd => by cases hd; trivial)
            refine Flow.Steps.cons (fun a W hfr hinv hdep K hK => ?_) ?_
            · have sg : a.tmps.getD 21 undef = .bool true := hdep 21 (by kernel_rfl)
              have s35 : a.tmps.getD 35 undef = .pointer (some ⟨lb, 2 * off + 1, none⟩) := hdep 35 (by kernel_rfl)
              have t35 : a.tmps[35]?.getD undef = .pointer (some ⟨lb, 2 * off + 1, none⟩) := by simpa using s35
              have l0 := (HL.out W hinv).cell 0; have l1 := (HL.out W hinv).cell 1; have l2 := (HL.out W hinv).cell 2; obtain ⟨z0, z1⟩ := HLb.out W hinv; simp at l0 l1 l2
              rw [if_pos (Flow.wanted_yes 6 true 21 rfl (by kernel_rfl) sg)]
              clear hfr hdep
              go_simp
              exact hK _ _ True.intro hinv (fun d hd => by cases hd; trivial)
            refine Flow.Steps.cons (fun a W hfr hinv hdep K hK => ?_) ?_
            · have sg : a.tmps.getD 21 undef = .bool true := hdep 21 (by kernel_rfl)
              have s22 : a.tmps.getD 22 undef = .pointer (some ⟨bl, 0, none⟩) := hdep 22 (by kernel_rfl)
              have t22 : a.tmps[22]?.getD undef = .pointer (some ⟨bl, 0, none⟩) := by simpa using s22
              have s29 : a.tmps.getD 29 undef = .int .u64 (o2 : Int) := hdep 29 (by kernel_rfl)
              have t29 : a.tmps[29]?.getD undef = .int .u64 (o2 : Int) := by simpa using s29
              have s36 : a.tmps.getD 36 undef = .int .i64 m2 := hdep 36 (by kernel_rfl)
              have t36 : a.tmps[36]?.getD undef = .int .i64 m2 := by simpa using s36
              rw [if_pos (Flow.wanted_yes 6 true 21 rfl (by kernel_rfl) sg)]
              clear hfr hdep
              go_simp
              refine (HF.out W hinv).mono ?_
              rintro e W' ⟨rfl, g1⟩
              exact hK _ _ True.intro (Gr.trans hinv g1) (fun d hd => by cases hd; trivial)
            refine Flow.Steps.cons (fun a W hfr hinv hdep K hK => ?_) ?_
            · have s21 : a.tmps.getD 21 undef = .bool true := hdep 21 (by kernel_rfl)
              have t21 : a.tmps[21]?.getD undef = .bool true := by simpa using s21
              have s37 : a.tmps.getD 37 undef = .bool true := hdep 37 (by kernel_rfl)
              have t37 : a.tmps[37]?.getD undef = .bool true := by simpa using s37
              rw [if_pos (Flow.wanted_none rfl)]
              clear hfr hdep
              go_simp
              exact hK _ _ True.intro hinv (fun d hd => by cases hd; trivial)
            exact True.intro
          case fin =>
            intro a W hfr hfin hsl
            have s38 : a.tmps.getD 38 undef = .bool true := hsl 23 _ 38 rfl rfl
            have t38 : a.tmps[38]?.getD undef = .bool true := by simpa using s38
            have e := Flow.frame hfr [15, 16, 17, 18, 19, 20, 21, 22, 23, 24, 25, 26, 27, 28, 29, 30, 31, 32, 33, 34, 35, 36, 37, 38] (List.range 98) (by kernel_rfl) (by kernel_rfl)
            simp [List.range, List.range.loop] at e
            rw [t38] at e
            rw [e]
            clear e hfr hsl s38 t38
            rename_i K2 hK2
            refine hK2 _ _ ?_
            have HW2 := Lib.hid hfin
            clear hfin
            obtain ⟨z0, z1⟩ := HLb.out W HW2.out
            have z2 := (HL.out W HW2.out).cell 2
            simp at z2
            obtain ⟨W2, hW2⟩ : ∃ W2, W2 = W.alloc (.cells #[.int .u64 (o2 : Int), .int .i64 m2] TWt) := ⟨_, rfl⟩
            have g2 : Gr W W2 := by rw [hW2]; exact (Gr.refl W).alloc (Nat.le_refl _) _
            have wb2 : Blk W2 W.heap.size TWt #[.int .u64 (o2 : Int), .int .i64 m2] := by rw [hW2]; exact Blk.new W TWt #[.int .u64 (o2 : Int), .int .i64 m2]
            have bl2 := HL.out W2 (Gr.trans HW2.out g2)
            have y2 := bl2.cell 2
            have f2 := bl2.frozen 2
            simp at y2
            obtain ⟨wb, hwb⟩ : ∃ wb, wb = W.heap.size := ⟨_, rfl⟩
            rw [← hwb] at wb2
            have HX2 := Lib.hid (And.intro hW2 (And.intro hwb (And.intro g2 (And.intro wb2 bl2))))
            clear hW2 hwb g2 wb2 bl2
            go_upto_region 5 with fail
            rw [show (W.alloc (.cells #[.int .u64 (o2 : Int), .int .i64 m2] 61)) = W2 from HX2.out.1.symm, ← HX2.out.2.1]
            have HLn : Hid ((1 < cp → LnAt wr (B' (.ln k)) (.slice (some ⟨lb, 2 * off + 2, none⟩) (N - 1) (cp - 1)) r true) ∧ (¬ 1 < cp → LnAt wr (B' (.ln k)) (.slice (some ⟨lb, 2 * off, none⟩) (N - 1) (cp - 1)) r true)) := by
              obtain ⟨d1, d2, d3, r1, r3, r4, r5, r6, r7, q2, q3, q4, q5, q6, hline⟩ := HD.out
              obtain ⟨hl, hlo, e2, e4, e5, hN⟩ := HI.out
              rw [hline] at r4 r7 hN
              have hN1 : N - 1 = r.length := by rw [hN]; simp
              rw [hN1, r1]
              exact Lib.hid (ln_pop r3 (by simpa using r4) r5 r6 r7)
            have hcp0 : 0 < cp := by
              obtain ⟨d1, d2, d3, r1, r3, r4, r5, r6, r7, q2, q3, q4, q5, q6, hline⟩ := HD.out
              rw [hline] at r4
              simp at r4
              omega
            go_cut [] (fun w3 => ∃ v1, w3 = W2.setCell ⟨bl, 2, none⟩ v1 ∧ Hid (LnAt wr (B' (.ln k)) v1 r true))
            case first =>
              go_wp2_with fail
              all_goals
                go_meet
                first
                  | exact ⟨_, rfl, Lib.hid (HLn.out.1 (by omega))⟩
                  | (have hc1 : cp = 1 := by omega
                     subst hc1
                     exact ⟨_, rfl, Lib.hid (HLn.out.2 (by omega))⟩)
            case rest =>
              obtain ⟨v1, rfl, hv1⟩ := hcut
              obtain ⟨hu, hn, hle, hnl, tr, tn, eb, hls, hg⟩ := HR.out
              obtain ⟨hl, hlo, e2, e4, e5, hN⟩ := HI.out
              obtain ⟨d1, d2, d3, r1, r3, r4, r5, r6, r7, q2, q3, q4, q5, q6, hline⟩ := HD.out
              obtain ⟨_, hwbe, g2, wb2, bl2⟩ := HX2.out
              have gr2 := Gr.trans HW2.out g2
              obtain ⟨tA, nA⟩ := tr.popLine hl eb gr2 v1 hv1.out
              have hwbF : ¬ FB B' wb := fun ⟨a, ha⟩ => by
                have := tr.lt a _ ha
                have := HW2.out.size
                omega
              have wb3 := wb2.far (p := ⟨bl, 2, none⟩) (fun e => hwbF ⟨_, by rw [e]; exact eb⟩) v1
              obtain ⟨W3, hW3⟩ : ∃ W3, W3 = W2.setCell ⟨bl, 2, none⟩ v1 := ⟨_, rfl⟩
              rw [← hW3] at tA nA wb3 ⊢
              obtain ⟨p0, hp0⟩ := Option.isSome_iff_exists.1 d2
              have hpo : T'.of o2 = p0 := by unfold Tb.of; rw [hp0]; rfl
              obtain ⟨pb, pm, s1, s2, s3, s4⟩ := tA.py o2 p0 hp0
              have hl6 : ∀ q, (Instr.lookup TMo (.map (some om)) (.int .u64 (o2 : Int)) false).run Tryz.prog (W3.drewN q) = .ok (.pointer (some ⟨pb, 0, none⟩)) (W3.drewN q) := fun q => by
                have := (tA.stays (w' := W3.drewN q) (fun _ _ _ => rfl)).lookO d1
                rw [s1] at this
                exact this
              have c1 := tA.c3.2.1
              have w0 := wb3.cell 0
              simp at w0
              have HT3 := Lib.hid (And.intro tA (And.intro nA (And.intro wb3 (And.intro hwbF (And.intro hW3 (And.intro hp0 (And.intro hpo (And.intro s1 (And.intro s2 s3)))))))))
              clear hu hn hle hnl tr tn eb hls hg hl hlo e2 e4 e5 hN d1 d2 d3 r1 r3 r4 r5 r6 r7 q2 q3 q4 hline hwbe g2 wb2 bl2 gr2 tA nA hwbF wb3 hW3 hp0 hpo s1 s2 s3 s4 f2 y2 z0 z1 z2
              obtain ⟨M, hM⟩ : ∃ M, M = T'.many := ⟨_, rfl⟩
              rw [← hM] at q5 q6
              have HM := Lib.hid hM
              clear hM
              go_upto_region 6 with fail
              go_quiet (fail)
              rename_i nq
              clear hl6 c1 w0
              obtain ⟨tA, nA, wb3, hwbF, hW3, hp0, hpo, s1, s2, s3⟩ := HT3.out
              have g34 : Gr W3 (W3.drewN nq) := grD (Gr.refl _)
              obtain ⟨W4, hW4⟩ : ∃ W4, W4 = W3.drewN nq := ⟨_, rfl⟩
              rw [← hW4] at g34 ⊢
              have t4 := tA.gr g34
              have s34 := s3.gr g34
              have pz1 := s34.cell 1
              have pz2 := s34.cell 2
              have pz3 := s34.cell 3
              simp at pz1 pz2 pz3
              have pf1 := s34.frozen 1
              have pf2 := s34.frozen 2
              have pf3 := s34.frozen 3
              have HT4 := Lib.hid (And.intro t4 (And.intro g34 s34))
              clear tA nA wb3 hwbF hW3 hp0 hpo s1 s2 s3 g34 hW4 t4 s34
              go_upto_region 8 with fail
              obtain ⟨tA, nA, wb3, hwbF, hW3, hp0, hpo, s1, s2, s3⟩ := HT3.out
              obtain ⟨t4, g34, s34⟩ := HT4.out
              obtain ⟨tB, nB⟩ := t4.popParty (o := o2) (p := p0) hp0 s1
              obtain ⟨W5, hW5⟩ : ∃ W5, W5 = ((W4.setCell ⟨pb, 1, none⟩ (.int .i64 0)).setCell ⟨pb, 2, none⟩ (.int .i64 0)).setCell ⟨pb, 3, none⟩ (.int .i64 0) := ⟨_, rfl⟩
              rw [← hW5] at tB nB ⊢
              have c2 : W5.cell? ⟨t, 2, none⟩ = some (.int .i64 M) := by rw [HM.out]; exact tB.c3.2.2
              have cf := tB.blk.frozen 2
              obtain ⟨tC, nC⟩ := tB.setMany (M - 1)
              have wb5 := nB.blk (wb3.gr g34) hwbF
              obtain ⟨hu, hn, hle, hnl, tr, tn, eb, hls, hg⟩ := HR.out
              have kbr := HB.out wr (Gr.refl wr)
              have hkbF : ¬ FB B' kb := tr.far_ty kbr (by decide) (by decide) (by decide) (by decide)
              have kb5 := nB.blk ((nA.blk kbr hkbF).gr g34) hkbF
              have HT5 := Lib.hid (And.intro tC (And.intro ((((nA.trans (Tn.of_gr g34)).trans nB).trans nC)) (And.intro (nC.blk wb5 hwbF) (And.intro (nC.blk kb5 hkbF) (And.intro hwbF (And.intro hp0 hpo))))))
              clear tA nA wb3 hwbF hW3 hp0 hpo s1 s2 s3 t4 g34 s34 tB nB hW5 tC nC wb5 hu hn hle hnl tr tn eb hls hg kbr hkbF kb5 pz1 pz2 pz3 pf1 pf2 pf3
              go_upto_region 9 with fail
              obtain ⟨W6, hW6⟩ : ∃ W6, W6 = W5.setCell ⟨t, 2, none⟩ (.int .i64 (M - 1)) := ⟨_, rfl⟩
              rw [← hW6]
              have HT6 := HT5.out
              rw [← hW6] at HT6
              clear HT5 hW6 c2 cf
              obtain ⟨tC, nC, wb6, kb6, hwbF, hp0, hpo⟩ := HT6
              obtain ⟨hl, hlo, e2, e4, e5, hN⟩ := HI.out
              obtain ⟨d1, d2, d3, r1, r3, r4, r5, r6, r7, q2, q3, q4, q5', q6', hline⟩ := HD.out
              have hTP : ({ T' with many := M - 1, lk := updF T'.lk k (some { l with line := r, pop := true }), py := updF T'.py o2 (some { p0 with key := (0, 0), mode := 0 }) } : Tb) = T'.pop k o2 r := by
                unfold Tb.pop
                rw [hlo, hpo, HM.out]
              have tP : TbAt W6 t km om B' (T'.pop k o2 r) := by rw [← hTP]; exact tC
              have z0 := wb6.cell 0
              have z1 := wb6.cell 1
              have y0 := kb6.cell 0
              have y1 := kb6.cell 1
              simp at z0 z1 y0 y1
              have HGv := Lib.hid (give_any tP d1 hk m2 (Nat.lt_of_le_of_lt q3 (by decide)) (Nat.lt_of_le_of_lt q4 (by decide)) (by
                rw [lkOf_of (pop_lk T' k o2 r)]
                have : (T'.lkOf k).hs.length ≤ 1000000000 := by
                  obtain ⟨hu, hn, hle, hnl, tr, tn, eb, hls, hg⟩ := HR.out
                  exact (show T'.Good k from hg 0 (Nat.zero_le _)).1
                exact Nat.lt_of_le_of_lt this (by decide)) (by
                have : ((T'.pop k o2 r).of o2).ks = (T'.of o2).ks := by
                  unfold Tb.of Tb.pop
                  simp only [updF_same]
                  rfl
                rw [this]
                exact Nat.lt_of_le_of_lt d3 (by decide)) (by
                show -1000000000 ≤ T'.many - 1 ∧ T'.many - 1 ≤ 1000000000
                omega))
              rw [HKV.out] at HGv
              have HT6 := Lib.hid (And.intro nC (And.intro wb6 hwbF))
              clear tC nC wb6 kb6 hwbF hp0 hpo hl hlo e2 e4 e5 hN d1 d2 d3 r1 r3 r4 r5 r6 r7 q2 q3 q4 q5' q6' hline hTP tP
              go_wp2_with fail
              refine HGv.out.mono ?_
              rintro e W7 ⟨B2, rfl, tD, nD, eD⟩
              obtain ⟨nC, wb6, hwbF⟩ := HT6.out
              obtain ⟨hu, hn, hle, hnl, tr, tn, eb, hls, hg⟩ := HR.out
              have nT := nC.trans nD
              have hu7 := hu.tn nT (hu.far tr)
              have wb7 := nD.blk wb6 hwbF
              have x0 := wb7.cell 0
              simp at x0
              have HT7 := Lib.hid (And.intro hu7 (And.intro tD (And.intro nT eD)))
              clear hu hn hle hnl tr tn eb hls hg nT hu7 wb7 nC wb6 hwbF tD nD eD z0 z1 y0 y1
              obtain ⟨W8, hW8⟩ : ∃ W8, W8 = W7.alloc (.cells #[.int .u64 (o2 : Int)] TOw) := ⟨_, rfl⟩
              have g8 : Gr W7 W8 := by rw [hW8]; exact (Gr.refl W7).alloc (Nat.le_refl _) _
              have hu8 := HT7.out.1.gr g8
              have hy8 : USl W8 (.slice (some ⟨W7.heap.size, 0, none⟩) 1 1) [o2] := by rw [hW8]; exact USl.one W7 o2 TOw
              have HU8 := Lib.hid (And.intro hu8 (And.intro hy8 (And.intro g8 hW8)))
              clear hu8 hy8 g8 hW8
              go_upto_region 10 with fail
              have hcl : c.length + [o2].length ≤ 1000000000 := by
                obtain ⟨hu, hn, hle, hnl, tr, tn, eb, hls, hg⟩ := HR.out
                have hd := HD.out.2.2.2.2.2.2.2.2.2.2.2.2.2.2
                have hlo := HI.out.2.1
                rw [hlo, hd] at hle
                simp at hle ⊢
                have := (show T.Good k from HH.out.2.2.1 0 (Nat.zero_le _)).2.1
                omega
              have hbs : W1.heap.size ≤ W8.heap.size := by
                obtain ⟨hu, hn, hle, hnl, tr, tn, eb, hls, hg⟩ := HR.out
                have e1 := tn.onl.size
                have e2 := HT7.out.2.2.1.onl.size
                have e3 := HU8.out.2.2.1.size
                omega
              go_wp2_with (at_builtin; rw [show (W7.alloc (.cells #[.int .u64 (o2 : Int)] 31)) = W8 from HU8.out.2.2.2.symm]; refine wpList_app_us rfl (.tmp 81) (.tmp 84) rfl rfl HU8.out.1 rfl HU8.out.2.1 hcl hbs (fun v' W9 hv9 hg9 => ?_))
              have hg9' : W8.grownBy W9 u6.ownBlock := hg9
              clear hg9
              obtain ⟨hu, hn, hle, hnl, tr, tn, eb, hls, hg⟩ := HR.out
              obtain ⟨hu7, tD, nT, eD⟩ := HT7.out
              obtain ⟨hu8, hy8, g8, _⟩ := HU8.out
              obtain ⟨hl, hlo, e2, e4, e5, hN⟩ := HI.out
              have hline := HD.out.2.2.2.2.2.2.2.2.2.2.2.2.2.2
              have hf := hu7.far tD
              have hle1 := hle
              rw [hlo, hline] at hle1
              simp only [List.length_cons] at hle1
              obtain ⟨n', rfl⟩ : ∃ n', n = n' + 1 := ⟨n - 1, by omega⟩
              have t8 := tD.gr g8
              have t9 : TbAt W9 t km om B2 ((T'.pop k o2 r).give o2 k m2) := t8.stays fun a m hm => hg9'.block m (t8.lt a m hm) (fun e => hf m e.symm ⟨a, hm⟩)
              have eb2 : B2 (.lk k) = some bl := (eD (by rw [pop_lk]; rfl)).trans eb
              have hT2 := give_lkOf (T'.pop k o2 r) o2 k m2
              have hline2 : (((T'.pop k o2 r).give o2 k m2).lkOf k).line = r := by rw [lkOf_of hT2, lkOf_of (pop_lk T' k o2 r)]
              have nU := (tn.trans nT).trans (Tn.of_gr g8)
              have hown := fun g hg => (hu8.lt g hg).1
              refine ⟨⟨n', _, B2, c ++ [o2], Lib.hid ⟨hv9, by rw [← HYes.out]; exact hn, by rw [hline2]; omega, by simp only [List.length_append, List.length_singleton]; omega, t9, ⟨⟨hg9'.os.trans nU.onl.os, hg9'.tape.trans nU.onl.tape, hg9'.output.trans nU.onl.output, Nat.le_trans nU.onl.size hg9'.size, fun m hm hn' => (hg9'.block m (Nat.lt_of_lt_of_le hm nU.onl.size) (fun e => by have := hown m e.symm; omega)).trans (nU.onl.block m hm hn')⟩, nU.new⟩, eb2, by rw [hT2]; rfl, fun i hi => ?_⟩⟩, ?_⟩
              · have := hg (i + 1) (by omega)
                rw [HYes.out i] at this
                exact this
              · obtain ⟨b', h', v9, p1, p2, p3, p4, p5⟩ := t9.lk k _ hT2
                rw [eb2] at p1
                cases p1
                have z := p3.cell 2
                have z' := (HL.out wr (Gr.refl wr)).cell 2
                simp at z z'
                have hv : lenOf v9 = r.length := by
                  rw [lkOf_of (pop_lk T' k o2 r)] at p5
                  rcases p5 with ⟨_, hv, h0⟩ | ⟨_, _, _, _, _, hv, _⟩
                  · have h0' : r = [] := h0
                    rw [hv, h0']
                    rfl
                  · rw [hv]
                    rfl
                rw [z, z']
                show lenOf v9 < N
                rw [hv, hN, hline]
                simp
end
end Go.Proofs.YtadopbpfnnpnaaaGreat

