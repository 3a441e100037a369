
/-
  The code's table of locks: slices.Insert at a line's end; a party waits.
-/
import Derived.Test.YtgpaikaccipfjaaLk19
namespace Go.Proofs.Ytgpaikaccipfjaa
open Go.RowKit Go.Maps

theorem wpList_append_line {ops : Array Oper} {rest : List Oper} {op : Oper} {a : Act} {w : World} {Q : Exit → Act → World → Prop} (hg : op.guard = none) (s x : Operand) (ho : op.op = .call { callee := .builtin .append, args := #[s, x], argTypes := #[TWts, TWts] })
    {ob : Option Nat} {v : Value} {ws : List (Nat × Int)} {pop : Bool} (hs : a.eval s = v) (h : LnAt w ob v ws pop) {b c : Nat} (hx : a.eval x = .slice (some ⟨b, 0, none⟩) 1 c) {o : Nat} {m : Int} (hb : ws.length ≤ 1000000000)
    (hx0 : w.cell? ⟨b, 0, none⟩ = some (.int .u64 (o : Int))) (hx1 : w.cell? ⟨b, 1, none⟩ = some (.int .i64 m))
    (h2 : ∀ v' w' ob', LnAt w' ob' v' (ws ++ [(o, m)]) pop → w.grownBy w' ob → (∀ n, ob' = some n → ob = some n ∨ w.heap.size ≤ n) → wpList Try.prog ops Q rest (a.put op.dst v') w') : wpList Try.prog ops Q (op :: rest) a w := by
  refine wpList_plain hg fun K hK => ?_
  obtain ⟨v', w', ob', hr, r1, r2, r3⟩ := run_append_line h o m hb hx0 hx1 op.type (c := c)
  unfold Oper.wp execOp
  simp only [ho, resolve, invoke, builtin, Sem.run_bind, Sem.run_pure, Result.andThen_ok, List.map_toArray, List.map_cons, List.map_nil, hs, hx, hr]
  exact hK _ _ (h2 v' w' ob' r1 r2 r3)
def RetLn (ob : Option Nat) (ws : List (Nat × Int)) (pop : Bool) (w : World) (e : Ending) (w' : World) : Prop :=
  ∃ v' ob', e = .returned v' ∧ LnAt w' ob' v' ws pop ∧ w.grownBy w' ob ∧ (∀ n, ob' = some n → ob = some n ∨ w.heap.size ≤ n)
set_option maxRecDepth 100000 in
theorem insert_end {w : World} {ob : Option Nat} {v : Value} {ws : List (Nat × Int)} {pop : Bool} (h : LnAt w ob v ws pop) {N : Nat} (hN : N = ws.length) {b o : Nat} {m : Int} (hb : ws.length ≤ 1000000000)
    (hx0 : w.cell? ⟨b, 0, none⟩ = some (.int .u64 (o : Int))) (hx1 : w.cell? ⟨b, 1, none⟩ = some (.int .i64 m)) :
    Calls Try.prog 46 #[v, .int .i64 (N : Int), .slice (some ⟨b, 0, none⟩) 1 1] w (RetLn ob (ws ++ [(o, m)]) pop w) := by
  have HL := Lib.hid h
  have hNb : N ≤ 1000000000 := by omega
  obtain ⟨p, c, hv, hNc⟩ : ∃ p c, v = .slice p N c ∧ N ≤ c := by
    rcases h with ⟨_, rfl, rfl⟩ | ⟨lb, off, cap, cs, _, rfl, _, h4, _⟩
    · exact ⟨none, 0, by rw [hN]; rfl, by rw [hN]; exact Nat.le_refl _⟩
    · exact ⟨_, cap, by rw [hN], by rw [hN]; exact h4⟩
  subst hv
  have HX := Lib.hid (And.intro hb (And.intro hx0 hx1))
  clear h hN hb hx0 hx1
  have hq : ¬ ((c : Int) < (N : Int)) := by omega
  have hq2 : N ≤ c := hNc
  have e1 : decide ((1 : Int) = 0) = false := rfl
  cases p with
  | none =>
    go_enter Try.func46, Try.ntmps46
    go_wp2_with (at_builtin; refine wpList_append_line rfl (.tmp 23) (.tmp 24) rfl rfl HL.out rfl HX.out.1 HX.out.2.1 HX.out.2.2 (fun v' w' ob' r1 r2 r3 => ?_))
    all_goals
      go_ret
      exact ⟨_, _, rfl, r1, r2, r3⟩
  | some p =>
    go_enter Try.func46, Try.ntmps46
    go_wp2_with (at_builtin; refine wpList_append_line rfl (.tmp 23) (.tmp 24) rfl rfl HL.out rfl HX.out.1 HX.out.2.1 HX.out.2.2 (fun v' w' ob' r1 r2 r3 => ?_))
    all_goals
      go_ret
      exact ⟨_, _, rfl, r1, r2, r3⟩
/-- A line may be read as long as its block stays. -/
def Tb.stand (T : Tb) (o : Nat) (k : Key) (m : Int) : Tb :=
  { T.made o with many := T.many + 1, lk := updF T.lk k (some { T.lkOf k with line := (T.lkOf k).line ++ [(o, m)] }), py := updF (T.made o).py o (some { T.of o with key := k, mode := m }) }
section
variable {w : World} {t km om : Nat} {B : Tag → Option Nat} {T : Tb}
/-- A party waits for something. -/
theorem TbAt.setParty (h : TbAt w t km om B T) {o : Nat} {p : Py} (ho : T.py o = some p) {pb : Nat} (e1 : B (.py o) = some pb) (k : Key) (m : Int) :
    TbAt (((w.setCell ⟨pb, 1, none⟩ (.int .i64 k.1)).setCell ⟨pb, 2, none⟩ (.int .i64 k.2)).setCell ⟨pb, 3, none⟩ (.int .i64 m)) t km om B { T with py := updF T.py o (some { p with key := k, mode := m }) } ∧ Tn w (((w.setCell ⟨pb, 1, none⟩ (.int .i64 k.1)).setCell ⟨pb, 2, none⟩ (.int .i64 k.2)).setCell ⟨pb, 3, none⟩ (.int .i64 m)) B B := by
  obtain ⟨b, hm, q1, q2, q3, q4⟩ := h.py o p ho
  rw [e1] at q1
  cases q1
  have hs := fun (u : World) (i : Nat) (v : Value) => Onl.of_set (S := fun n => B (.py o) = some n ∨ B (.pm o) = some n) (w := u) (a := ⟨pb, i, none⟩) v (.inl e1)
  have hw : Onl (fun n => B (.py o) = some n ∨ B (.pm o) = some n) w (((w.setCell ⟨pb, 1, none⟩ (.int .i64 k.1)).setCell ⟨pb, 2, none⟩ (.int .i64 k.2)).setCell ⟨pb, 3, none⟩ (.int .i64 m)) :=
    ((hs _ 1 _).trans (hs _ 2 _) (fun _ _ e => e)).trans (hs _ 3 _) (fun _ _ e => e)
  have hb := ((q3.set 1 (.int .i64 k.1)).set 2 (.int .i64 k.2)).set 3 (.int .i64 m)
  simp at hb
  refine h.setPy ho hw ⟨pb, hm, e1, q2, hb, q4.stays ?_⟩
  have hne := h.ne q2 e1 (by simp)
  rw [Below.heap_setCell _ _ _ _ hne, Below.heap_setCell _ _ _ _ hne, Below.heap_setCell _ _ _ _ hne]
/-- A line grows. -/
theorem TbAt.growLine {w2 w3 : World} (h : TbAt w t km om B T) {k : Key} {l : Lk} (hl : T.lk k = some l) {bl : Nat} (e1 : B (.lk k) = some bl) (g : Gr w w2) (hg : w2.grownBy w3 (B (.ln k))) {v1 : Value} {ob : Option Nat} {ws : List (Nat × Int)}
    (hv : LnAt w3 ob v1 ws l.pop) (hob : ∀ n, ob = some n → B (.ln k) = some n ∨ w2.heap.size ≤ n) :
    TbAt (w3.setCell ⟨bl, 2, none⟩ v1) t km om (updF B (.ln k) ob) { T with lk := updF T.lk k (some { l with line := ws }) } ∧ Tn w (w3.setCell ⟨bl, 2, none⟩ v1) B (updF B (.ln k) ob) := by
  obtain ⟨b, hm, v, q1, q2, q3, q4, q5⟩ := h.lk k l hl
  rw [e1] at q1
  cases q1
  have hne := @TbAt.ne w t km om B T h
  have hon : ∀ n, n < w.heap.size → B (.ln k) ≠ some n → w3.heap[n]? = w.heap[n]? := fun n h1 h2 => (hg.block n (Nat.lt_of_lt_of_le h1 g.size) (fun e => h2 e.symm)).trans (g.block n h1)
  have hlnb : B (.ln k) ≠ some bl := fun e => hne e e1 (by simp) rfl
  have hlnm : B (.ln k) ≠ some hm := fun e => hne e q2 (by simp) rfl
  have hw3 : Onl (fun n => B (.lk k) = some n ∨ B (.hm k) = some n ∨ B (.ln k) = some n) w w3 := ⟨hg.os.trans g.os, hg.tape.trans g.tape, hg.output.trans g.output, Nat.le_trans g.size hg.size, fun n h1 h2 => hon n h1 (fun e => h2 (.inr (.inr e)))⟩
  have hw : Onl (fun n => B (.lk k) = some n ∨ B (.hm k) = some n ∨ B (.ln k) = some n) w (w3.setCell ⟨bl, 2, none⟩ v1) :=
    hw3.trans (Onl.of_set (S := fun n => B (.lk k) = some n ∨ B (.hm k) = some n ∨ B (.ln k) = some n) v1 (.inl e1)) (fun _ _ e => e)
  have hb := (q3.stays (hon bl q3.lt hlnb)).set 2 v1
  simp at hb
  refine h.setLk hl (l' := { l with line := ws }) (ol := ob) hw ⟨bl, hm, v1, e1, q2, hb, (q4.stays (hon hm q4.lt hlnm)).stays (Below.heap_setCell _ _ _ _ (hne q2 e1 (by simp))), hv.stays fun n hn => Below.heap_setCell _ _ _ _ ?_⟩ (fun n hn => ?_)
  · rcases hob n hn with h1 | h1
    · exact hne h1 e1 (by simp)
    · have := q3.lt
      have := g.size
      show n ≠ bl
      omega
  · rcases hob n hn with h1 | h1
    · exact .inl h1
    · exact .inr (Nat.le_trans g.size h1)
end
end Go.Proofs.Ytgpaikaccipfjaa
