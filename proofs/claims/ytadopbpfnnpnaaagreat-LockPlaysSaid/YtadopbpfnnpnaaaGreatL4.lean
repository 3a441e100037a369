/-
  Texts on locks, put together: Lk5 Lk6.
-/
import Derived.Test.YtadopbpfnnpnaaaGreatL3
set_option linter.unusedVariables false
set_option linter.unusedSimpArgs false
/-
  The code's table of locks: how it turns.
-/
namespace Go.Proofs.YtadopbpfnnpnaaaGreat
open Go.RowKit Go.Maps

/-- Only blocks of S, and new ones, have turned. -/
structure Onl (S : Nat → Prop) (w w' : World) : Prop where
  os : w'.os = w.os
  tape : w'.tape = w.tape
  output : w'.output = w.output
  size : w.heap.size ≤ w'.heap.size
  block : ∀ n, n < w.heap.size → ¬ S n → w'.heap[n]? = w.heap[n]?
section
variable {S S' : Nat → Prop} {w w' w'' : World}
theorem Onl.refl (S : Nat → Prop) (w : World) : Onl S w w := ⟨rfl, rfl, rfl, Nat.le_refl _, fun _ _ _ => rfl⟩
theorem Onl.of_gr (h : Gr w w') : Onl S w w' := ⟨h.os, h.tape, h.output, h.size, fun n hn _ => h.block n hn⟩
theorem Onl.of_grown {m : Nat} (h : w.grownBy w' (some m)) (hm : S m) : Onl S w w' := ⟨h.os, h.tape, h.output, h.size, fun n hn hs => h.block n hn fun e => by cases e; exact hs hm⟩
theorem Onl.of_set {a : Addr} (v : Value) (ha : S a.block) : Onl S w (w.setCell a v) := ⟨rfl, rfl, rfl, by simp, fun n hn hs => Below.heap_setCell _ _ _ _ fun e => hs (by rw [e]; exact ha)⟩
theorem Onl.mono (h : Onl S w w') (k : ∀ n, n < w.heap.size → S n → S' n) : Onl S' w w' := ⟨h.os, h.tape, h.output, h.size, fun n hn hs => h.block n hn fun e => hs (k n hn e)⟩
theorem Onl.trans (h : Onl S w w') (k : Onl S' w' w'') (hs : ∀ n, n < w.heap.size → S' n → S n) : Onl S w w'' :=
  ⟨k.os.trans h.os, k.tape.trans h.tape, k.output.trans h.output, Nat.le_trans h.size k.size, fun n hn hs' => (k.block n (Nat.lt_of_lt_of_le hn h.size) fun e => hs' (hs n hn e)).trans (h.block n hn hs')⟩
theorem Onl.below (h : Onl S w w') {b : Nat} (hb : b ≤ w.heap.size) (hS : ∀ n, S n → b ≤ n) : Below b w w' := ⟨h.os, h.tape, h.output, h.size, fun n hn => h.block n (by omega) fun e => by have := hS n e; omega⟩
end
/-- The blocks of a table. -/
def FB (B : Tag → Option Nat) (n : Nat) : Prop := ∃ a, B a = some n
/-- Blocks, and new ones. -/
def New (w : World) (B B' : Tag → Option Nat) : Prop := ∀ a n, B' a = some n → FB B n ∨ w.heap.size ≤ n
theorem New.refl (w : World) (B : Tag → Option Nat) : New w B B := fun a n h => .inl ⟨a, h⟩
theorem New.trans {w w' : World} {B B' B'' : Tag → Option Nat} (h : New w B B') (k : New w' B' B'') (hs : w.heap.size ≤ w'.heap.size) : New w B B'' := fun a n hn => by
  rcases k a n hn with ⟨c, hc⟩ | h1
  · exact h c n hc
  · exact .inr (by omega)
/-- The table turns, and nothing else does. -/
structure Tn (w w' : World) (B B' : Tag → Option Nat) : Prop where
  onl : Onl (FB B) w w'
  new : New w B B'
theorem Tn.refl (w : World) (B : Tag → Option Nat) : Tn w w B B := ⟨Onl.refl _ _, New.refl _ _⟩
theorem Tn.trans {w w' w'' : World} {B B' B'' : Tag → Option Nat} (h : Tn w w' B B') (k : Tn w' w'' B' B'') : Tn w w'' B B'' :=
  ⟨h.onl.trans k.onl fun n hn ⟨a, ha⟩ => by
    rcases h.new a n ha with h1 | h1
    · exact h1
    · omega, h.new.trans k.new h.onl.size⟩
theorem Tn.of_gr {w w' : World} {B : Tag → Option Nat} (h : Gr w w') : Tn w w' B B := ⟨Onl.of_gr h, New.refl _ _⟩
section
variable {w w' : World} {t km om : Nat} {B : Tag → Option Nat} {T : Tb}
/-- One lock turns. -/
theorem TbAt.setLk (h : TbAt w t km om B T) {k : Key} {l l' : Lk} (hk : T.lk k = some l) {ol : Option Nat} (hw : Onl (fun n => B (.lk k) = some n ∨ B (.hm k) = some n ∨ B (.ln k) = some n) w w')
    (hl : LkAt w' (B (.lk k)) (B (.hm k)) ol l') (hol : ∀ n, ol = some n → B (.ln k) = some n ∨ w.heap.size ≤ n) :
    TbAt w' t km om (updF B (.ln k) ol) { T with lk := updF T.lk k (some l') } ∧ Tn w w' B (updF B (.ln k) ol) := by
  have hs : ∀ a n, B a = some n → a ≠ .lk k → a ≠ .hm k → a ≠ .ln k → w'.heap[n]? = w.heap[n]? := fun a n hn h1 h2 h3 => hw.block n (h.lt a n hn) fun e => by
    rcases e with e | e | e
    · exact h1 (h.inj _ _ _ hn e)
    · exact h2 (h.inj _ _ _ hn e)
    · exact h3 (h.inj _ _ _ hn e)
  have hb : ∀ a, a ≠ .ln k → updF B (.ln k) ol a = B a := fun a ha => updF_other _ _ ha
  refine ⟨⟨by rw [hb _ (by simp)]; exact h.bt, by rw [hb _ (by simp)]; exact h.bk, by rw [hb _ (by simp)]; exact h.bo, fun a b n ha hb' => ?_, h.blk.stays (hs _ _ h.bt (by simp) (by simp) (by simp)), ?_, ?_, fun k' l2 hk' => ?_, fun o p ho => ?_, fun k' hk' => ?_, fun o ho => ?_⟩, ⟨hw.mono fun n _ e => by rcases e with e | e | e <;> exact ⟨_, e⟩, fun a n ha => ?_⟩⟩
  · by_cases ea : a = .ln k
    · by_cases eb : b = .ln k
      · rw [ea, eb]
      · rw [ea, updF_same] at ha
        rw [hb b eb] at hb'
        rcases hol n ha with h1 | h1
        · exact ea.trans (h.inj _ _ _ h1 hb')
        · have := h.lt b n hb'; omega
    · rw [hb a ea] at ha
      by_cases eb : b = .ln k
      · rw [eb, updF_same] at hb'
        rcases hol n hb' with h1 | h1
        · exact (h.inj _ _ _ ha h1).trans eb.symm
        · have := h.lt a n ha; omega
      · rw [hb b eb] at hb'
        exact h.inj _ _ _ ha hb'
  · have e : (fun k' => (updF T.lk k (some l') k').map fun _ => ptrB (updF B (.ln k) ol (.lk k'))) = fun k' => (T.lk k').map fun _ => ptrB (B (.lk k')) := by
      funext k'
      rw [hb _ (by simp)]
      by_cases e : k' = k
      · rw [e, updF_same, hk]; rfl
      · rw [updF_other _ _ e]
    rw [e]
    exact h.keys.stays (hs _ _ h.bk (by simp) (by simp) (by simp))
  · have e : (fun o => (T.py o).map fun _ => ptrB (updF B (.ln k) ol (.py o))) = fun o => (T.py o).map fun _ => ptrB (B (.py o)) := by
      funext o
      rw [hb _ (by simp)]
    show Mp _ _ _ _ (fun o => (T.py o).map fun _ => ptrB (updF B (.ln k) ol (.py o))) _
    rw [e]
    exact h.owners.stays (hs _ _ h.bo (by simp) (by simp) (by simp))
  · by_cases e : k' = k
    · subst e
      have : l2 = l' := by
        have hk2 : updF T.lk k' (some l') k' = some l2 := hk'
        rw [updF_same] at hk2
        exact (Option.some.inj hk2).symm
      rw [this, hb _ (by simp), hb _ (by simp), updF_same]
      exact hl
    · have hk2 : T.lk k' = some l2 := by
        have hk2 : updF T.lk k (some l') k' = some l2 := hk'
        rwa [updF_other _ _ e] at hk2
      rw [hb _ (by simp), hb _ (by simp), hb _ (by simp [e])]
      exact (h.lk k' l2 hk2).stays (fun n hn => hs _ n hn (by simp [e]) (by simp) (by simp)) (fun n hn => hs _ n hn (by simp) (by simp [e]) (by simp)) (fun n hn => hs _ n hn (by simp) (by simp) (by simp [e]))
  · rw [hb _ (by simp), hb _ (by simp)]
    exact (h.py o p ho).stays (fun n hn => hs _ n hn (by simp) (by simp) (by simp)) (fun n hn => hs _ n hn (by simp) (by simp) (by simp))
  · have hk2 : updF T.lk k (some l') k' = none := hk'
    by_cases e : k' = k
    · rw [e, updF_same] at hk2; cases hk2
    · rw [updF_other _ _ e] at hk2
      rw [hb _ (by simp), hb _ (by simp), hb _ (by simp [e])]
      exact h.lk0 k' hk2
  · rw [hb _ (by simp), hb _ (by simp)]
    exact h.py0 o ho
  · by_cases ea : a = .ln k
    · rw [ea, updF_same] at ha
      rcases hol n ha with h1 | h1
      · exact .inl ⟨_, h1⟩
      · exact .inr h1
    · rw [hb a ea] at ha
      exact .inl ⟨a, ha⟩
/-- One party turns. -/
theorem TbAt.setPy (h : TbAt w t km om B T) {o : Nat} {p p' : Py} (ho : T.py o = some p) (hw : Onl (fun n => B (.py o) = some n ∨ B (.pm o) = some n) w w') (hp : PyAt w' (B (.py o)) (B (.pm o)) p') :
    TbAt w' t km om B { T with py := updF T.py o (some p') } ∧ Tn w w' B B := by
  have hs : ∀ a n, B a = some n → a ≠ .py o → a ≠ .pm o → w'.heap[n]? = w.heap[n]? := fun a n hn h1 h2 => hw.block n (h.lt a n hn) fun e => by
    rcases e with e | e
    · exact h1 (h.inj _ _ _ hn e)
    · exact h2 (h.inj _ _ _ hn e)
  refine ⟨⟨h.bt, h.bk, h.bo, h.inj, h.blk.stays (hs _ _ h.bt (by simp) (by simp)), h.keys.stays (hs _ _ h.bk (by simp) (by simp)), ?_, fun k l hk => ?_, fun o' p2 ho' => ?_, h.lk0, fun o' ho' => ?_⟩, ⟨hw.mono fun n _ e => by rcases e with e | e <;> exact ⟨_, e⟩, New.refl _ _⟩⟩
  · have e : (fun o' => (updF T.py o (some p') o').map fun _ => ptrB (B (.py o'))) = fun o' => (T.py o').map fun _ => ptrB (B (.py o')) := by
      funext o'
      by_cases e : o' = o
      · rw [e, updF_same, ho]; rfl
      · rw [updF_other _ _ e]
    show Mp _ _ _ _ (fun o' => (updF T.py o (some p') o').map fun _ => ptrB (B (.py o'))) _
    rw [e]
    exact h.owners.stays (hs _ _ h.bo (by simp) (by simp))
  · exact (h.lk k l hk).stays (fun n hn => hs _ n hn (by simp) (by simp)) (fun n hn => hs _ n hn (by simp) (by simp)) (fun n hn => hs _ n hn (by simp) (by simp))
  · have ho2 : updF T.py o (some p') o' = some p2 := ho'
    by_cases e : o' = o
    · subst e
      rw [updF_same] at ho2
      rw [← Option.some.inj ho2]
      exact hp
    · rw [updF_other _ _ e] at ho2
      exact (h.py o' p2 ho2).stays (fun n hn => hs _ n hn (by simp [e]) (by simp)) (fun n hn => hs _ n hn (by simp) (by simp [e]))
  · have ho2 : updF T.py o (some p') o' = none := ho'
    by_cases e : o' = o
    · rw [e, updF_same] at ho2; cases ho2
    · rw [updF_other _ _ e] at ho2
      exact h.py0 o' ho2
/-- The count turns. -/
theorem TbAt.setMany (h : TbAt w t km om B T) (n : Int) : TbAt (w.setCell ⟨t, 2, none⟩ (.int .i64 n)) t km om B { T with many := n } ∧ Tn w (w.setCell ⟨t, 2, none⟩ (.int .i64 n)) B B := by
  have hs : ∀ a m, B a = some m → a ≠ .tb → (w.setCell ⟨t, 2, none⟩ (.int .i64 n)).heap[m]? = w.heap[m]? := fun a m hm ha => Below.heap_setCell _ _ _ _ fun e => ha (h.inj _ _ _ hm (by rw [e]; exact h.bt))
  exact ⟨⟨h.bt, h.bk, h.bo, h.inj, h.blk.set 2 _, h.keys.stays (hs _ _ h.bk (by simp)), h.owners.stays (hs _ _ h.bo (by simp)), fun k l hk => (h.lk k l hk).stays (fun n hn => hs _ n hn (by simp)) (fun n hn => hs _ n hn (by simp)) (fun n hn => hs _ n hn (by simp)),
    fun o p ho => (h.py o p ho).stays (fun n hn => hs _ n hn (by simp)) (fun n hn => hs _ n hn (by simp)), h.lk0, h.py0⟩, ⟨Onl.of_set _ ⟨.tb, h.bt⟩, New.refl _ _⟩⟩
/-- A party comes in. -/
theorem TbAt.addPy (h : TbAt w t km om B T) {o : Nat} {p' : Py} (ho : T.py o = none) {b g : Nat} (hbg : b ≠ g) (hb : w.heap.size ≤ b) (hg : w.heap.size ≤ g) (hw : Onl (fun n => n = om) w w') (hp : PyAt w' (some b) (some g) p')
    (hm : Mp Tryz.prog KO w' om (updF (fun o => (T.py o).map fun _ => ptrB (B (.py o))) o (some (ptrB (some b)))) (putK o T.oo)) :
    TbAt w' t km om (updF (updF B (.py o) (some b)) (.pm o) (some g)) { T with py := updF T.py o (some p'), oo := putK o T.oo } ∧ Tn w w' B (updF (updF B (.py o) (some b)) (.pm o) (some g)) := by
  have hs : ∀ a n, B a = some n → a ≠ .om → w'.heap[n]? = w.heap[n]? := fun a n hn h1 => hw.block n (h.lt a n hn) fun e => h1 (h.inj _ _ _ hn (by rw [e]; exact h.bo))
  obtain ⟨B', hB'⟩ : ∃ B', B' = updF (updF B (.py o) (some b)) (.pm o) (some g) := ⟨_, rfl⟩
  have b1 : B' (.py o) = some b := by rw [hB', updF_other _ _ (by simp), updF_same]
  have b2 : B' (.pm o) = some g := by rw [hB', updF_same]
  have b3 : ∀ a, a ≠ .py o → a ≠ .pm o → B' a = B a := fun a h1 h2 => by rw [hB', updF_other _ _ h2, updF_other _ _ h1]
  rw [← hB']
  clear hB'
  have b4 : ∀ a n, B' a = some n → (a = .py o ∧ n = b) ∨ (a = .pm o ∧ n = g) ∨ (B a = some n ∧ n < w.heap.size) := fun a n hn => by
    by_cases e1 : a = .py o
    · rw [e1, b1] at hn; cases hn; exact .inl ⟨e1, rfl⟩
    · by_cases e2 : a = .pm o
      · rw [e2, b2] at hn; cases hn; exact .inr (.inl ⟨e2, rfl⟩)
      · rw [b3 a e1 e2] at hn; exact .inr (.inr ⟨hn, h.lt a n hn⟩)
  refine ⟨⟨by rw [b3 _ (by simp) (by simp)]; exact h.bt, by rw [b3 _ (by simp) (by simp)]; exact h.bk, by rw [b3 _ (by simp) (by simp)]; exact h.bo, fun a c n ha hc => ?_, h.blk.stays (hs _ _ h.bt (by simp)), ?_, ?_, fun k l hk => ?_, fun o' p2 ho' => ?_, fun k hk => ?_, fun o' ho' => ?_⟩, ⟨hw.mono fun n _ e => ⟨.om, by rw [e]; exact h.bo⟩, fun a n ha => ?_⟩⟩
  · rcases b4 a n ha with ⟨e1, e2⟩ | ⟨e1, e2⟩ | ⟨e1, e2⟩ <;> rcases b4 c n hc with ⟨f1, f2⟩ | ⟨f1, f2⟩ | ⟨f1, f2⟩
    · rw [e1, f1]
    · exact absurd (e2.symm.trans f2) hbg
    · omega
    · exact absurd (f2.symm.trans e2) hbg
    · rw [e1, f1]
    · omega
    · omega
    · omega
    · exact h.inj _ _ _ e1 f1
  · have e : (fun k => (T.lk k).map fun _ => ptrB (B' (.lk k))) = fun k => (T.lk k).map fun _ => ptrB (B (.lk k)) := by
      funext k
      rw [b3 _ (by simp) (by simp)]
    show Mp _ _ _ _ (fun k => (T.lk k).map fun _ => ptrB (B' (.lk k))) _
    rw [e]
    exact h.keys.stays (hs _ _ h.bk (by simp))
  · have e : (fun o' => (updF T.py o (some p') o').map fun _ => ptrB (B' (.py o'))) = updF (fun o => (T.py o).map fun _ => ptrB (B (.py o))) o (some (ptrB (some b))) := by
      funext o'
      by_cases e : o' = o
      · rw [e, updF_same, updF_same, b1]; rfl
      · rw [updF_other _ _ e, updF_other _ _ e, b3 _ (by simp [e]) (by simp)]
    show Mp _ _ _ _ (fun o' => (updF T.py o (some p') o').map fun _ => ptrB (B' (.py o'))) _
    rw [e]
    exact hm
  · rw [b3 _ (by simp) (by simp), b3 _ (by simp) (by simp), b3 _ (by simp) (by simp)]
    exact (h.lk k l hk).stays (fun n hn => hs _ n hn (by simp)) (fun n hn => hs _ n hn (by simp)) (fun n hn => hs _ n hn (by simp))
  · have ho2 : updF T.py o (some p') o' = some p2 := ho'
    by_cases e : o' = o
    · subst e
      rw [updF_same] at ho2
      rw [← Option.some.inj ho2, b1, b2]
      exact hp
    · rw [updF_other _ _ e] at ho2
      rw [b3 _ (by simp [e]) (by simp), b3 _ (by simp) (by simp [e])]
      exact (h.py o' p2 ho2).stays (fun n hn => hs _ n hn (by simp)) (fun n hn => hs _ n hn (by simp))
  · rw [b3 _ (by simp) (by simp), b3 _ (by simp) (by simp), b3 _ (by simp) (by simp)]
    exact h.lk0 k hk
  · have ho2 : updF T.py o (some p') o' = none := ho'
    by_cases e : o' = o
    · rw [e, updF_same] at ho2; cases ho2
    · rw [updF_other _ _ e] at ho2
      rw [b3 _ (by simp [e]) (by simp), b3 _ (by simp) (by simp [e])]
      exact h.py0 o' ho2
  · rcases b4 a n ha with ⟨_, e⟩ | ⟨_, e⟩ | ⟨e, _⟩
    · exact .inr (by omega)
    · exact .inr (by omega)
    · exact .inl ⟨a, e⟩
/-- A lock comes in. -/
theorem TbAt.addLk (h : TbAt w t km om B T) {k : Key} {l' : Lk} (hk : T.lk k = none) {b g : Nat} (hbg : b ≠ g) (hb : w.heap.size ≤ b) (hg : w.heap.size ≤ g) (hw : Onl (fun n => n = km) w w') (hl : LkAt w' (some b) (some g) none l')
    (hm : Mp Tryz.prog KL w' km (updF (fun k => (T.lk k).map fun _ => ptrB (B (.lk k))) k (some (ptrB (some b)))) (putK k T.kk)) :
    TbAt w' t km om (updF (updF B (.lk k) (some b)) (.hm k) (some g)) { T with lk := updF T.lk k (some l'), kk := putK k T.kk } ∧ Tn w w' B (updF (updF B (.lk k) (some b)) (.hm k) (some g)) := by
  have hs : ∀ a n, B a = some n → a ≠ .km → w'.heap[n]? = w.heap[n]? := fun a n hn h1 => hw.block n (h.lt a n hn) fun e => h1 (h.inj _ _ _ hn (by rw [e]; exact h.bk))
  obtain ⟨B', hB'⟩ : ∃ B', B' = updF (updF B (.lk k) (some b)) (.hm k) (some g) := ⟨_, rfl⟩
  have b1 : B' (.lk k) = some b := by rw [hB', updF_other _ _ (by simp), updF_same]
  have b2 : B' (.hm k) = some g := by rw [hB', updF_same]
  have b3 : ∀ a, a ≠ .lk k → a ≠ .hm k → B' a = B a := fun a h1 h2 => by rw [hB', updF_other _ _ h2, updF_other _ _ h1]
  rw [← hB']
  clear hB'
  have b4 : ∀ a n, B' a = some n → (a = .lk k ∧ n = b) ∨ (a = .hm k ∧ n = g) ∨ (B a = some n ∧ n < w.heap.size) := fun a n hn => by
    by_cases e1 : a = .lk k
    · rw [e1, b1] at hn; cases hn; exact .inl ⟨e1, rfl⟩
    · by_cases e2 : a = .hm k
      · rw [e2, b2] at hn; cases hn; exact .inr (.inl ⟨e2, rfl⟩)
      · rw [b3 a e1 e2] at hn; exact .inr (.inr ⟨hn, h.lt a n hn⟩)
  refine ⟨⟨by rw [b3 _ (by simp) (by simp)]; exact h.bt, by rw [b3 _ (by simp) (by simp)]; exact h.bk, by rw [b3 _ (by simp) (by simp)]; exact h.bo, fun a c n ha hc => ?_, h.blk.stays (hs _ _ h.bt (by simp)), ?_, ?_, fun k' l2 hk' => ?_, fun o' p2 ho' => ?_, fun k' hk' => ?_, fun o' ho' => ?_⟩, ⟨hw.mono fun n _ e => ⟨.km, by rw [e]; exact h.bk⟩, fun a n ha => ?_⟩⟩
  · rcases b4 a n ha with ⟨e1, e2⟩ | ⟨e1, e2⟩ | ⟨e1, e2⟩ <;> rcases b4 c n hc with ⟨f1, f2⟩ | ⟨f1, f2⟩ | ⟨f1, f2⟩
    · rw [e1, f1]
    · exact absurd (e2.symm.trans f2) hbg
    · omega
    · exact absurd (f2.symm.trans e2) hbg
    · rw [e1, f1]
    · omega
    · omega
    · omega
    · exact h.inj _ _ _ e1 f1
  · have e : (fun k' => (updF T.lk k (some l') k').map fun _ => ptrB (B' (.lk k'))) = updF (fun k => (T.lk k).map fun _ => ptrB (B (.lk k))) k (some (ptrB (some b))) := by
      funext k'
      by_cases e : k' = k
      · rw [e, updF_same, updF_same, b1]; rfl
      · rw [updF_other _ _ e, updF_other _ _ e, b3 _ (by simp [e]) (by simp)]
    show Mp _ _ _ _ (fun k' => (updF T.lk k (some l') k').map fun _ => ptrB (B' (.lk k'))) _
    rw [e]
    exact hm
  · have e : (fun o => (T.py o).map fun _ => ptrB (B' (.py o))) = fun o => (T.py o).map fun _ => ptrB (B (.py o)) := by
      funext o
      rw [b3 _ (by simp) (by simp)]
    show Mp _ _ _ _ (fun o => (T.py o).map fun _ => ptrB (B' (.py o))) _
    rw [e]
    exact h.owners.stays (hs _ _ h.bo (by simp))
  · have hk2 : updF T.lk k (some l') k' = some l2 := hk'
    by_cases e : k' = k
    · subst e
      rw [updF_same] at hk2
      rw [← Option.some.inj hk2, b1, b2, b3 _ (by simp) (by simp), (h.lk0 k' hk).2.2]
      exact hl
    · rw [updF_other _ _ e] at hk2
      rw [b3 _ (by simp [e]) (by simp), b3 _ (by simp) (by simp [e]), b3 _ (by simp) (by simp)]
      exact (h.lk k' l2 hk2).stays (fun n hn => hs _ n hn (by simp)) (fun n hn => hs _ n hn (by simp)) (fun n hn => hs _ n hn (by simp))
  · rw [b3 _ (by simp) (by simp), b3 _ (by simp) (by simp)]
    exact (h.py o' p2 ho').stays (fun n hn => hs _ n hn (by simp)) (fun n hn => hs _ n hn (by simp))
  · have hk2 : updF T.lk k (some l') k' = none := hk'
    by_cases e : k' = k
    · rw [e, updF_same] at hk2; cases hk2
    · rw [updF_other _ _ e] at hk2
      rw [b3 _ (by simp [e]) (by simp), b3 _ (by simp) (by simp [e]), b3 _ (by simp) (by simp)]
      exact h.lk0 k' hk2
  · rw [b3 _ (by simp) (by simp), b3 _ (by simp) (by simp)]
    exact h.py0 o' ho'
  · rcases b4 a n ha with ⟨_, e⟩ | ⟨_, e⟩ | ⟨e, _⟩
    · exact .inr (by omega)
    · exact .inr (by omega)
    · exact .inl ⟨a, e⟩
end
end Go.Proofs.YtadopbpfnnpnaaaGreat

/-
  The code's table of locks: New, Len, made.
-/
namespace Go.Proofs.YtadopbpfnnpnaaaGreat
open Go.RowKit Go.Maps

def Tb.new : Tb := ⟨fun _ => none, fun _ => none, 0, [], []⟩
def B0 (w : World) : Tag → Option Nat | .tb => some (w.heap.size + 1 + 1) | .km => some w.heap.size | .om => some (w.heap.size + 1) | _ => none
set_option maxRecDepth 100000 in
theorem New_any (w : World) : Calls Tryz.prog 5 #[] w fun e w' => ∃ t km om B, e = .returned (.pointer (some ⟨t, 0, none⟩)) ∧ TbAt w' t km om B Tb.new ∧ Gr w w' ∧ (∀ n, FB B n → w.heap.size ≤ n) := by
  have hmm := @run_makeMap Tryz.prog
  go_enter Tryz.func5, Tryz.ntmps5
  go_wp2
  go_ret
  have g1 : Gr w (w.alloc (.map #[] 0)) := (Gr.refl w).alloc (Nat.le_refl _) _
  have g2 : Gr (w.alloc (.map #[] 0)) ((w.alloc (.map #[] 0)).alloc (.map #[] 0)) := (Gr.refl _).alloc (Nat.le_refl _) _
  have g3 : Gr ((w.alloc (.map #[] 0)).alloc (.map #[] 0)) (((w.alloc (.map #[] 0)).alloc (.map #[] 0)).alloc (.cells #[.map (some w.heap.size), .map (some (w.heap.size + 1)), .int .i64 0] TTb)) := (Gr.refl _).alloc (Nat.le_refl _) _
  have hb := Blk.new ((w.alloc (.map #[] 0)).alloc (.map #[] 0)) TTb #[.map (some w.heap.size), .map (some (w.heap.size + 1)), .int .i64 0]
  have m1 : Mp Tryz.prog KL (w.alloc (.map #[] 0)) w.heap.size (fun _ => none) [] := Mp.made w
  have m2 : Mp Tryz.prog KO ((w.alloc (.map #[] 0)).alloc (.map #[] 0)) (w.heap.size + 1) (fun _ => none) [] := by
    have := Mp.made (P := Tryz.prog) (K := KO) (w.alloc (.map #[] 0))
    rwa [World.size_alloc] at this
  simp only [World.size_alloc] at hb
  refine ⟨w.heap.size + 1 + 1, w.heap.size, w.heap.size + 1, B0 w, rfl, ⟨rfl, rfl, rfl, fun a b n ha hb => ?_, hb, (m1.stays (g2.block _ m1.lt)).stays (g3.block _ (by simp; omega)), m2.stays (g3.block _ m2.lt), (fun _ _ h => by cases h), (fun _ _ h => by cases h), fun _ _ => ⟨rfl, rfl, rfl⟩, fun _ _ => ⟨rfl, rfl⟩⟩, Gr.trans g1 (Gr.trans g2 g3), fun n hn => ?_⟩
  · cases a <;> cases b <;> simp [B0] at ha hb <;> first | rfl | omega
  · obtain ⟨a, ha⟩ := hn
    cases a <;> simp [B0] at ha <;> omega
section
variable {w : World} {t km om : Nat} {B : Tag → Option Nat} {T : Tb}
set_option maxRecDepth 100000 in
theorem Len_any (h : TbAt w t km om B T) : Calls Tryz.prog 28 #[.pointer (some ⟨t, 0, none⟩)] w fun e w' => e = .returned (.int .i64 T.many) ∧ w = w' := by
  have c2 := h.c3.2.2
  have HM := Lib.hid (missing_no h)
  clear h
  go_enter Tryz.func28, Tryz.ntmps28
  go_wp2_with fail
  refine HM.out.mono ?_
  rintro e w' ⟨rfl, rfl⟩
  go_wp2_with fail
  go_ret
  exact ⟨rfl, rfl⟩
/-- An owner has a party. -/
def Tb.made (T : Tb) (o : Nat) : Tb := match T.py o with | none => { T with py := updF T.py o (some Py.zero), oo := putK o T.oo } | some _ => T
def RetMade (t km om : Nat) (B : Tag → Option Nat) (T : Tb) (o : Nat) (w : World) (e : Ending) (w' : World) : Prop :=
  ∃ b B', e = .returned (.pointer (some ⟨b, 0, none⟩)) ∧ B' (.py o) = some b ∧ TbAt w' t km om B' (T.made o) ∧ Tn w w' B B' ∧ ∀ k, B' (.lk k) = B (.lk k) ∧ B' (.hm k) = B (.hm k)
set_option maxRecDepth 100000 in
theorem made_any (h : TbAt w t km om B T) {o : Nat} (ho : KO.dom o) (hn : T.oo.length < maxLen) : Calls Tryz.prog 52 #[.pointer (some ⟨t, 0, none⟩), .int .u64 (o : Int)] w (RetMade t km om B T o w) := by
  have c1 := h.c3.2.1
  have hl := h.lookO ho
  cases e : T.py o with
  | some p =>
    obtain ⟨b, h', e1, e2, e3, e4⟩ := h.py o p e
    rw [e1] at hl
    have hl' : (Instr.lookup TMo (.map (some om)) (.int .u64 (o : Int)) false).run Tryz.prog w = .ok (.pointer (some ⟨b, 0, none⟩)) w := hl
    have HR : Hid (RetMade t km om B T o w (.returned (.pointer (some ⟨b, 0, none⟩))) w) := Lib.hid ⟨b, B, rfl, e1, by unfold Tb.made; rw [e]; exact h, Tn.refl _ _, fun _ => ⟨rfl, rfl⟩⟩
    clear h hl e e1 e2 e3 e4
    go_enter Tryz.func52, Tryz.ntmps52
    go_wp2_with fail
    go_ret
    exact HR.out
  | none =>
    rw [(h.py0 o e).1] at hl
    have hl' : (Instr.lookup TMo (.map (some om)) (.int .u64 (o : Int)) false).run Tryz.prog w = .ok (.pointer none) w := hl
    have g1 : Gr w (w.alloc (.map #[] 0)) := (Gr.refl w).alloc (Nat.le_refl _) _
    have g2 : Gr (w.alloc (.map #[] 0)) ((w.alloc (.map #[] 0)).alloc (.cells #[.map (some w.heap.size), .int .i64 0, .int .i64 0, .int .i64 0] TPy)) := (Gr.refl _).alloc (Nat.le_refl _) _
    have hb := Blk.new (w.alloc (.map #[] 0)) TPy #[.map (some w.heap.size), .int .i64 0, .int .i64 0, .int .i64 0]
    have m1 : Mp Tryz.prog KL (w.alloc (.map #[] 0)) w.heap.size (fun _ => none) [] := Mp.made w
    have h2 := h.gr (Gr.trans g1 g2)
    rw [World.size_alloc] at hb
    have d1 := h2.c3.2.1
    obtain ⟨W, hW⟩ : ∃ W, W = (w.alloc (.map #[] 0)).alloc (.cells #[.map (some w.heap.size), .int .i64 0, .int .i64 0, .int .i64 0] TPy) := ⟨_, rfl⟩
    rw [← hW] at g2 hb h2 d1
    obtain ⟨w3, hrun, hM, hG⟩ := h2.owners.store KO_ok hn (t := TMo) Tryz.underlying49 ho (.pointer (some ⟨w.heap.size + 1, 0, none⟩))
    rw [show KO.val o = .int .u64 (o : Int) from rfl] at hrun
    have hml := m1.lt
    have hne : ∀ n, n < W.heap.size → n ≠ om → w3.heap[n]? = W.heap[n]? := fun n h1 h2 => hG.block n h1 fun e => h2 (by cases e; rfl)
    have homl : om < w.heap.size := h.owners.lt
    have hp : PyAt w3 (some (w.heap.size + 1)) (some w.heap.size) Py.zero :=
      ⟨_, _, rfl, rfl, hb.stays (hne _ hb.lt (by omega)), (m1.stays (g2.block _ hml)).stays (hne _ (by have := g2.size; omega) (by omega))⟩
    have hw : Onl (fun n => n = om) w w3 := (Onl.of_gr (Gr.trans g1 g2)).trans (Onl.of_grown (S := fun n => n = om) hG rfl) (fun _ _ e => e)
    obtain ⟨r1, r2⟩ := h.addPy e (by omega) (by omega) (by omega) hw hp hM
    have HR : Hid (RetMade t km om B T o w (.returned (.pointer (some ⟨w.heap.size + 1, 0, none⟩))) w3) := Lib.hid ⟨_, _, rfl, by rw [updF_other _ _ (by simp), updF_same], by unfold Tb.made; rw [e]; exact r1, r2, fun k => ⟨by rw [updF_other _ _ (by simp), updF_other _ _ (by simp)], by rw [updF_other _ _ (by simp), updF_other _ _ (by simp)]⟩⟩
    rw [hW] at hrun d1
    have hmm := @run_makeMap Tryz.prog
    clear h hl e g1 g2 hb m1 h2 hW hM hG hml hne homl hp hw r1 r2
    go_enter Tryz.func52, Tryz.ntmps52
    go_wp2_with fail
    go_ret
    exact HR.out
end
end Go.Proofs.YtadopbpfnnpnaaaGreat

