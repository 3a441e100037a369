
/-
  The code's table of locks: a party goes, a lock goes; leave, of an owner that waits for nothing.
-/
import Derived.Test.YtgpaikaccipfjaaLk14
namespace Go.Proofs.Ytgpaikaccipfjaa
open Go.RowKit Go.Maps Go.Shelf Go.Sort Go.Lib

section
variable {w w' : World} {t km om : Nat} {B : Tag → Option Nat} {T : Tb}
/-- A party goes. -/
theorem TbAt.delPy (h : TbAt w t km om B T) {o : Nat} (hw : Onl (fun n => n = om) w w')
    (hm : Mp Try.prog KO w' om (updF (fun o => (T.py o).map fun _ => ptrB (B (.py o))) o none) (delK o T.oo)) :
    TbAt w' t km om (updF (updF B (.py o) none) (.pm o) none) { T with py := updF T.py o none, oo := delK o T.oo } ∧ Tn w w' B (updF (updF B (.py o) none) (.pm o) none) := by
  have hs : ∀ a n, B a = some n → a ≠ .om → w'.heap[n]? = w.heap[n]? := fun a n hn h1 => hw.block n (h.lt a n hn) fun e => h1 (h.inj _ _ _ hn (by rw [e]; exact h.bo))
  obtain ⟨B', hB'⟩ : ∃ B', B' = updF (updF B (.py o) none) (.pm o) none := ⟨_, rfl⟩
  have b1 : B' (.py o) = none := by rw [hB', updF_other _ _ (by simp), updF_same]
  have b2 : B' (.pm o) = none := by rw [hB', updF_same]
  have b3 : ∀ a, a ≠ .py o → a ≠ .pm o → B' a = B a := fun a h1 h2 => by rw [hB', updF_other _ _ h2, updF_other _ _ h1]
  rw [← hB']
  clear hB'
  have b4 : ∀ a n, B' a = some n → B a = some n := fun a n hn => by
    by_cases e1 : a = .py o
    · rw [e1, b1] at hn; cases hn
    · by_cases e2 : a = .pm o
      · rw [e2, b2] at hn; cases hn
      · rw [b3 a e1 e2] at hn; exact hn
  refine ⟨⟨by rw [b3 _ (by simp) (by simp)]; exact h.bt, by rw [b3 _ (by simp) (by simp)]; exact h.bk, by rw [b3 _ (by simp) (by simp)]; exact h.bo, fun a c n ha hc => h.inj _ _ _ (b4 a n ha) (b4 c n hc), h.blk.stays (hs _ _ h.bt (by simp)), ?_, ?_, fun k l hk => ?_, fun o' p2 ho' => ?_, fun k hk => ?_, fun o' ho' => ?_⟩, ⟨hw.mono fun n _ e => ⟨.om, by rw [e]; exact h.bo⟩, fun a n ha => .inl ⟨a, b4 a n ha⟩⟩⟩
  · have e : (fun k => (T.lk k).map fun _ => ptrB (B' (.lk k))) = fun k => (T.lk k).map fun _ => ptrB (B (.lk k)) := by
      funext k
      rw [b3 _ (by simp) (by simp)]
    show Mp _ _ _ _ (fun k => (T.lk k).map fun _ => ptrB (B' (.lk k))) _
    rw [e]
    exact h.keys.stays (hs _ _ h.bk (by simp))
  · have e : (fun o' => (updF T.py o none o').map fun _ => ptrB (B' (.py o'))) = updF (fun o => (T.py o).map fun _ => ptrB (B (.py o))) o none := by
      funext o'
      by_cases e : o' = o
      · rw [e, updF_same, updF_same]; rfl
      · rw [updF_other _ _ e, updF_other _ _ e, b3 _ (by simp [e]) (by simp)]
    show Mp _ _ _ _ (fun o' => (updF T.py o none o').map fun _ => ptrB (B' (.py o'))) _
    rw [e]
    exact hm
  · rw [b3 _ (by simp) (by simp), b3 _ (by simp) (by simp), b3 _ (by simp) (by simp)]
    exact (h.lk k l hk).stays (fun n hn => hs _ n hn (by simp)) (fun n hn => hs _ n hn (by simp)) (fun n hn => hs _ n hn (by simp))
  · have ho2 : updF T.py o none o' = some p2 := ho'
    by_cases e : o' = o
    · rw [e, updF_same] at ho2; cases ho2
    · rw [updF_other _ _ e] at ho2
      rw [b3 _ (by simp [e]) (by simp), b3 _ (by simp) (by simp [e])]
      exact (h.py o' p2 ho2).stays (fun n hn => hs _ n hn (by simp)) (fun n hn => hs _ n hn (by simp))
  · rw [b3 _ (by simp) (by simp), b3 _ (by simp) (by simp), b3 _ (by simp) (by simp)]
    exact h.lk0 k hk
  · have ho2 : updF T.py o none o' = none := ho'
    by_cases e : o' = o
    · rw [e]; exact ⟨b1, b2⟩
    · rw [updF_other _ _ e] at ho2
      rw [b3 _ (by simp [e]) (by simp), b3 _ (by simp) (by simp [e])]
      exact h.py0 o' ho2
/-- A lock goes. -/
theorem TbAt.delLk (h : TbAt w t km om B T) {k : Key} (hw : Onl (fun n => n = km) w w')
    (hm : Mp Try.prog KL w' km (updF (fun k => (T.lk k).map fun _ => ptrB (B (.lk k))) k none) (delK k T.kk)) :
    TbAt w' t km om (updF (updF (updF B (.lk k) none) (.hm k) none) (.ln k) none) { T with lk := updF T.lk k none, kk := delK k T.kk } ∧ Tn w w' B (updF (updF (updF B (.lk k) none) (.hm k) none) (.ln k) none) := by
  have hs : ∀ a n, B a = some n → a ≠ .km → w'.heap[n]? = w.heap[n]? := fun a n hn h1 => hw.block n (h.lt a n hn) fun e => h1 (h.inj _ _ _ hn (by rw [e]; exact h.bk))
  obtain ⟨B', hB'⟩ : ∃ B', B' = updF (updF (updF B (.lk k) none) (.hm k) none) (.ln k) none := ⟨_, rfl⟩
  have b1 : B' (.lk k) = none := by rw [hB', updF_other _ _ (by simp), updF_other _ _ (by simp), updF_same]
  have b2 : B' (.hm k) = none := by rw [hB', updF_other _ _ (by simp), updF_same]
  have b2' : B' (.ln k) = none := by rw [hB', updF_same]
  have b3 : ∀ a, a ≠ .lk k → a ≠ .hm k → a ≠ .ln k → B' a = B a := fun a h1 h2 h3 => by rw [hB', updF_other _ _ h3, updF_other _ _ h2, updF_other _ _ h1]
  rw [← hB']
  clear hB'
  have b4 : ∀ a n, B' a = some n → B a = some n := fun a n hn => by
    by_cases e1 : a = .lk k
    · rw [e1, b1] at hn; cases hn
    · by_cases e2 : a = .hm k
      · rw [e2, b2] at hn; cases hn
      · by_cases e3 : a = .ln k
        · rw [e3, b2'] at hn; cases hn
        · rw [b3 a e1 e2 e3] at hn; exact hn
  refine ⟨⟨by rw [b3 _ (by simp) (by simp) (by simp)]; exact h.bt, by rw [b3 _ (by simp) (by simp) (by simp)]; exact h.bk, by rw [b3 _ (by simp) (by simp) (by simp)]; exact h.bo, fun a c n ha hc => h.inj _ _ _ (b4 a n ha) (b4 c n hc), h.blk.stays (hs _ _ h.bt (by simp)), ?_, ?_, fun k' l2 hk' => ?_, fun o' p2 ho' => ?_, fun k' hk' => ?_, fun o' ho' => ?_⟩, ⟨hw.mono fun n _ e => ⟨.km, by rw [e]; exact h.bk⟩, fun a n ha => .inl ⟨a, b4 a n ha⟩⟩⟩
  · have e : (fun k' => (updF T.lk k none k').map fun _ => ptrB (B' (.lk k'))) = updF (fun k => (T.lk k).map fun _ => ptrB (B (.lk k))) k none := by
      funext k'
      by_cases e : k' = k
      · rw [e, updF_same, updF_same]; rfl
      · rw [updF_other _ _ e, updF_other _ _ e, b3 _ (by simp [e]) (by simp) (by simp)]
    show Mp _ _ _ _ (fun k' => (updF T.lk k none k').map fun _ => ptrB (B' (.lk k'))) _
    rw [e]
    exact hm
  · have e : (fun o => (T.py o).map fun _ => ptrB (B' (.py o))) = fun o => (T.py o).map fun _ => ptrB (B (.py o)) := by
      funext o
      rw [b3 _ (by simp) (by simp) (by simp)]
    show Mp _ _ _ _ (fun o => (T.py o).map fun _ => ptrB (B' (.py o))) _
    rw [e]
    exact h.owners.stays (hs _ _ h.bo (by simp))
  · have hk2 : updF T.lk k none k' = some l2 := hk'
    by_cases e : k' = k
    · rw [e, updF_same] at hk2; cases hk2
    · rw [updF_other _ _ e] at hk2
      rw [b3 _ (by simp [e]) (by simp) (by simp), b3 _ (by simp) (by simp [e]) (by simp), b3 _ (by simp) (by simp) (by simp [e])]
      exact (h.lk k' l2 hk2).stays (fun n hn => hs _ n hn (by simp)) (fun n hn => hs _ n hn (by simp)) (fun n hn => hs _ n hn (by simp))
  · rw [b3 _ (by simp) (by simp) (by simp), b3 _ (by simp) (by simp) (by simp)]
    exact (h.py o' p2 ho').stays (fun n hn => hs _ n hn (by simp)) (fun n hn => hs _ n hn (by simp))
  · have hk2 : updF T.lk k none k' = none := hk'
    by_cases e : k' = k
    · rw [e]; exact ⟨b1, b2, b2'⟩
    · rw [updF_other _ _ e] at hk2
      rw [b3 _ (by simp [e]) (by simp) (by simp), b3 _ (by simp) (by simp [e]) (by simp), b3 _ (by simp) (by simp) (by simp [e])]
      exact h.lk0 k' hk2
  · rw [b3 _ (by simp) (by simp) (by simp), b3 _ (by simp) (by simp) (by simp)]
    exact h.py0 o' ho'
theorem unitF_del {α : Type} [DecidableEq α] (ks : List α) (a : α) : updF (unitF ks) a none = unitF (delK a ks) := by
  funext b
  unfold updF unitF
  by_cases e : b = a
  · simp [e, mem_delK]
  · simp [e, mem_delK]
/-- An owner holds these keys no more. -/
def Tb.off (T : Tb) (o : Nat) (ks : List Key) : Tb := { T with lk := fun k => if k ∈ ks then (T.lk k).map fun l => { l with hs := delK o l.hs } else T.lk k }
theorem off_nil (T : Tb) (o : Nat) : T.off o [] = T := by
  unfold Tb.off
  simp
theorem off_snoc (T : Tb) (o : Nat) (ks : List Key) (k : Key) (hk : k ∉ ks) (l : Lk) (hl : T.lk k = some l) : T.off o (ks ++ [k]) = { T.off o ks with lk := updF (T.off o ks).lk k (some { l with hs := delK o l.hs }) } := by
  unfold Tb.off updF
  congr 1
  funext k'
  by_cases e : k' = k
  · subst e
    simp [hl]
  · simp [e]
theorem off_lk (T : Tb) (o : Nat) (ks : List Key) (k : Key) (hk : k ∉ ks) : (T.off o ks).lk k = T.lk k := by
  unfold Tb.off
  simp [hk]
end
end Go.Proofs.Ytgpaikaccipfjaa
