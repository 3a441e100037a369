/-
  Texts on locks, put together: Lk15 Lk16.
-/
import Derived.Deep.RegionHeld3
import Derived.Deep.RegionWith
import Derived.Deep.CutBlock
import Derived.Deep.DeepCutAuto
import Derived.Test.YtadopbpfnnpnaaaGreatL8
set_option linter.unusedVariables false
set_option linter.unusedSimpArgs false
/-
  The code's table of locks: a party goes, a lock goes; leave, of an owner that waits for nothing.
-/
namespace Go.Proofs.YtadopbpfnnpnaaaGreat
open Go.RowKit Go.Maps Go.Shelf Go.Sort Go.Lib

section
variable {w w' : World} {t km om : Nat} {B : Tag → Option Nat} {T : Tb}
/-- A party goes. -/
theorem TbAt.delPy (h : TbAt w t km om B T) {o : Nat} (hw : Onl (fun n => n = om) w w')
    (hm : Mp Tryz.prog KO w' om (updF (fun o => (T.py o).map fun _ => ptrB (B (.py o))) o none) (delK o T.oo)) :
    TbAt w' t km om (updF (updF B (.py o) none) (.pm o) none) { T with py := updF T.py o none, oo := delK o T.oo } ∧ Tn w w' B (updF (updF B (.py o) none) (.pm o) none) := by
  have hs : ∀ a n, B a = some n → a ≠ .om → w'.heap[n]? = w.heap[n]? := fun a n hn h1 => hw.block n (h.lt a n hn) fun e => h1 (h.inj _ _ _ hn (by rw [e]; exact h.bo))
  obtain ⟨B', hB'⟩ : ∃ B', B' = updF (updF B (.py o) none) (.pm o) none := ⟨_, rfl⟩
  have b1 : B' (.py o) = none := by rw [hB', updF_other _ _ (by simp), updF_same]
  have b2 : B' (.pm o) = none := by rw [hB', updF_same]
  have b3 : ∀ a, a ≠ .py o → a ≠ .pm o → B' a = B a := fun a h1 h2 => by rw [hB', updF_other _ _ h2, updF_other _ _ h1]
  rw [← hB']
  clear hB'
  have b4 : ∀ a n, B' a = some n → B a = some n := fun a n hn => by
    by_cases e1 : a = .py o
    · rw [e1, b1] at hn; cases hn
    · by_cases e2 : a = .pm o
      · rw [e2, b2] at hn; cases hn
      · rw [b3 a e1 e2] at hn; exact hn
  refine ⟨⟨by rw [b3 _ (by simp) (by simp)]; exact h.bt, by rw [b3 _ (by simp) (by simp)]; exact h.bk, by rw [b3 _ (by simp) (by simp)]; exact h.bo, fun a c n ha hc => h.inj _ _ _ (b4 a n ha) (b4 c n hc), h.blk.stays (hs _ _ h.bt (by simp)), ?_, ?_, fun k l hk => ?_, fun o' p2 ho' => ?_, fun k hk => ?_, fun o' ho' => ?_⟩, ⟨hw.mono fun n _ e => ⟨.om, by rw [e]; exact h.bo⟩, fun a n ha => .inl ⟨a, b4 a n ha⟩⟩⟩
  · have e : (fun k => (T.lk k).map fun _ => ptrB (B' (.lk k))) = fun k => (T.lk k).map fun _ => ptrB (B (.lk k)) := by
      funext k
      rw [b3 _ (by simp) (by simp)]
    show Mp _ _ _ _ (fun k => (T.lk k).map fun _ => ptrB (B' (.lk k))) _
    rw [e]
    exact h.keys.stays (hs _ _ h.bk (by simp))
  · have e : (fun o' => (updF T.py o none o').map fun _ => ptrB (B' (.py o'))) = updF (fun o => (T.py o).map fun _ => ptrB (B (.py o))) o none := by
      funext o'
      by_cases e : o' = o
      · rw [e, updF_same, updF_same]; rfl
      · rw [updF_other _ _ e, updF_other _ _ e, b3 _ (by simp [e]) (by simp)]
    show Mp _ _ _ _ (fun o' => (updF T.py o none o').map fun _ => ptrB (B' (.py o'))) _
    rw [e]
    exact hm
  · rw [b3 _ (by simp) (by simp), b3 _ (by simp) (by simp), b3 _ (by simp) (by simp)]
    exact (h.lk k l hk).stays (fun n hn => hs _ n hn (by simp)) (fun n hn => hs _ n hn (by simp)) (fun n hn => hs _ n hn (by simp))
  · have ho2 : updF T.py o none o' = some p2 := ho'
    by_cases e : o' = o
    · rw [e, updF_same] at ho2; cases ho2
    · rw [updF_other _ _ e] at ho2
      rw [b3 _ (by simp [e]) (by simp), b3 _ (by simp) (by simp [e])]
      exact (h.py o' p2 ho2).stays (fun n hn => hs _ n hn (by simp)) (fun n hn => hs _ n hn (by simp))
  · rw [b3 _ (by simp) (by simp), b3 _ (by simp) (by simp), b3 _ (by simp) (by simp)]
    exact h.lk0 k hk
  · have ho2 : updF T.py o none o' = none := ho'
    by_cases e : o' = o
    · rw [e]; exact ⟨b1, b2⟩
    · rw [updF_other _ _ e] at ho2
      rw [b3 _ (by simp [e]) (by simp), b3 _ (by simp) (by simp [e])]
      exact h.py0 o' ho2
/-- A lock goes. -/
theorem TbAt.delLk (h : TbAt w t km om B T) {k : Key} (hw : Onl (fun n => n = km) w w')
    (hm : Mp Tryz.prog KL w' km (updF (fun k => (T.lk k).map fun _ => ptrB (B (.lk k))) k none) (delK k T.kk)) :
    TbAt w' t km om (updF (updF (updF B (.lk k) none) (.hm k) none) (.ln k) none) { T with lk := updF T.lk k none, kk := delK k T.kk } ∧ Tn w w' B (updF (updF (updF B (.lk k) none) (.hm k) none) (.ln k) none) := by
  have hs : ∀ a n, B a = some n → a ≠ .km → w'.heap[n]? = w.heap[n]? := fun a n hn h1 => hw.block n (h.lt a n hn) fun e => h1 (h.inj _ _ _ hn (by rw [e]; exact h.bk))
  obtain ⟨B', hB'⟩ : ∃ B', B' = updF (updF (updF B (.lk k) none) (.hm k) none) (.ln k) none := ⟨_, rfl⟩
  have b1 : B' (.lk k) = none := by rw [hB', updF_other _ _ (by simp), updF_other _ _ (by simp), updF_same]
  have b2 : B' (.hm k) = none := by rw [hB', updF_other _ _ (by simp), updF_same]
  have b2' : B' (.ln k) = none := by rw [hB', updF_same]
  have b3 : ∀ a, a ≠ .lk k → a ≠ .hm k → a ≠ .ln k → B' a = B a := fun a h1 h2 h3 => by rw [hB', updF_other _ _ h3, updF_other _ _ h2, updF_other _ _ h1]
  rw [← hB']
  clear hB'
  have b4 : ∀ a n, B' a = some n → B a = some n := fun a n hn => by
    by_cases e1 : a = .lk k
    · rw [e1, b1] at hn; cases hn
    · by_cases e2 : a = .hm k
      · rw [e2, b2] at hn; cases hn
      · by_cases e3 : a = .ln k
        · rw [e3, b2'] at hn; cases hn
        · rw [b3 a e1 e2 e3] at hn; exact hn
  refine ⟨⟨by rw [b3 _ (by simp) (by simp) (by simp)]; exact h.bt, by rw [b3 _ (by simp) (by simp) (by simp)]; exact h.bk, by rw [b3 _ (by simp) (by simp) (by simp)]; exact h.bo, fun a c n ha hc => h.inj _ _ _ (b4 a n ha) (b4 c n hc), h.blk.stays (hs _ _ h.bt (by simp)), ?_, ?_, fun k' l2 hk' => ?_, fun o' p2 ho' => ?_, fun k' hk' => ?_, fun o' ho' => ?_⟩, ⟨hw.mono fun n _ e => ⟨.km, by rw [e]; exact h.bk⟩, fun a n ha => .inl ⟨a, b4 a n ha⟩⟩⟩
  · have e : (fun k' => (updF T.lk k none k').map fun _ => ptrB (B' (.lk k'))) = updF (fun k => (T.lk k).map fun _ => ptrB (B (.lk k))) k none := by
      funext k'
      by_cases e : k' = k
      · rw [e, updF_same, updF_same]; rfl
      · rw [updF_other _ _ e, updF_other _ _ e, b3 _ (by simp [e]) (by simp) (by simp)]
    show Mp _ _ _ _ (fun k' => (updF T.lk k none k').map fun _ => ptrB (B' (.lk k'))) _
    rw [e]
    exact hm
  · have e : (fun o => (T.py o).map fun _ => ptrB (B' (.py o))) = fun o => (T.py o).map fun _ => ptrB (B (.py o)) := by
      funext o
      rw [b3 _ (by simp) (by simp) (by simp)]
    show Mp _ _ _ _ (fun o => (T.py o).map fun _ => ptrB (B' (.py o))) _
    rw [e]
    exact h.owners.stays (hs _ _ h.bo (by simp))
  · have hk2 : updF T.lk k none k' = some l2 := hk'
    by_cases e : k' = k
    · rw [e, updF_same] at hk2; cases hk2
    · rw [updF_other _ _ e] at hk2
      rw [b3 _ (by simp [e]) (by simp) (by simp), b3 _ (by simp) (by simp [e]) (by simp), b3 _ (by simp) (by simp) (by simp [e])]
      exact (h.lk k' l2 hk2).stays (fun n hn => hs _ n hn (by simp)) (fun n hn => hs _ n hn (by simp)) (fun n hn => hs _ n hn (by simp))
  · rw [b3 _ (by simp) (by simp) (by simp), b3 _ (by simp) (by simp) (by simp)]
    exact (h.py o' p2 ho').stays (fun n hn => hs _ n hn (by simp)) (fun n hn => hs _ n hn (by simp))
  · have hk2 : updF T.lk k none k' = none := hk'
    by_cases e : k' = k
    · rw [e]; exact ⟨b1, b2, b2'⟩
    · rw [updF_other _ _ e] at hk2
      rw [b3 _ (by simp [e]) (by simp) (by simp), b3 _ (by simp) (by simp [e]) (by simp), b3 _ (by simp) (by simp) (by simp [e])]
      exact h.lk0 k' hk2
  · rw [b3 _ (by simp) (by simp) (by simp), b3 _ (by simp) (by simp) (by simp)]
    exact h.py0 o' ho'
theorem unitF_del {α : Type} [DecidableEq α] (ks : List α) (a : α) : updF (unitF ks) a none = unitF (delK a ks) := by
  funext b
  unfold updF unitF
  by_cases e : b = a
  · simp [e, mem_delK]
  · simp [e, mem_delK]
/-- An owner holds these keys no more. -/
def Tb.off (T : Tb) (o : Nat) (ks : List Key) : Tb := { T with lk := fun k => if k ∈ ks then (T.lk k).map fun l => { l with hs := delK o l.hs } else T.lk k }
theorem off_nil (T : Tb) (o : Nat) : T.off o [] = T := by
  unfold Tb.off
  simp
theorem off_snoc (T : Tb) (o : Nat) (ks : List Key) (k : Key) (hk : k ∉ ks) (l : Lk) (hl : T.lk k = some l) : T.off o (ks ++ [k]) = { T.off o ks with lk := updF (T.off o ks).lk k (some { l with hs := delK o l.hs }) } := by
  unfold Tb.off updF
  congr 1
  funext k'
  by_cases e : k' = k
  · subst e
    simp [hl]
  · simp [e]
theorem off_lk (T : Tb) (o : Nat) (ks : List Key) (k : Key) (hk : k ∉ ks) : (T.off o ks).lk k = T.lk k := by
  unfold Tb.off
  simp [hk]
end
end Go.Proofs.YtadopbpfnnpnaaaGreat

/-
  The code's table of locks: leave, of an owner that waits for nothing.
-/
namespace Go.Proofs.YtadopbpfnnpnaaaGreat
open Go.RowKit Go.Maps Go.Shelf Go.Sort Go.Lib

def Tb.left (T : Tb) (o : Nat) : Tb := { T.off o (sortK (T.of o).ks) with many := T.many - ((T.of o).ks.length : Int), py := updF T.py o none, oo := delK o T.oo }
def RetLeave (t km om : Nat) (B : Tag → Option Nat) (T : Tb) (o : Nat) (w : World) (e : Ending) (w' : World) : Prop :=
  ∃ v B', e = .returned v ∧ Kr w' w.heap.size v (sortK (T.of o).ks) ∧ TbAt w' t km om B' (T.left o) ∧ Tn w w' B B' ∧ (∀ n, FB B' n → n < w.heap.size)
theorem nodup_sortK {ks : List Key} (h : ks.Nodup) : (sortK ks).Nodup := (sortK_perm ks).nodup_iff.2 h
theorem nodup_beside {ks : List Key} (h : ks.Nodup) : Beside ks := fun j hj e => by
  have h1 : j < ks.length := by omega
  have e2 : ks[j] = ks[j + 1] := by
    have a : ks.getD j (0, 0) = ks[j] := by simp [List.getD, h1]
    have b : ks.getD (j + 1) (0, 0) = ks[j + 1] := by simp [List.getD, hj]
    rw [← a, ← b, e]
  exact List.pairwise_iff_getElem.1 h j (j + 1) h1 hj (by omega) e2
theorem Kr.form {w : World} {base : Nat} {v : Value} {ks : List Key} (h : Kr w base v ks) : ∃ p cap, v = .slice p ks.length cap ∧ ∀ g, v.ownBlock = some g → base ≤ g := by
  have h2 := World.ownsRow.lt h
  rcases h.2 with ⟨h0, h0'⟩ | ⟨g, cap, cur, h0, _⟩
  · exact ⟨none, 0, by rw [h0, h0'], fun g hg => (h2 g hg).1⟩
  · exact ⟨_, cap, h0, fun g hg => (h2 g hg).1⟩
theorem Kr.at' {w : World} {base : Nat} {p : Option Addr} {n cap : Nat} {ks : List Key} (h : Kr w base (.slice p n cap) ks) (j : Nat) (hj : j < ks.length) :
    ∃ g, p = some ⟨g, 0, none⟩ ∧ n = ks.length ∧ n ≤ cap ∧ w.cell? ⟨g, j * 2, none⟩ = some (.int .i64 (ks.getD j (0, 0)).1) ∧ w.cell? ⟨g, j * 2 + 1, none⟩ = some (.int .i64 (ks.getD j (0, 0)).2) := by
  rcases h.2 with ⟨h0, h0'⟩ | ⟨g, cap', cur, h0, _, _, hc, _⟩
  · omega
  · cases h0
    exact ⟨g, rfl, rfl, hc, Kr.at h j hj⟩
section
variable {w : World} {t km om : Nat} {B : Tag → Option Nat} {T : Tb}
theorem Kr.tn {w w' : World} {B B' : Tag → Option Nat} {base : Nat} {v : Value} {ks : List Key} (h : Kr w base v ks) (k : Tn w w' B B') (hn : ∀ g, v.ownBlock = some g → ¬ FB B g) : Kr w' base v ks := by
  refine ⟨h.1, ?_⟩
  rcases h.2 with h0 | ⟨g, cap, cur, h1, hb, hg, r⟩
  · exact .inl h0
  · exact .inr ⟨g, cap, cur, h1, hb, (k.onl.block g (Array.getElem?_eq_some_iff.1 hg).1 (hn g (by rw [h1]; rfl))).trans hg, r⟩
set_option maxRecDepth 100000 in
set_option maxHeartbeats 4000000 in
theorem leave_any (h : TbAt w t km om B T) (ok : T.Ok) {o : Nat} (ho : KO.dom o) (hm : (T.of o).mode = 0) (hmn : 0 ≤ T.many ∧ T.many ≤ 1000000000) (hln : (T.of o).ks.length ≤ 1000000000) :
    Calls Tryz.prog 40 #[.pointer (some ⟨t, 0, none⟩), .int .u64 (o : Int)] w (RetLeave t km om B T o w) := by
  have hnd : (T.of o).ks.Nodup := by
    unfold Tb.of
    cases e : T.py o with
    | none => exact List.nodup_nil
    | some p => obtain ⟨b, h', h1, h2, h3, h4⟩ := h.py o p e; exact h4.nodup
  have hdom : ∀ k, k ∈ (T.of o).ks → KL.dom k := by
    unfold Tb.of
    cases e : T.py o with
    | none => intro k hk; cases hk
    | some p =>
      obtain ⟨b, h', h1, h2, h3, h4⟩ := h.py o p e
      intro k hk
      exact h4.dom k ((h4.mem k).1 hk)
  have g1 : Gr w (w.alloc (.cells #[.int .u64 (o : Int)] TOw)) := (Gr.refl w).alloc (Nat.le_refl _) _
  have b1 := Blk.new w TOw #[.int .u64 (o : Int)]
  obtain ⟨W1, hW1⟩ : ∃ W1, W1 = w.alloc (.cells #[.int .u64 (o : Int)] TOw) := ⟨_, rfl⟩
  rw [← hW1] at g1 b1
  have HO := Lib.hid (of_any (h.gr g1) ho)
  have c1 := b1.cell 0
  simp at c1
  obtain ⟨hp, hhp⟩ : ∃ hp, hp = B (.pm o) := ⟨_, rfl⟩
  obtain ⟨O1, hO1⟩ : ∃ O1, O1 = (T.of o).key.1 := ⟨_, rfl⟩
  obtain ⟨O2, hO2⟩ : ∃ O2, O2 = (T.of o).key.2 := ⟨_, rfl⟩
  unfold ofV at HO
  rw [← hhp, ← hO1, ← hO2, hm] at HO
  have hhs := h.hs o
  rw [← hhp] at hhs
  obtain ⟨ob, hob⟩ : ∃ ob, ob = w.heap.size := ⟨_, rfl⟩
  rw [← hob] at b1 c1
  have HH := Lib.hid (And.intro h (And.intro ok (And.intro hnd (And.intro hdom (And.intro g1 (And.intro b1 (And.intro hhs hob)))))))
  have HW := Lib.hid (And.intro hW1 hob)
  clear h ok hnd hdom g1 b1 hhs hob hW1 hhp hO1 hO2
  go_enter Tryz.func40, Tryz.ntmps40
  go_upto_region 1 with fail
  rw [show (w.alloc (.cells #[.int .u64 (o : Int)] 31)) = W1 from HW.out.1.symm, ← HW.out.2]
  go_wp2_with fail
  refine HO.out.mono ?_
  rintro e W2 ⟨rfl, g2⟩
  obtain ⟨h, ok, hnd, hdom, g1, b1, hhs, hob⟩ := HH.out
  have c2 := (b1.gr g2).cell 0
  simp at c2
  have g3 : Gr W2 (W2.alloc (.cells #[.map hp, .int .i64 O1, .int .i64 O2, .int .i64 0] TPy)) := (Gr.refl _).alloc (Nat.le_refl _) _
  have b3 := Blk.new W2 TPy #[.map hp, .int .i64 O1, .int .i64 O2, .int .i64 0]
  have HS := Lib.hid (sorted_any (W2.alloc (.cells #[.map hp, .int .i64 O1, .int .i64 O2, .int .i64 0] TPy)) O1 O2 0 (hhs.gr (Gr.trans g1 (Gr.trans g2 g3))) hln)
  have HG3 := Lib.hid (And.intro g2 (And.intro g3 b3))
  clear h ok hnd hdom g1 b1 hhs hob g2 g3 b3
  go_wp2_with fail
  refine HS.out.mono ?_
  rintro e W4 ⟨v, rfl, hv, g4⟩
  obtain ⟨h, ok, hnd, hdom, g1, b1, hhs, hob⟩ := HH.out
  obtain ⟨g2, g3, b3⟩ := HG3.out
  have gw4 := Gr.trans g1 (Gr.trans g2 (Gr.trans g3 g4))
  have h4 := h.gr gw4
  have hvb : Kr W4 w.heap.size v (sortK (T.of o).ks) := hv.base (Gr.trans g1 (Gr.trans g2 g3)).size
  have hFB : ∀ n, FB B n → n < w.heap.size := fun n ⟨a, ha⟩ => h.lt a n ha
  obtain ⟨ks, hks⟩ : ∃ ks, ks = sortK (T.of o).ks := ⟨_, rfl⟩
  have hks1 : ks.Nodup := by rw [hks]; exact nodup_sortK hnd
  have hks2 : ∀ k, k ∈ ks → k ∈ (T.of o).ks := fun k hk => (sortK_perm _).mem_iff.1 (hks ▸ hk)
  have hksl : ks.length = (T.of o).ks.length := by rw [hks, sortK_len]
  rw [← hks] at hvb
  obtain ⟨p, cap, hvf, hvg⟩ := hvb.form
  subst hvf
  obtain ⟨N, hN⟩ : ∃ N, N = ks.length := ⟨_, rfl⟩
  rw [← hN] at hvb hvg
  rw [show (Value.slice p ks.length cap) = .slice p N cap by rw [hN]]
  have cm := h4.c3.2.2
  have cf := h4.blk.frozen 2
  obtain ⟨M, hM⟩ : ∃ M, M = T.many := ⟨_, rfl⟩
  rw [← hM] at cm hmn
  obtain ⟨r5, t5⟩ := h4.setMany (M - (N : Int))
  have ob4 := b1.gr (Gr.trans g2 (Gr.trans g3 g4))
  have b34 := b3.gr g4
  have hT5 : ∀ n, n < W4.heap.size → ¬ FB B n → (W4.setCell ⟨t, 2, none⟩ (.int .i64 (M - (N : Int)))).heap[n]? = W4.heap[n]? := fun n h1 h2 => t5.onl.block n h1 h2
  have HALL := Lib.hid (And.intro r5 (And.intro t5 (And.intro hvb (And.intro hvg (And.intro ob4 (And.intro b34 (And.intro hFB (And.intro hks1 (And.intro hks2 (And.intro gw4 hN))))))))))
  have HKS := Lib.hid (And.intro hks (And.intro hksl (And.intro hM hob)))
  have hN1 : N ≤ 1000000000 := by rw [hN, hksl]; exact hln
  obtain ⟨hM1, hM2⟩ := hmn
  have hob2 : ¬ FB B ob := fun e => by have := hFB ob e; omega
  have HFar : Hid (¬ FB B ob ∧ ¬ FB B W2.heap.size ∧ ob < W4.heap.size ∧ W2.heap.size < W4.heap.size) := Lib.hid ⟨hob2, fun e => by have := hFB _ e; have := (Gr.trans g1 g2).size; omega, ob4.lt, b34.lt⟩
  clear h ok hnd hdom g1 b1 hhs hob g2 g3 b3 hv g4 gw4 h4 hvb hFB hks hks1 hks2 hksl hvg hN hM r5 t5 ob4 b34 hT5 hob2 c1 c2
  go_wp2_with fail
  obtain ⟨W5, hW5⟩ : ∃ W5, W5 = W4.setCell ⟨t, 2, none⟩ (.int .i64 (M - (N : Int))) := ⟨_, rfl⟩
  rw [← hW5]
  have HALL' := HALL.out
  rw [← hW5] at HALL'
  obtain ⟨r5, t5, hvb, hvg, ob4, b34, hFB, hks1, hks2, gw4, hN⟩ := HALL'
  have hv5 : Kr W5 w.heap.size (.slice p N cap) ks := hvb.tn t5 fun g hg e => by have := hvg g hg; have := hFB g e; omega
  have ob5 := t5.blk ob4 HFar.out.1
  have b35 := t5.blk b34 HFar.out.2.1
  have hfar5 : ∀ g, (Value.slice p N cap).ownBlock = some g → ¬ FB B g := fun g hg e => by have := hvg g hg; have := hFB g e; omega
  have H5 := Lib.hid (And.intro r5 (And.intro t5 (And.intro hv5 (And.intro ob5 (And.intro b35 (And.intro hfar5 (And.intro hks1 (And.intro hks2 (And.intro gw4 (And.intro hN hFB))))))))))
  have HW5 := Lib.hid hW5
  clear r5 t5 hvb hvg ob4 b34 hFB hks1 hks2 gw4 hN hv5 ob5 b35 hfar5 hW5 cm cf
  obtain ⟨T5, hT5⟩ : ∃ T5 : Tb, T5 = { T with many := M - (N : Int) } := ⟨_, rfl⟩
  rw [← hT5] at H5
  have HT5 := Lib.hid hT5
  clear hT5
  go_loopw [26] (fun i wr => ∃ j : Nat, i = .int .i64 (j : Int) ∧ j ≤ N ∧ Hid (TbAt wr t km om B (T5.off o (ks.take j)) ∧ Tn W5 wr B B)) (fun i _ => N - (intOf i).toNat)
  case atStart => exact ⟨0, rfl, by omega, Lib.hid ⟨by rw [List.take_zero, off_nil]; exact H5.out.1, Tn.refl _ _⟩⟩
  case round =>
    obtain ⟨j, rfl, hj, HR⟩ := hrel
    by_cases hlt : j < N
    · obtain ⟨tr, tn⟩ := HR.out
      obtain ⟨r5, t5, hv5, ob5, b35, hfar5, hks1, hks2, gw4, hN, hFB⟩ := H5.out
      obtain ⟨h, ok, hnd, hdom, hxx⟩ := HH.out
      clear hxx
      have hjl : j < ks.length := by omega
      have hvr := hv5.tn tn hfar5
      obtain ⟨g, hpg, _, hcap, c0, c1⟩ := Kr.at' hvr j hjl
      have obr := tn.blk ob5 HFar.out.1
      obtain ⟨X, hX⟩ : ∃ X, X = ks.getD j (0, 0) := ⟨_, rfl⟩
      have hXm : X = ks[j] := by rw [hX]; simp [List.getD, hjl]
      have hXk : X ∈ ks := by rw [hXm]; exact List.getElem_mem hjl
      have hXt : X ∉ ks.take j := fun e => by
        obtain ⟨i, hi, e2⟩ := List.getElem_of_mem e
        rw [List.length_take] at hi
        rw [List.getElem_take, hXm] at e2
        exact List.pairwise_iff_getElem.1 hks1 i j (by omega) hjl (by omega) e2
      have hXd := hdom X (hks2 X hXk)
      obtain ⟨l, hl, hol⟩ := ok.holds o X (hks2 X hXk)
      have hl5 : T5.lk X = some l := by rw [HT5.out]; exact hl
      have hlj : (T5.off o (ks.take j)).lk X = some l := by rw [off_lk _ _ _ _ hXt]; exact hl5
      have htk : ks.take (j + 1) = ks.take j ++ [X] := by rw [List.take_succ_eq_append_getElem hjl, hXm]
      rw [← hX] at c0 c1
      obtain ⟨x1, x2⟩ := X
      have g6 : Gr wr (wr.alloc (.cells #[.int .i64 x1, .int .i64 x2] TKey)) := (Gr.refl _).alloc (Nat.le_refl _) _
      have k6 := Blk.new wr TKey #[.int .i64 x1, .int .i64 x2]
      have o6 := obr.gr g6
      obtain ⟨W6, hW6⟩ : ∃ W6, W6 = wr.alloc (.cells #[.int .i64 x1, .int .i64 x2] TKey) := ⟨_, rfl⟩
      rw [← hW6] at g6 k6 o6
      have g6d : Gr wr W6.drew := Gr.trans g6 (Gr.refl _).drew
      have t6 := tr.gr g6d
      have q0 := t6.c3.1
      have ql := t6.look hXd
      obtain ⟨bl, hl', v', e1, e2, lb, lm, ln⟩ := t6.lk (x1, x2) l hlj
      rw [e1, show kv (x1, x2) = .agg #[.int .i64 x1, .int .i64 x2] from rfl] at ql
      have ql' : (Instr.lookup TMk (.map (some km)) (.agg #[.int .i64 x1, .int .i64 x2]) false).run Tryz.prog W6.drew = .ok (.pointer (some ⟨bl, 0, none⟩)) W6.drew := ql
      have qb := lb.cell 1
      obtain ⟨w7, hrun, hM7, hG7⟩ := lm.drop KO_ok (t := TMh) Tryz.underlying53 ho 0
      rw [show KO.val o = .int .u64 (o : Int) from rfl, show KO.ty = TOw from rfl] at hrun
      rw [unitF_del] at hM7
      have hne := @TbAt.ne W6.drew t km om B _ t6
      have hkeep : ∀ n, n < W6.drew.heap.size → n ≠ hl' → w7.heap[n]? = W6.drew.heap[n]? := fun n h1 h2 => hG7.block n h1 fun e => h2 (by cases e; rfl)
      have hlk7 : LkAt w7 (B (.lk (x1, x2))) (B (.hm (x1, x2))) (B (.ln (x1, x2))) { l with hs := delK o l.hs } :=
        ⟨bl, hl', v', e1, e2, lb.stays (hkeep bl lb.lt (hne e1 e2 (by simp))), hM7, ln.stays fun n hn => hkeep n (t6.lt _ _ hn) (hne hn e2 (by simp))⟩
      have hw7 : Onl (fun n => B (.lk (x1, x2)) = some n ∨ B (.hm (x1, x2)) = some n ∨ B (.ln (x1, x2)) = some n) wr w7 := (Onl.of_gr g6d).trans (Onl.of_grown (S := fun n => B (.lk (x1, x2)) = some n ∨ B (.hm (x1, x2)) = some n ∨ B (.ln (x1, x2)) = some n) hG7 (.inr (.inl e2))) (fun _ _ e => e)
      obtain ⟨r7, t7⟩ := tr.setLk hlj hw7 hlk7 (fun n hn => .inl hn)
      rw [updF_self] at r7 t7
      rw [← off_snoc _ _ _ _ hXt l hl5, ← htk] at r7
      have HE := Lib.hid (And.intro r7 (tn.trans t7))
      have hhl : hl' < wr.heap.size := tr.lt _ _ e2
      have p0 := r7.c3.1
      have pl := r7.look hXd
      rw [e1, show kv (x1, x2) = .agg #[.int .i64 x1, .int .i64 x2] from rfl] at pl
      have pl' : (Instr.lookup TMk (.map (some km)) (.agg #[.int .i64 x1, .int .i64 x2]) false).run Tryz.prog w7 = .ok (.pointer (some ⟨bl, 0, none⟩)) w7 := pl
      have pb := (lb.stays (hkeep bl lb.lt (hne e1 e2 (by simp)))).cell 1
      have k7 : Blk w7 wr.heap.size TKey #[.int .i64 x1, .int .i64 x2] := k6.stays (hkeep _ k6.lt (by omega))
      have o7 : Blk w7 ob TOw #[.int .u64 (o : Int)] := o6.stays (hkeep _ o6.lt fun e => HFar.out.1 ⟨_, by rw [e]; exact e2⟩)
      have py0 := k7.cell 0
      have py1 := k7.cell 1
      have pz0 := o7.cell 0
      simp at py0 py1 pz0 pb
      have y0 := k6.cell 0
      have y1 := k6.cell 1
      have z0 := o6.cell 0
      simp at y0 y1 z0 qb
      have e27 : decide ((j : Int) < (N : Int)) = true := decide_eq_true (by omega)
      have hp0 : (0 : Int) ≤ (j : Int) := by omega
      have HW6 := Lib.hid hW6
      subst hpg
      clear tr tn r5 t5 hv5 ob5 b35 hfar5 hks1 hks2 gw4 hN hFB h ok hnd hdom hjl hvr obr hX hXm hXk hXt hXd hl hol hl5 hlj htk g6 k6 o6 g6d t6 ql e1 e2 lb lm ln hM7 hG7 hne hkeep hlk7 hw7 r7 t7 hW6 hhl pl k7 o7
      go_upto_region 7 with fail
      rw [show (wr.alloc (.cells #[.int .i64 x1, .int .i64 x2] 33)) = W6 from HW6.out.symm]
      go_region_held3 (fun V => V.cell? ⟨t, 0, none⟩ = some (.map (some km)) ∧ V.cell? ⟨wr.heap.size, 0, none⟩ = some (.int .i64 x1) ∧ V.cell? ⟨wr.heap.size, 1, none⟩ = some (.int .i64 x2) ∧ V.cell? ⟨ob, 0, none⟩ = some (.int .u64 (o : Int)) ∧ V.cell? ⟨bl, 1, none⟩ = some (.map (some hl')) ∧ (Instr.lookup TMk (.map (some km)) (.agg #[.int .i64 x1, .int .i64 x2]) false).run Tryz.prog V = .ok (.pointer (some ⟨bl, 0, none⟩)) V) (first | exact ⟨q0, y0, y1, z0, qb, ql'⟩ | exact ⟨p0, py0, py1, pz0, pb, pl'⟩) (fail)
      go_wp2_with fail
      go_roundw
      case rel => exact ⟨j + 1, by simp, by omega, HE⟩
      case measure => simp [intOf]; omega
    · have hjN : j = N := by omega
      subst hjN
      obtain ⟨tr, tn⟩ := HR.out
      obtain ⟨r5, t5, hv5, ob5, b35, hfar5, hks1, hks2, gw4, hN, hFB⟩ := H5.out
      rw [hN, List.take_length] at tr
      have e27 : decide ((j : Int) < (j : Int)) = false := decide_eq_false (by omega)
      have hvr := hv5.tn tn hfar5
      have obr := tn.blk ob5 HFar.out.1
      have b3r := tn.blk b35 HFar.out.2.1
      have m3 := b3r.cell 3
      have z0 := obr.cell 0
      have q1 := tr.c3.2.1
      simp at m3 z0
      have trd : TbAt wr.drew t km om B (T5.off o ks) := tr.gr (Gr.refl _).drew
      have hpt : (T5.off o ks).py = T.py := by rw [HT5.out]; rfl
      have hoo : (T5.off o ks).oo = T.oo := by rw [HT5.out]; rfl
      obtain ⟨w7, hrun, hM7, hG7⟩ := trd.owners.drop KO_ok (t := TMo) Tryz.underlying49 ho 0
      rw [show KO.val o = .int .u64 (o : Int) from rfl, show KO.ty = TOw from rfl] at hrun
      have hw7 : Onl (fun n => n = om) wr w7 := (Onl.of_gr (Gr.refl _).drew).trans (Onl.of_grown (S := fun n => n = om) hG7 rfl) (fun _ _ e => e)
      obtain ⟨r7, t7⟩ := tr.delPy hw7 hM7
      have hleft : T.left o = { T5.off o ks with py := updF (T5.off o ks).py o none, oo := delK o (T5.off o ks).oo } := by
        obtain ⟨e1, e2, e3, e4⟩ := HKS.out
        unfold Tb.left
        rw [← e1, hpt, hoo, HT5.out, e3, ← e2, ← hN]
        rfl
      rw [← hleft] at r7
      have hv7 : Kr w7 w.heap.size (.slice p j cap) ks := hvr.tn t7 hfar5
      have hbes : Beside ks := nodup_beside hks1
      have HC := Lib.hid (compact_any hv7 hbes (by rw [← hN]; exact hN1))
      have tT : Tn w w7 B (updF (updF B (.py o) none) (.pm o) none) := (((Tn.of_gr gw4).trans t5).trans tn).trans t7
      have HE := Lib.hid (And.intro r7 (And.intro tT (And.intro hv7 (And.intro hFB tr.inj))))
      have HBn : Hid (∀ n, FB (updF (updF B (.py o) none) (.pm o) none) n → n < w.heap.size) := Lib.hid fun n ⟨a, ha⟩ => hFB n ⟨a, by
        unfold updF at ha
        split at ha
        · cases ha
        · split at ha
          · cases ha
          · exact ha⟩
      clear tr tn r5 t5 hv5 ob5 b35 hfar5 hks1 hks2 gw4 hN hFB hvr obr b3r trd hpt hoo hM7 hG7 hw7 r7 t7 hleft hv7 hbes tT
      go_upto_region 15 with fail
      go_region_with (fail)
      all_goals
        go_wp2_with fail
        refine HC.out.mono ?_
        rintro e w8 ⟨rfl, g8⟩
        have G8 := Lib.hid g8
        clear g8
        go_wp2_with fail
        go_ret
        obtain ⟨r7, tT, hv7, hFB, _⟩ := HE.out
        refine ⟨_, _, rfl, ?_, r7.gr G8.out, tT.trans (Tn.of_gr G8.out), HBn.out⟩
        rw [← HKS.out.1]
        exact World.ownsRow.kept hv7 (row := none) ⟨G8.out.os, G8.out.tape, G8.out.output, G8.out.size, fun k hk _ => G8.out.block k hk⟩ (by
          rcases hv7.2 with ⟨h0, _⟩ | ⟨g, _, _, h0, _⟩
          · exact .inl (by rw [h0]; rfl)
          · exact .inr (by rw [h0]; simp [Value.ownBlock]))
end
end Go.Proofs.YtadopbpfnnpnaaaGreat

