/-
  Texts on locks, put together: Lk48.
-/
import Derived.Test.YtadopbpfnnpnaaaGreatL17
import Derived.Test.YtadopbpfnnpnaaaGreatL21
set_option linter.unusedVariables false
set_option linter.unusedSimpArgs false
/-
  The code's table of locks: keys that rise, and one more; a row of keys grows by one.
-/
namespace Go.Proofs.YtadopbpfnnpnaaaGreat
open Go.RowKit Go.Maps Go.Shelf Go.Sort Go.Lib

def leK (a b : Key) : Bool := !(ltOf cmpK) b a
theorem leK_refl (a : Key) : leK a a = true := by
  unfold leK
  rw [swoK.irrefl]
  rfl
theorem leK_trans (a b c : Key) (h1 : leK a b = true) (h2 : leK b c = true) : leK a c = true := by
  unfold leK at *
  simp only [ltK, Bool.not_eq_true', decide_eq_false_iff_not] at *
  omega
theorem leK_total (a b : Key) : (leK a b || leK b a) = true := by
  unfold leK
  simp only [ltK, Bool.or_eq_true, Bool.not_eq_true', decide_eq_false_iff_not]
  omega
theorem sortK_pw (ks : List Key) : (sortK ks).Pairwise fun a b => leK a b = true := List.pairwise_mergeSort leK_trans leK_total ks
theorem sortK_of (ks : List Key) (h : ks.Pairwise fun a b => leK a b = true) : sortK ks = ks := List.mergeSort_of_pairwise h
/-- One that is there stands there twice. -/
theorem sortK_twice {ks : List Key} {k : Key} {a c : List Key} (h : sortK ks = a ++ k :: c) : sortK (sortK ks ++ [k]) = (a ++ [k]) ++ k :: c := by
  have hp := sortK_pw ks
  rw [h] at hp ⊢
  have e1 : sortK ((a ++ k :: c) ++ [k]) = sortK ((a ++ [k]) ++ k :: c) := sortK_congr (by
    rw [List.append_assoc, List.append_assoc]
    refine List.Perm.append_left a ?_
    show (k :: c ++ [k]).Perm ([k] ++ k :: c)
    exact List.perm_append_comm)
  rw [e1]
  apply sortK_of
  rw [List.append_assoc]
  rw [List.pairwise_append] at hp ⊢
  obtain ⟨h1, h2, h3⟩ := hp
  rw [List.pairwise_cons] at h2
  refine ⟨h1, ?_, fun x hx y hy => ?_⟩
  · show (k :: k :: c).Pairwise _
    rw [List.pairwise_cons, List.pairwise_cons]
    refine ⟨fun y hy => ?_, h2⟩
    rcases List.mem_cons.1 hy with e | e
    · rw [e]; exact leK_refl k
    · exact h2.1 y e
  · have hy' : y ∈ k :: c := by
      have : y ∈ k :: k :: c := hy
      simp at this ⊢
      exact this
    exact h3 x hx y hy'
theorem wpList_app_kr {ops : Array Oper} {rest : List Oper} {o : Oper} {a : Act} {w : World} {Q : Exit → Act → World → Prop} (hg : o.guard = none) (s x : Operand) (ho : o.op = .call { callee := .builtin .append, args := #[s, x], argTypes := #[TKs, TKs] })
    {v : Value} {base : Nat} {ks : List Key} (hs : a.eval s = v) (hr : Kr w base v ks) {g c : Nat} {k : Key} (hx : a.eval x = .slice (some ⟨g, 0, none⟩) 1 c) (hy : Blk w g TKey #[.int .i64 k.1, .int .i64 k.2]) (hk : ks.length ≤ 1000000000) (hb : base ≤ w.heap.size)
    (h : ∀ v' w', Kr w' base v' (ks ++ [k]) → w.grownBy w' v.ownBlock → wpList Tryz.prog ops Q rest (a.put o.dst v') w') : wpList Tryz.prog ops Q (o :: rest) a w := by
  obtain ⟨i, hi, hz, hsz, hbb⟩ := inf_parts key_info
  refine wpList_append_own w hg s x TKs ho base TKey i (.agg #[.int .i64 0, .int .i64 0]) 2 16 Tryz.underlying74 hi hz hsz hbb rfl (by decide) v ks.length _ hs hr ⟨g, 0, none⟩ 1 c (kcells k) hx
    rfl (fun j u hj => ?_) (fun u hu => ?_) (by simp only [maxLen]; omega) (by omega) hb ?_
  · rw [add_lit', Nat.zero_add, hy.cell]
    simpa [kcells] using hj
  · simp [kcells] at hu
    rcases hu with rfl | rfl <;> rfl
  · intro v' w' h5 h6 _
    refine h v' w' ?_ h6
    unfold Kr
    rw [List.length_append, List.flatMap_append]
    simpa using h5
end Go.Proofs.YtadopbpfnnpnaaaGreat

