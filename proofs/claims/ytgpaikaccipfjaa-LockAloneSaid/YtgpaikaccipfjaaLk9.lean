
/-
  Rows of owners, of the call's own; what a slice of owners reads.
-/
import Derived.Test.YtgpaikaccipfjaaLk8
import Derived.Laws.AppendOwnNone
import Derived.Laws.AppendOwn
namespace Go.Proofs.Ytgpaikaccipfjaa
open Go.RowKit Go.Maps

abbrev TUs : TypeId := 26
def u64v (n : Nat) : Value := .int .u64 (n : Int)
/-- The value v is the call's own row of owners. -/
def Us (w : World) (base : Nat) (v : Value) (xs : List Nat) : Prop := w.ownsRow base TOw 1 v xs.length (xs.map u64v)
theorem Us.nil (w : World) (base : Nat) : Us w base (.slice none 0 0) [] := World.ownsRow_nil _ _ _ _
/-- Owners that a slice reads. -/
def USl (w : World) (v : Value) (xs : List Nat) : Prop :=
  (v = .slice none 0 0 ∧ xs = []) ∨ ∃ g o c, v = .slice (some ⟨g, o, none⟩) xs.length c ∧ xs.length ≤ c ∧ c ≤ maxLen ∧ ∀ j, j < xs.length → w.cell? ⟨g, o + j, none⟩ = some (u64v (xs.getD j 0))
theorem blk_lt' {w : World} {a : Addr} {v : Value} (h : w.cell? a = some v) : a.block < w.heap.size := World.block_lt_of_cell? w a h
theorem USl.gr {w w' : World} {v : Value} {xs : List Nat} (h : USl w v xs) (g : Gr w w') : USl w' v xs := by
  rcases h with h | ⟨b, o, c, h1, h2, h3, h4⟩
  · exact .inl h
  · exact .inr ⟨b, o, c, h1, h2, h3, fun j hj => by rw [g.cell (blk_lt' (h4 j hj))]; exact h4 j hj⟩
theorem Us.cellAt {w : World} {base g cap : Nat} {xs : List Nat} (h : Us w base (.slice (some ⟨g, 0, none⟩) xs.length cap) xs) (j : Nat) (hj : j < xs.length) : w.cell? ⟨g, j, none⟩ = some (u64v (xs.getD j 0)) := by
  have := World.ownsRow.cellAt h j (by omega)
  rw [this]
  simp [List.getD, hj]
theorem Us.usl {w : World} {base : Nat} {v : Value} {xs : List Nat} (h : Us w base v xs) : USl w v xs := by
  rcases h.2 with ⟨rfl, h0⟩ | ⟨g, cap, cur, rfl, hb, hg, h1, h2, _⟩
  · exact .inl ⟨rfl, List.eq_nil_of_length_eq_zero h0⟩
  · exact .inr ⟨g, 0, cap, rfl, h1, h2, fun j hj => by rw [Nat.zero_add]; exact Us.cellAt h j hj⟩
theorem Us.form {w : World} {base : Nat} {v : Value} {xs : List Nat} (h : Us w base v xs) : ∃ p c, v = .slice p xs.length c := by
  rcases h.2 with ⟨rfl, h0⟩ | ⟨g, cap, cur, rfl, _⟩
  · exact ⟨none, 0, by rw [h0]⟩
  · exact ⟨_, cap, rfl⟩
theorem Us.lt {w : World} {base : Nat} {v : Value} {xs : List Nat} (h : Us w base v xs) : ∀ k, v.ownBlock = some k → base ≤ k ∧ k < w.heap.size := World.ownsRow.lt h
theorem Us.stays {w w' : World} {base : Nat} {v : Value} {xs : List Nat} (h : Us w base v xs) (e : ∀ k, v.ownBlock = some k → w'.heap[k]? = w.heap[k]?) : Us w' base v xs := by
  refine ⟨h.1, ?_⟩
  rcases h.2 with h0 | ⟨g, cap, cur, h1, hb, hg, r⟩
  · exact .inl h0
  · exact .inr ⟨g, cap, cur, h1, hb, (e g (by rw [h1]; rfl)).trans hg, r⟩
theorem Us.gr {w w' : World} {base : Nat} {v : Value} {xs : List Nat} (h : Us w base v xs) (g : Gr w w') : Us w' base v xs := h.stays fun k hk => g.block k (h.lt k hk).2
theorem u64_info : (Try.prog.info? TOw).map (fun i => (i.zero, i.size, i.bytes)) = some (some (.int .u64 0), 1, 8) := by kernel_rfl
theorem inf_parts {P : Program} {t : TypeId} {z : Value} {s b : Nat} (h : (P.info? t).map (fun i => (i.zero, i.size, i.bytes)) = some (some z, s, b)) : ∃ i, P.info? t = some i ∧ i.zero = some z ∧ i.size = s ∧ i.bytes = b := by
  cases hi : P.info? t with
  | none => rw [hi] at h; cases h
  | some i =>
    rw [hi] at h
    simp at h
    exact ⟨i, rfl, h.1, h.2.1, h.2.2⟩
theorem add_lit' (g q j : Nat) : ((⟨g, q, none⟩ : Addr).add j) = ⟨g, q + j, none⟩ := by
  rcases Nat.eq_zero_or_pos j with rfl | h0
  · simp [Addr.add]
  · have hn : j ≠ 0 := by omega
    simp [Addr.add, hn]
theorem wpList_app_us {ops : Array Oper} {rest : List Oper} {o : Oper} {a : Act} {w : World} {Q : Exit → Act → World → Prop} (hg : o.guard = none) (s x : Operand) (ho : o.op = .call { callee := .builtin .append, args := #[s, x], argTypes := #[TUs, TUs] })
    {v : Value} {base : Nat} {xs : List Nat} (hs : a.eval s = v) (hr : Us w base v xs) {vx : Value} {ys : List Nat} (hx : a.eval x = vx) (hy : USl w vx ys) (hk : xs.length + ys.length ≤ 1000000000) (hb : base ≤ w.heap.size)
    (h : ∀ v' w', Us w' base v' (xs ++ ys) → w.grownBy w' v.ownBlock → wpList Try.prog ops Q rest (a.put o.dst v') w') : wpList Try.prog ops Q (o :: rest) a w := by
  obtain ⟨i, hi, hz, hsz, hbb⟩ := inf_parts u64_info
  rcases hy with ⟨rfl, rfl⟩ | ⟨g, q, c, rfl, h2, h3, h4⟩
  · refine wpList_append_own_none hg s x TUs ho base TOw i 1 Try.underlying26 hi v xs.length _ hs hr hx ?_
    exact h v w (by simpa using hr) (World.grownBy.refl _ _)
  · refine wpList_append_own w hg s x TUs ho base TOw i (.int .u64 0) 1 8 Try.underlying26 hi hz hsz hbb rfl (by decide) v xs.length _ hs hr ⟨g, q, none⟩ ys.length c (ys.map u64v) hx
      (by simp) (fun j u hj => ?_) (fun u hu => ?_) (by simp only [maxLen]; omega) (by omega) hb ?_
    · have hlt : j < ys.length := by simpa using (List.getElem?_eq_some_iff.1 hj).1
      have h5 := h4 j hlt
      rw [add_lit', h5, ← hj, List.getElem?_map]
      simp [List.getD, hlt]
    · obtain ⟨x, _, rfl⟩ := List.mem_map.1 hu
      rfl
    · intro v' w' h5 h6 _
      refine h v' w' ?_ h6
      unfold Us
      rw [List.length_append, List.map_append]
      exact h5
/-- One owner in a new block. -/
theorem USl.one (w : World) (x : Nat) (t : TypeId) : USl (w.alloc (.cells #[u64v x] t)) (.slice (some ⟨w.heap.size, 0, none⟩) 1 1) [x] :=
  .inr ⟨_, _, 1, rfl, Nat.le_refl _, by simp only [maxLen]; omega, fun j hj => by
    have : j = 0 := by simp at hj; exact hj
    subst this
    exact (Blk.new w t #[u64v x]).cell 0⟩
/-- What a way answers: a row of owners. -/
def RetUs (xs : List Nat) (w : World) (e : Ending) (w' : World) : Prop := ∃ v, e = .returned v ∧ Us w' w.heap.size v xs ∧ Gr w w'
end Go.Proofs.Ytgpaikaccipfjaa
