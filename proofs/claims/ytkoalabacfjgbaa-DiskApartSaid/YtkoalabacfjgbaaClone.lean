
import Derived.Test.YtkoalabacfjgbaaLoose
namespace Go.Proofs.Ytkoalabacfjgbaa
open Go.RowKit Go.Maps

theorem app_secL {w : World} {ops : Array Oper} {rest : List Oper} {o : Oper} {a : Act} {Q : Exit → Act → World → Prop} {v : Value} {ss ts : List Sec} (hg : o.guard = none) (s x : Operand) (ho : o.op = .call { callee := .builtin .append, args := #[s, x], argTypes := #[TL, TL] })
    (hs : a.eval s = v) (hr : Row w v ss) {q m c : Nat} (hx : a.eval x = .slice (some ⟨q, 0, none⟩) m c) (hy : Row w (.slice (some ⟨q, 0, none⟩) m c) ts) (hm : m = ts.length) (hl : ss.length + m ≤ 500000000000)
    (h : ∀ v' w', Row w' v' (ss ++ ts) → w.grownBy w' v.ownBlock → (v'.ownBlock = v.ownBlock ∨ v'.ownBlock = some w.heap.size) → wpList Try.prog ops Q rest (a.put o.dst v') w') : wpList Try.prog ops Q (o :: rest) a w :=
  wpList_plain hg fun _ hK => app_sec s x ho hs hr hx hy hm hl fun v' w' h1 h2 h3 => hK _ _ (h v' w' h1 h2 h3)

/-- An answer: a row in memory of its own. -/
def RetRow (ss : List Sec) (w : World) (e : Ending) (w' : World) : Prop := ∃ v, e = .returned v ∧ Row w' v ss ∧ (∀ g, v.ownBlock = some g → w.heap.size ≤ g) ∧ Gr w w'

set_option maxRecDepth 100000 in
set_option maxHeartbeats 1000000 in
theorem Clone_any (w : World) (v : Value) (ss : List Sec) (h : Row w v ss) (hne : ss ≠ []) (hl : ss.length ≤ 400000000000) : Calls Try.prog 23 #[v] w fun e w' => RetRow ss w e w' := by
  obtain ⟨g, c, rfl, hg, _⟩ := h.full hne
  obtain ⟨n, hn⟩ : ∃ n, n = ss.length := ⟨_, rfl⟩
  rw [← hn] at h
  have hw : Gr w (w.alloc (.cells #[] TS)) := (Gr.refl w).alloc (Nat.le_refl _) _
  have HR := Lib.hid (h.gr hw)
  have HE : Hid (Row (w.alloc (.cells #[] TS)) (.slice (some ⟨w.heap.size, 0, none⟩) 0 0) []) := Lib.hid ⟨rfl, .inr ⟨_, _, _, rfl, Nat.zero_le _, heap_alloc_new w _, Nat.le_refl _, Nat.zero_le _, by simp, by simp; rfl⟩⟩
  have HN := Lib.hid hn
  have HG := Lib.hid hw
  have HL := Lib.hid (show ([] : List Sec).length + n ≤ 500000000000 by rw [hn]; simp; omega)
  have hq := fun w => Lib.run_eql_slice_nil (P := Try.prog) w TL TS (some ⟨g, 0, none⟩) n c 0 0 Try.underlying25
  rw [← hn]
  clear h hne hw hn hl hg
  go_enter Try.func23, Try.ntmps23
  go_wp2_with (at_builtin; refine app_secL rfl _ _ rfl rfl HE.out rfl HR.out HN.out HL.out ?_)
  intro v' w' h1 h2 h3
  have HRow : Hid (Row w' v' ss) := Lib.hid (by simpa using h1)
  have HB : Hid (Gr w w') := Lib.hid (HG.out.grown h2 HG.out.size (fun k e => by cases e; exact Nat.le_refl _))
  have HF : Hid (∀ g, v'.ownBlock = some g → w.heap.size ≤ g) := Lib.hid fun g hg => by
    rcases h3 with h3 | h3
    · rw [hg] at h3; simp [Value.ownBlock] at h3; omega
    · rw [hg] at h3; simp at h3; omega
  clear h1 h2 h3 hq
  go_wp2
  go_ret
  exact ⟨_, rfl, HRow.out, HF.out, HB.out⟩

end Go.Proofs.Ytkoalabacfjgbaa
