
/-
  The law DiskPlays, walked.
-/
import Derived.Test.YtkoalabacfjgbaaActs
namespace Go.Proofs.Ytkoalabacfjgbaa
open Go.RowKit Go.Maps

theorem size_act : (Try.prog.info? TAct).map (·.size) = some 5 := by kernel_rfl
theorem wpList_load_act {ops : Array Oper} {rest : List Oper} {op : Oper} {a : Act} {w : World} {Q : Exit → Act → World → Prop} (hgd : op.guard = none) (x : Operand) (ho : op.op = .load TAct x) {b o : Nat} {av : Array Value} (hc : w.rangeAt b o av.toList) (hl : av.size = 5) (hx : a.eval x = .pointer (some ⟨b, o, none⟩))
    (h : wpList Try.prog ops Q rest (a.put op.dst (.agg av)) w) : wpList Try.prog ops Q (op :: rest) a w :=
  wpList_load_mid hgd TAct x ho b o hx av.toList _ hc Try.underlying40 rfl (by rw [Array.length_toList, hl]; exact size_act) (by simpa using h)
theorem act_size (a : Do) (v : Value) : (a.val v).size = 5 := rfl
/-- Both are made. -/
theorem OwnP.made {w w1 w2 w3 : World} {d p : Value} {F : Nat → Prop} {l : List Sec} (hd : Dk w1 F d (fresh l)) (g1 : Gr w w1) (hF : ∀ k, F k → w.heap.size ≤ k) (g2 : Gr w1 w2) {G : Nat → Prop} (hr : Rf w3 G p (fresh l)) (g3 : Gr w2 w3) (hG : ∀ k, G k → w2.heap.size ≤ k) : OwnP w w3 d p (fresh l) := by
  refine ⟨F, G, ⟨hd.gr (Gr.trans g2 g3), hr, fun k hk hk2 => ?_⟩, Gr.trans g1 (Gr.trans g2 g3), fun k hk => ?_⟩
  · have h1 := hd.low k hk
    have h2 := hG k hk2
    have h3 := g2.size
    omega
  · rcases hk with hk | hk
    · exact hF k hk
    · exact Nat.le_trans (Nat.le_trans g1.size g2.size) (hG k hk)

end Go.Proofs.Ytkoalabacfjgbaa
