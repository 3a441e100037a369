
/-
  The law DiskApart: nothing, or too much.
-/
import Derived.Test.YtkoalabacfjgbaaApartEnd
namespace Go.Proofs.Ytkoalabacfjgbaa
open Go.RowKit Go.Maps Go.Shelf

set_option maxRecDepth 100000 in
set_option maxHeartbeats 4000000 in
theorem diskApart_none (q : Option Addr) (m c : Nat) (q1 : Option Addr) (m1 c1 : Nat) (q2 : Option Addr) (m2 c2 : Nat) (w : World) (h0 : m ≤ 9223372036854775807) (h1 : m1 ≤ 9223372036854775807) (h2 : m2 ≤ 9223372036854775807) (h : m < 1 ∨ 40 < m ∨ 40 < m1 ∨ 40 < m2) :
    Calls Try.prog 3 #[.slice q m c, .slice q1 m1 c1, .slice q2 m2 c2] w fun e w' => RetTrue w e w' := by
  obtain ⟨W0, hW0⟩ : ∃ W0, W0 = w.alloc (.cells #[.bool false] 4) := ⟨_, rfl⟩
  have HW0 := Lib.hid hW0
  have H0 : Hid (Blk W0 w.heap.size TBo #[.bool false] ∧ Gr w W0) := Lib.hid (by rw [hW0]; exact ⟨Blk.new _ _ _, Gr.new _ _⟩)
  clear hW0
  refine (callsIn_wide (n := 12)).1 ?_
  refine callsIn_of_wp_marks Try.func3 rfl trivial ?_ rfl
  simp only [Try.ntmps3, List.size_toArray, List.length_cons, List.length_nil, Nat.reduceAdd, Nat.reduceSub, Array.replicate_succ, Array.replicate_zero, List.push_toArray, List.append_toArray, List.nil_append, List.cons_append]
  refine wpIn_wide.2 ?_
  have hg : (m : Int) < 1 ∨ (¬ (m : Int) < 1 ∧ (40 : Int) < (m : Int)) ∨ (¬ (m : Int) < 1 ∧ ¬ (40 : Int) < (m : Int) ∧ (40 : Int) < (m1 : Int)) ∨ (¬ (m : Int) < 1 ∧ ¬ (40 : Int) < (m : Int) ∧ ¬ (40 : Int) < (m1 : Int) ∧ (40 : Int) < (m2 : Int)) := by omega
  clear h
  rcases hg with g1 | ⟨g1, g2⟩ | ⟨g1, g2, g3⟩ | ⟨g1, g2, g3, g4⟩
  all_goals
    go_wp2_with fail
    rw [← HW0.out]
    refine (known_any W0).mono ?_
    rintro e W1 ⟨rfl, gk⟩
    have n6 := (H0.out.1.gr gk).cell 0
    have f6 := (H0.out.1.gr gk).frozen 0
    simp at n6
    have HR : Hid (Blk (W1.setCell ⟨w.heap.size, 0, none⟩ (.bool true)) w.heap.size TBo #[.bool true] ∧ Gr w (W1.setCell ⟨w.heap.size, 0, none⟩ (.bool true))) := Lib.hid ⟨(H0.out.1.gr gk).set 0 _, (Gr.trans H0.out.2 gk).setCell (p := ⟨w.heap.size, 0, none⟩) (Nat.le_refl _) _⟩
    clear gk
    go_wp2_with fail
    first
      | exact ⟨_, results_cell_one rfl Try.isAgg4 _ _ ⟨w.heap.size, 0, none⟩ (.bool true) rfl (HR.out.1.cell 0), rfl, HR.out.2⟩
      | exact ⟨by simp, .inl ⟨_, _, rfl, rfl, _, results_cell_one rfl Try.isAgg4 _ _ ⟨w.heap.size, 0, none⟩ (.bool true) rfl (HR.out.1.cell 0), rfl, HR.out.2⟩⟩

end Go.Proofs.Ytkoalabacfjgbaa
