
/-
  slices.Compact at keys that differ.
-/
import Derived.Test.YtgpaikaccipfjaaLk13
import Derived.Laws.StructEq
import Derived.IntWalk
namespace Go.Proofs.Ytgpaikaccipfjaa
open Go.RowKit Go.Maps Go.Shelf Go.Sort Go.Lib

theorem eqi_key (a b : Key) (w : World) : (Op.equalIn 10000 TKey (kv a) (kv b)).run Try.prog w = .ok (decide (a = b)) w := by
  have u3 := Try.underlying3
  have a3 := Try.isAgg3
  have z3 := Try.sizeOf3
  have hS : Try.prog.underlying TKey = some (.struct (Try.prog.fieldsOf TKey)) := by kernel_rfl
  have hp : Try.prog.stoodInHeld TKey = false := by kernel_rfl
  unfold kv
  rw [show (10000 : Nat) = 9999 + 1 from rfl, run_equalIn_agg w 9999 TKey _ _ hS hp]
  simp only [Program.fieldsOf, Try.underlying29]
  obtain ⟨a1, a2⟩ := a
  obtain ⟨b1, b2⟩ := b
  have e : decide (((a1, a2) : Key) = (b1, b2)) = (a1 == b1 && a2 == b2) := by
    by_cases h1 : a1 = b1
    · by_cases h2 : a2 = b2
      · subst h1 h2; simp
      · subst h1; simp [h2]
    · simp [h1]
  rw [e]
  go_simp
  by_cases h1 : a1 = b1
  · by_cases h2 : a2 = b2
    · simp [h1, h2]
    · simp [h1, h2]
  · simp [h1]
/-- Two that stand beside one another differ. -/
def Beside (ks : List Key) : Prop := ∀ j, j + 1 < ks.length → ks.getD j (0, 0) ≠ ks.getD (j + 1) (0, 0)
theorem Kr.at {w : World} {base g cap : Nat} {ks : List Key} (h : Kr w base (.slice (some ⟨g, 0, none⟩) ks.length cap) ks) (j : Nat) (hj : j < ks.length) :
    w.cell? ⟨g, j * 2, none⟩ = some (.int .i64 (ks.getD j (0, 0)).1) ∧ w.cell? ⟨g, j * 2 + 1, none⟩ = some (.int .i64 (ks.getD j (0, 0)).2) := by
  have h0 := World.ownsRow.cellAt h (j * 2) (by omega)
  have h1 := World.ownsRow.cellAt h (j * 2 + 1) (by omega)
  have f0 := flat_get ks (j * 2) (by omega)
  have f1 := flat_get ks (j * 2 + 1) (by omega)
  rw [show j * 2 / 2 = j by omega, show j * 2 % 2 = 0 by omega] at f0
  rw [show (j * 2 + 1) / 2 = j by omega, show (j * 2 + 1) % 2 = 1 by omega] at f1
  rw [h0, h1, f0, f1]
  exact ⟨rfl, rfl⟩
set_option maxRecDepth 100000 in
set_option maxHeartbeats 2000000 in
theorem compact_any {w : World} {base : Nat} {v : Value} {ks : List Key} (h : Kr w base v ks) (hb : Beside ks) (hn : ks.length ≤ 1000000000) :
    Calls Try.prog 41 #[v] w fun e w' => e = .returned v ∧ Gr w w' := by
  rcases h.2 with ⟨rfl, h0⟩ | ⟨g, cap, cur, rfl, _, _, hc, hm, _⟩
  · clear h hb
    go_enter Try.func41, Try.ntmps41
    go_wp2
    go_ret
    exact ⟨rfl, Gr.refl _⟩
  · have HKr := Lib.hid h
    have HBs := Lib.hid hb
    obtain ⟨n, hn'⟩ : ∃ n, n = ks.length := ⟨_, rfl⟩
    rw [← hn'] at hn hc
    rw [show (Value.slice (some ⟨g, 0, none⟩) ks.length cap) = .slice (some ⟨g, 0, none⟩) n cap by rw [hn']]
    have HN := Lib.hid hn'
    clear h hb hn'
    by_cases h2 : n < 2
    · have e : decide ((n : Int) < 2) = true := decide_eq_true (by omega)
      clear h2
      go_enter Try.func41, Try.ntmps41
      go_wp2
      go_ret
      exact ⟨rfl, Gr.refl _⟩
    · have e : decide ((n : Int) < 2) = false := decide_eq_false (by omega)
      go_enter Try.func41, Try.ntmps41
      go_wp2
      go_loopw [3] (fun i wr => ∃ j : Nat, i = .int .i64 ((j : Int) + 1) ∧ j + 1 ≤ n ∧ Hid (Gr w wr)) (fun i _ => n - (intOf i).toNat)
      case atStart => exact ⟨0, rfl, by omega, Lib.hid (Gr.refl _)⟩
      case round =>
        obtain ⟨j, rfl, hj2, HG⟩ := hrel
        by_cases hlt : j + 1 < n
        · have hlt' : j + 1 < ks.length := by rw [← HN.out]; exact hlt
          have hrow := World.ownsRow.kept HKr.out (w' := wr) (row := none) ⟨HG.out.os, HG.out.tape, HG.out.output, HG.out.size, fun k hk _ => HG.out.block k hk⟩ (.inr (by simp [Value.ownBlock]))
          obtain ⟨c0, c1⟩ := Kr.at (ks := ks) hrow (j + 1) hlt'
          obtain ⟨d0, d1⟩ := Kr.at (ks := ks) hrow j (by omega)
          obtain ⟨X, hX⟩ : ∃ X, X = ks.getD (j + 1) (0, 0) := ⟨_, rfl⟩
          obtain ⟨Y, hY⟩ : ∃ Y, Y = ks.getD j (0, 0) := ⟨_, rfl⟩
          rw [← hX] at c0 c1
          rw [← hY] at d0 d1
          have hne : X ≠ Y := by
            have := HBs.out j (by omega)
            rw [← hX, ← hY] at this
            exact fun e => this e.symm
          have hq : ∀ W, (Op.equalIn 10000 TKey (.agg #[.int .i64 X.1, .int .i64 X.2]) (.agg #[.int .i64 Y.1, .int .i64 Y.2])).run Try.prog W = .ok false W := fun W => by
            have := eqi_key X Y W
            rw [decide_eq_false hne] at this
            exact this
          have e3 : decide ((j : Int) + 1 < (n : Int)) = true := decide_eq_true (by omega)
          have hw : IntKind.i64.wrap ((j : Int) + 1 - 1) = (j : Int) := by rw [Int.add_sub_cancel]; exact IntWalk.i64_in _ (by omega)
          have hw2 : ((j : Int) + 1).toNat = j + 1 := by omega
          have hp : (0 : Int) ≤ (j : Int) + 1 := by omega
          clear hrow hX hY hne hlt'
          go_wp2_with fail
          go_quiet (fail)
          go_wp2_with fail
          go_roundw
          case rel => exact ⟨j + 1, by simp, by omega, Lib.hid (grD HG.out)⟩
          case measure => simp [intOf]; omega
        · have e3 : decide ((j : Int) + 1 < (n : Int)) = false := decide_eq_false (by omega)
          clear hlt
          go_wp2_with fail
          go_ret
          exact ⟨rfl, HG.out⟩
end Go.Proofs.Ytgpaikaccipfjaa
