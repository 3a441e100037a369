
/-
  The code's table of locks: Waits of a nil or zero table.
-/
import Derived.Test.YtgpaikaccipfjaaLk34
namespace Go.Proofs.Ytgpaikaccipfjaa
open Go.RowKit Go.Maps

theorem results_kmb {fn : Func} {p q r : Tmp} (h : fn.results = #[.cell p TKey, .tmp q, .tmp r]) (tmps : Array Value) (w : World) (g : Nat) (a b x y : Value)
    (hp : tmps.getD p undef = .pointer (some ⟨g, 0, none⟩)) (hx : tmps.getD q undef = x) (hy : tmps.getD r undef = y) (hb : Blk w g TKey #[a, b]) : (results fn tmps).run Try.prog w = .ok (.tuple #[.agg #[a, b], x, y]) w := by
  have hp' : tmps[p]?.getD undef = .pointer (some ⟨g, 0, none⟩) := by simpa using hp
  have hx' : tmps[q]?.getD undef = x := by simpa using hx
  have hy' : tmps[r]?.getD undef = y := by simpa using hy
  have hz : (Try.prog.info? TKey).map (·.size) = some 2 := by kernel_rfl
  have hl := run_loadVar_row (P := Try.prog) w g TKey TKey #[a, b] (0, 0) _ hb Try.underlying29 rfl hz
  simp [results, h, hp', hx', hy', asAddr, hl]
section
variable {w : World} {tv : Value}
set_option maxRecDepth 100000 in
set_option maxHeartbeats 2000000 in
theorem Waits_gone (h : TGone w tv) (o : Int) : Calls Try.prog 13 #[tv, .int .u64 o] w fun e w' => e = .returned (.tuple #[.agg #[.int .i64 0, .int .i64 0], .int .i64 0, .bool false]) ∧ Gr w w' := by
  have g1 : Gr w (w.alloc (.cells #[.int .i64 0, .int .i64 0] TKey)) := (Gr.refl w).alloc (Nat.le_refl _) _
  have b1 := Blk.new w TKey #[.int .i64 0, .int .i64 0]
  obtain ⟨W0, hW0⟩ : ∃ W0, W0 = w.alloc (.cells #[.int .i64 0, .int .i64 0] TKey) := ⟨_, rfl⟩
  rw [← hW0] at g1 b1
  have HO := Lib.hid (of_gone (h.gr g1) o)
  obtain ⟨rb, hrb⟩ : ∃ rb, rb = w.heap.size := ⟨_, rfl⟩
  rw [← hrb] at b1
  have HW := Lib.hid (And.intro hW0 (And.intro hrb (And.intro g1 b1)))
  clear h hW0 hrb g1 b1
  go_enter Try.func13, Try.ntmps13
  go_upto_region 1 with fail
  rw [show (w.alloc (.cells #[.int .i64 0, .int .i64 0] 29)) = W0 from HW.out.1.symm, ← HW.out.2.1]
  go_wp2_with fail
  refine HO.out.mono ?_
  rintro e W2 ⟨rfl, g2⟩
  have g3 : Gr W2 (W2.alloc (.cells #[.map none, .int .i64 0, .int .i64 0, .int .i64 0] TPy)) := (Gr.refl _).alloc (Nat.le_refl _) _
  have b3 := Blk.new W2 TPy #[.map none, .int .i64 0, .int .i64 0, .int .i64 0]
  obtain ⟨W3, hW3⟩ : ∃ W3, W3 = W2.alloc (.cells #[.map none, .int .i64 0, .int .i64 0, .int .i64 0] TPy) := ⟨_, rfl⟩
  rw [← hW3] at g3 b3
  obtain ⟨pb, hpb⟩ : ∃ pb, pb = W2.heap.size := ⟨_, rfl⟩
  rw [← hpb] at b3
  have r3 := HW.out.2.2.2.gr (Gr.trans g2 g3)
  have hne : pb ≠ rb := by
    have := HW.out.2.2.2.lt
    have := g2.size
    omega
  have b4 := (b3.far (p := ⟨rb, 0, none⟩) hne (.int .i64 0)).far (p := ⟨rb, 1, none⟩) hne (.int .i64 0)
  have r4 := (r3.set 0 (.int .i64 0)).set 1 (.int .i64 0)
  have z1 := b3.cell 1
  have z2 := b3.cell 2
  have z3 := b3.cell 3
  have y1 := b4.cell 1
  have y2 := b4.cell 2
  have y3 := b4.cell 3
  have c0 := r3.cell 0
  have c1 := r3.cell 1
  have f0 := r3.frozen 0
  have f1 := r3.frozen 1
  simp at z1 z2 z3 y1 y2 y3 c0 c1 r4
  have G3 := Lib.hid (And.intro (Gr.trans HW.out.2.2.1 (Gr.trans g2 g3)) (And.intro r4 (And.intro hW3 hpb)))
  clear g2 g3 b3 hW3 hpb r3 hne b4 r4
  go_upto_region 2 with fail
  rw [show (W2.alloc (.cells #[.map none, .int .i64 0, .int .i64 0, .int .i64 0] 61)) = W3 from G3.out.2.2.1.symm, ← G3.out.2.2.2]
  go_region_held3 (fun V => V.cell? ⟨pb, 1, none⟩ = some (.int .i64 0) ∧ V.cell? ⟨pb, 2, none⟩ = some (.int .i64 0) ∧ V.cell? ⟨pb, 3, none⟩ = some (.int .i64 0)) (first | exact ⟨z1, z2, z3⟩ | exact ⟨y1, y2, y3⟩) (fail)
  have gW : Gr w (((W3.setCell ⟨rb, 0, none⟩ (.int .i64 0)).setCell ⟨rb, 1, none⟩ (.int .i64 0)).drew) := by
    obtain ⟨-, hrb, -, -⟩ := HW.out
    have g := G3.out.1
    refine ⟨g.os, g.tape, g.output, by have := g.size; simpa using this, fun n hn => ?_⟩
    have h0 : n ≠ rb := by omega
    exact (Below.heap_setCell _ _ _ _ h0).trans ((Below.heap_setCell _ _ _ _ h0).trans (g.block n hn))
  have GW := Lib.hid gW
  clear gW
  go_wp2_with fail
  exact bodyPost_ret (results_kmb rfl _ _ rb _ _ _ _ rfl rfl rfl G3.out.2.1) rfl ⟨rfl, GW.out⟩
end
end Go.Proofs.Ytgpaikaccipfjaa
