
/-
  The code's table of locks: Held of a nil or zero table; the law's nothing.
-/
import Derived.Test.YtgpaikaccipfjaaLk35
import Derived.RangeFuncNested
import Derived.RangeFuncBound
import Derived.RangeFuncCalls
import Derived.RangeFuncLeaves
import Derived.OwnWalkIn
import Derived.TacticsInMore
import Derived.LoopNIn
import Derived.LoopIn
namespace Go.Proofs.Ytgpaikaccipfjaa
open Go.RowKit Go.Maps Go.Shelf
attribute [local go_sem] Oper.semAt_some

abbrev TMds : TypeId := 78
theorem mk0_modes (w : World) : (Instr.makeSlice TMds (.int .i64 0) (.int .i64 0)).run Try.prog w = .ok (.slice (some ⟨w.heap.size, 0, none⟩) 0 0) (w.alloc (.cells #[] 30)) := by kernel_rfl
theorem sortK_nil : sortK [] = [] := by simp [sortK]
section
variable {w : World} {tv : Value}
set_option maxRecDepth 100000 in
theorem Held_gone (h : TGone w tv) (o : Int) : Calls Try.prog 19 #[tv, .int .u64 o] w fun e w' => ∃ kb mb p cap, e = .returned (.func (.func 36) #[] #[.pointer (some ⟨kb, 0, none⟩), .pointer (some ⟨mb, 0, none⟩)]) ∧ Gr w w' ∧ Blk w' kb TKs #[.slice p 0 cap] := by
  have HO := Lib.hid (of_gone h o)
  have hmk := mk0_modes
  clear h
  go_enter Try.func19, Try.ntmps19
  go_wp2_with fail
  refine HO.out.mono ?_
  rintro e W1 ⟨rfl, g1⟩
  have HG1 := Lib.hid g1
  clear g1
  go_wp2_with fail
  refine (sorted_any W1 (hp := none) (ks := []) 0 0 0 (.inl ⟨rfl, rfl⟩) (Nat.zero_le _)).mono ?_
  rintro e W2 ⟨v, rfl, hv, g2⟩
  rw [sortK_nil] at hv
  obtain ⟨p, cap, hvf, -⟩ := hv.form
  subst hvf
  have b3 := Blk.new W2 TKs #[.slice p 0 cap]
  have HG2 := Lib.hid (Gr.trans HG1.out (Gr.trans g2 ((Gr.refl W2).alloc (Nat.le_refl _) (.cells #[.slice p 0 cap] TKs))))
  clear g2 hv HG1
  obtain ⟨W3, hW3⟩ : ∃ W3, W3 = W2.alloc (.cells #[.slice p 0 cap] TKs) := ⟨_, rfl⟩
  obtain ⟨kb, hkb⟩ : ∃ kb, kb = W2.heap.size := ⟨_, rfl⟩
  rw [← hW3] at b3 HG2
  rw [← hkb] at b3
  have c3 := b3.cell 0
  simp at c3
  have H3 := Lib.hid (And.intro b3 (And.intro hW3 hkb))
  clear hW3 hkb b3
  go_upto_region 2 with fail
  rw [show (W2.alloc (.cells #[.slice p 0 cap] 57)) = W3 from H3.out.2.1.symm, ← H3.out.2.2]
  go_upto_region 3 with fail
  have g4 : Gr W3 ((W3.alloc (.cells #[] 30)).alloc (.cells #[.slice (some ⟨W3.heap.size, 0, none⟩) 0 0] TMds)) := ((Gr.refl W3).alloc (Nat.le_refl _) _).alloc (by simp) _
  obtain ⟨W4, hW4⟩ : ∃ W4, W4 = (W3.alloc (.cells #[] 30)).alloc (.cells #[.slice (some ⟨W3.heap.size, 0, none⟩) 0 0] TMds) := ⟨_, rfl⟩
  rw [← hW4] at g4
  have b4 := H3.out.1.gr g4
  have c4 := b4.cell 0
  simp at c4
  have H4 := Lib.hid (And.intro b4 (And.intro (Gr.trans HG2.out g4) hW4))
  clear b4 g4 hW4 c3
  rw [show ((W3.alloc (.cells #[] 30)).alloc (.cells #[.slice (some ⟨W3.heap.size, 0, none⟩) 0 0] 78)) = W4 from H4.out.2.2.symm]
  go_wp2_with fail
  go_loopw [18] (fun i wr => i = .int .i64 0 ∧ wr = W4) (fun _ _ => 0)
  case atStart => exact ⟨rfl, rfl⟩
  case round =>
    obtain ⟨rfl, rfl⟩ := hrel
    go_wp2_with fail
    go_ret
    exact ⟨_, _, p, cap, rfl, H4.out.2.1, H4.out.1⟩
theorem held1_gone (y : Value) (kb mb : Nat) (p : Option Addr) (cap : Nat) (w : World) (hc : w.cell? ⟨kb, 0, none⟩ = some (.slice p 0 cap)) : Calls Try.prog 36 #[y, .pointer (some ⟨kb, 0, none⟩), .pointer (some ⟨mb, 0, none⟩)] w fun e w' => e = .returned (.tuple #[]) ∧ w = w' := by
  go_enter Try.func36, Try.ntmps36
  go_wp2_with fail
  go_loopw [8] (fun i wr => i = .int .i64 0 ∧ wr = w) (fun _ _ => 0)
  case atStart => exact ⟨rfl, rfl⟩
  case round =>
    obtain ⟨rfl, rfl⟩ := hrel
    go_wp2_with fail
    go_end0
    exact ⟨rfl, rfl⟩
theorem held_stops (n : Nat) (kb mb : Nat) (p : Option Addr) (cap : Nat) (Kp : World → World → Prop) (w : World) (hB : kb < w.heap.size) (hc : w.cell? ⟨kb, 0, none⟩ = some (.slice p 0 cap)) :
    SeqStopsK Fence.wide n Try.prog 36 #[.pointer (some ⟨kb, 0, none⟩), .pointer (some ⟨mb, 0, none⟩)] (fun x : Empty => x.elim) Kp (fun xs => xs = []) (fun _ => False) 0 w := fun l J Jx W hW _ _ _ h0 => by
  have hc' := (hW.cell (p := ⟨kb, 0, none⟩) hB).trans hc
  refine (callsIn_wide.2 (held1_gone (.func (.yield l) #[] #[]) kb mb p cap W hc')).mono ?_
  rintro e W' ⟨rfl, rfl⟩
  exact ⟨⟨_, rfl⟩, .inl ⟨[], rfl, h0⟩⟩
end
end Go.Proofs.Ytgpaikaccipfjaa
