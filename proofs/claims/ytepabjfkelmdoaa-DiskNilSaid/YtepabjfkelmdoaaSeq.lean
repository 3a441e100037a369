/-
  The iterators of a disk that is not there: nothing comes.
-/
import Derived.Test.YtepabjfkelmdoaaGone
import Derived.RangeFuncNested
import Derived.RangeFuncBound
import Derived.RangeFuncCalls
import Derived.RangeFuncLeaves
import Derived.OwnWalkIn
import Derived.TacticsInMore
import Derived.LoopNIn
import Derived.LoopIn
namespace Go.Proofs.Ytepabjfkelmdoaa
open Go.RowKit Go.Maps Go.Shelf
attribute [local go_sem] Oper.semAt_some

set_option maxRecDepth 100000 in
theorem each1_gone (y : Value) (Bd : Nat) (w : World) (hc : w.cell? ⟨Bd, 0, none⟩ = some (.pointer none)) : Calls Try.prog 47 #[y, .pointer (some ⟨Bd, 0, none⟩)] w fun e w' => e = .returned (.tuple #[]) ∧ w = w' := by
  have HS := Lib.hid (Sectors_gone (.pointer none) w (.inl rfl))
  go_enter Try.func47, Try.ntmps47
  go_wp2_with fail
  refine HS.out.mono ?_
  rintro e w' ⟨rfl, rfl⟩
  go_wp2_with fail
  go_loopw [6] (fun i wr => i = .int .i64 0 ∧ wr = w) (fun _ _ => 0)
  case atStart => exact ⟨rfl, rfl⟩
  case round =>
    obtain ⟨rfl, rfl⟩ := hrel
    go_wp2_with fail
    go_end0
    exact ⟨rfl, rfl⟩

theorem each_gone (p : Option Addr) (w : World) : Calls Try.prog 42 #[.pointer p] w fun e w' => e = .returned (.func (.func 47) #[] #[.pointer (some ⟨w.heap.size, 0, none⟩)]) ∧ w.alloc (.cells #[.pointer p] 24) = w' := by
  go_enter Try.func42, Try.ntmps42
  go_wp2_with fail
  go_ret
  exact ⟨rfl, rfl⟩

theorem each_stops (n : Nat) (Bd : Nat) (Kp : World → World → Prop) (w : World) (hB : Bd < w.heap.size) (hc : w.cell? ⟨Bd, 0, none⟩ = some (.pointer none)) :
    SeqStopsK Fence.wide n Try.prog 47 #[.pointer (some ⟨Bd, 0, none⟩)] (fun x : Empty => x.elim) Kp (fun xs => xs = []) (fun _ => False) 0 w := fun l J Jx W hW _ _ _ h0 => by
  have hc' := (hW.cell (p := ⟨Bd, 0, none⟩) hB).trans hc
  refine (callsIn_wide.2 (each1_gone (.func (.yield l) #[] #[]) Bd W hc')).mono ?_
  rintro e W' ⟨rfl, rfl⟩
  exact ⟨⟨_, rfl⟩, .inl ⟨[], rfl, h0⟩⟩

set_option maxRecDepth 100000 in
set_option maxHeartbeats 1000000 in
theorem all_stops (n : Nat) (hn : 2 ≤ n) (Bn : Nat) (Kp : World → World → Prop) (w : World) (hB : Bn < w.heap.size) (hc : w.cell? ⟨Bn, 0, none⟩ = some (.pointer none)) :
    SeqStopsK Fence.wide n Try.prog 41 #[.pointer (some ⟨Bn, 0, none⟩)] (fun x : Empty => x.elim) Kp (fun xs => xs = []) (fun _ => False) 0 w := fun l J Jx W hW hJ _ _ h0 => by
  have hc' := (hW.cell (p := ⟨Bn, 0, none⟩) hB).trans hc
  have h1 : 1 ≤ n := by omega
  have hBn : Bn < W.heap.size := Nat.lt_of_lt_of_le hB hW.size
  refine callsIn_of_wp_marks Try.func41 rfl trivial ?_ rfl
  simp only [Try.ntmps41, List.size_toArray, List.length_cons, List.length_nil, Nat.reduceAdd, Nat.reduceSub, Array.replicate_succ, Array.replicate_zero, List.push_toArray, List.append_toArray, List.nil_append, List.cons_append]
  gi_wp2_with (refine ⟨trivial, ?_⟩; gi_at_call 42; refine (callsIn_wide.2 (each_gone none _)).mono ?_; rintro e w' ⟨rfl, rfl⟩)
  have hB2 : Below W.heap.size W ((W.alloc (.cells #[.func (.yield l) #[] #[]] 73)).alloc (.cells #[.pointer none] 24)) := ((Below.refl _ W).alloc (Nat.le_refl _) _).alloc (by simp) _
  have hce : ((W.alloc (.cells #[.func (.yield l) #[] #[]] 73)).alloc (.cells #[.pointer none] 24)).cell? ⟨W.heap.size + 1, 0, none⟩ = some (.pointer none) := by
    have := (Blk.new (W.alloc (.cells #[.func (.yield l) #[] #[]] 73)) 24 #[.pointer none]).cell 0
    have hs : (W.alloc (.cells #[.func (.yield l) #[] #[]] 73)).heap.size = W.heap.size + 1 := by simp
    rw [hs] at this
    exact this
  refine wpIn_rangeFunc_ownF rfl h1 (gf := 47) (lb := #[.pointer (some ⟨W.heap.size + 1, 0, none⟩)]) rfl trivial (enters_of Try.func47 (by kernel_rfl) rfl)
    (each_stops (n - 1) (W.heap.size + 1) (fun _ _ => True) _ (by simp) hce) (fun _ _ => trivial) (fun _ _ _ _ _ _ _ _ => trivial) (Below.refl _ _) (fun x => x.elim)
    (fun _ W' => Below W.heap.size W W') (fun _ _ _ => False) (ownFrom_below (Nat.le_refl _) (by simp; omega)) (fun _ _ _ _ _ hs _ _ => hs) hB2 (fun x => x.elim) (fun _ x => x.elim) (fun _ _ x => x.elim) ?done (fun _ _ _ _ _ hs _ _ => hs.elim)
  case done =>
    rintro D xs W' hD rfl hB3 hK
    gi_wp2
    refine ⟨by simp, .inl ⟨_, _, rfl, run_takeDeferred hK, ?_⟩⟩
    have hB4 := hB3.trans (belowK_b (w := W) (Nat.le_refl _) W' D _ (.deferred none) (by simp at hD; omega) hK rfl rfl)
    refine ⟨_, results_none rfl _ _ _, ⟨⟨_, rfl⟩, .inl ⟨[], rfl, ?_⟩⟩⟩
    exact hJ [] W _ none h0 ⟨hB4.os, hB4.tape, hB4.output, hB4.size, fun k hk _ => hB4.block k hk⟩ (fun r e => by cases e)

end Go.Proofs.Ytepabjfkelmdoaa
