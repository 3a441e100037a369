
/-
  The code's table of locks: Holds and Waits of a nil or zero table.
-/
import Derived.Test.YtgpaikaccipfjaaLk33
namespace Go.Proofs.Ytgpaikaccipfjaa
open Go.RowKit Go.Maps

def SlHoldsG (tv : Value) (_ : Nat) (o : Nat) (k1 : Int) (k2 : Int) (slot : Nat) (v : Value) (_ : World) : Prop :=
  match slot with
  | 7 => v = tv
  | 8 => v = .int .u64 (o : Int)
  | 9 => v = .agg #[.map none, .int .i64 0, .int .i64 0, .int .i64 0]
  | 10 => v = .agg #[.int .i64 k1, .int .i64 k2]
  | 11 => v = .bool false
  | 12 => v = .bool true
  | _ => True


section
variable {w : World} {tv : Value}
set_option maxRecDepth 100000 in
set_option maxHeartbeats 2000000 in
theorem Holds_gone (h : TGone w tv) (o : Nat) {k : Key} (hk : KL.dom k) : Calls Try.prog 12 #[tv, .int .u64 (o : Int), kv k] w fun e w' => e = .returned (.int .i64 0) ∧ Gr w w' := by
  have g1 : Gr w (w.alloc (.cells #[.int .i64 k.1, .int .i64 k.2] TKey)) := (Gr.refl w).alloc (Nat.le_refl _) _
  have b6 := (Blk.new w TKey #[.int .i64 k.1, .int .i64 k.2])
  obtain ⟨k1, hk1⟩ : ∃ x, x = k.1 := ⟨_, rfl⟩
  obtain ⟨k2, hk2⟩ : ∃ x, x = k.2 := ⟨_, rfl⟩
  have hkv : kv k = .agg #[.int .i64 k1, .int .i64 k2] := by rw [hk1, hk2]; rfl
  rw [hkv]
  rw [← hk1, ← hk2] at g1 b6
  obtain ⟨W0, hW0⟩ : ∃ W0, W0 = w.alloc (.cells #[.int .i64 k1, .int .i64 k2] TKey) := ⟨_, rfl⟩
  rw [← hW0] at g1 b6
  have HO := Lib.hid (fun W (g : Gr W0 W) => of_gone (h.gr (Gr.trans g1 g)) (o : Int))
  have HA := Lib.hid (fun W (_ : Gr W0 W) => has_any W (h := none) (ks := []) (a := .int .i64 0) (b := .int .i64 0) (m := .int .i64 0) rfl rfl rfl (.inl ⟨rfl, rfl⟩) hk)
  rw [hkv, show decide (k ∈ ([] : List Key)) = false from rfl] at HA
  obtain ⟨kb, hkb⟩ : ∃ kb, kb = w.heap.size := ⟨_, rfl⟩
  rw [← hkb] at b6
  have HB := Lib.hid (fun W (g : Gr W0 W) => b6.gr g)
  have HW := Lib.hid (And.intro hW0 (And.intro hkb g1))
  have x0 := b6.cell 0
  have x1 := b6.cell 1
  simp at x0 x1
  clear h g1 b6 hkv hW0 hkb hk1 hk2
  go_enter Try.func12, Try.ntmps12
  go_upto_region 1 with fail
  rw [show (w.alloc (.cells #[.int .i64 k1, .int .i64 k2] 29)) = W0 from HW.out.1.symm, ← HW.out.2.1]
  refine Flow.region (SlHoldsG tv kb o k1 k2) (Gr W0) (fun _ _ => True) (by kernel_rfl) (by kernel_rfl) (fun _ _ _ _ h _ => h) ⟨rfl, rfl, rfl, Nat.le_refl _, fun _ _ => rfl⟩ ?steps ?fin
  case steps =>
    refine Flow.Steps.cons (fun a W hfr hinv hdep K hK => ?_) ?_
    · have s0 : a.tmps.getD 0 undef = tv := hfr.at 0 (by kernel_rfl)
      have t0 : a.tmps[0]?.getD undef = tv := by simpa using s0
      rw [if_pos (Flow.wanted_none rfl)]
      clear hfr hdep
      go_simp
      exact hK _ _ True.intro hinv (fun d hd => by cases hd; trivial)
    refine Flow.Steps.cons (fun a W hfr hinv hdep K hK => ?_) ?_
    · have s1 : a.tmps.getD 1 undef = .int .u64 (o : Int) := hfr.at 1 (by kernel_rfl)
      have t1 : a.tmps[1]?.getD undef = .int .u64 (o : Int) := by simpa using s1
      rw [if_pos (Flow.wanted_none rfl)]
      clear hfr hdep
      go_simp
      exact hK _ _ True.intro hinv (fun d hd => by cases hd; trivial)
    refine Flow.Steps.cons (fun a W hfr hinv hdep K hK => ?_) ?_
    · have s7 : a.tmps.getD 7 undef = tv := hdep 7 (by kernel_rfl)
      have t7 : a.tmps[7]?.getD undef = tv := by simpa using s7
      have s8 : a.tmps.getD 8 undef = .int .u64 (o : Int) := hdep 8 (by kernel_rfl)
      have t8 : a.tmps[8]?.getD undef = .int .u64 (o : Int) := by simpa using s8
      rw [if_pos (Flow.wanted_none rfl)]
      clear hfr hdep
      go_simp
      refine (HO.out W hinv).mono ?_
      rintro e W' ⟨rfl, g1⟩
      exact hK _ _ True.intro (Gr.trans hinv g1) (fun d hd => by cases hd; trivial)
    refine Flow.Steps.cons (fun a W hfr hinv hdep K hK => ?_) ?_
    · have s5 : a.tmps.getD 5 undef = .pointer (some ⟨kb, 0, none⟩) := hfr.at 5 (by kernel_rfl)
      have t5 : a.tmps[5]?.getD undef = .pointer (some ⟨kb, 0, none⟩) := by simpa using s5
      have kc := (HB.out W hinv).cell 0; have kd := (HB.out W hinv).cell 1; simp at kc kd
      rw [if_pos (Flow.wanted_none rfl)]
      clear hfr hdep
      go_simp
      exact hK _ _ True.intro hinv (fun d hd => by cases hd; trivial)
    refine Flow.Steps.cons (fun a W hfr hinv hdep K hK => ?_) ?_
    · have s9 : a.tmps.getD 9 undef = .agg #[.map none, .int .i64 0, .int .i64 0, .int .i64 0] := hdep 9 (by kernel_rfl)
      have t9 : a.tmps[9]?.getD undef = .agg #[.map none, .int .i64 0, .int .i64 0, .int .i64 0] := by simpa using s9
      have s10 : a.tmps.getD 10 undef = .agg #[.int .i64 k1, .int .i64 k2] := hdep 10 (by kernel_rfl)
      have t10 : a.tmps[10]?.getD undef = .agg #[.int .i64 k1, .int .i64 k2] := by simpa using s10
      rw [if_pos (Flow.wanted_none rfl)]
      clear hfr hdep
      go_simp
      refine (HA.out W hinv).mono ?_
      rintro e W' ⟨rfl, g1⟩
      exact hK _ _ True.intro (Gr.trans hinv g1) (fun d hd => by cases hd; trivial)
    refine Flow.Steps.cons (fun a W hfr hinv hdep K hK => ?_) ?_
    · have s11 : a.tmps.getD 11 undef = .bool false := hdep 11 (by kernel_rfl)
      have t11 : a.tmps[11]?.getD undef = .bool false := by simpa using s11
      rw [if_pos (Flow.wanted_none rfl)]
      clear hfr hdep
      go_simp
      exact hK _ _ True.intro hinv (fun d hd => by cases hd; trivial)
    exact True.intro
  case fin =>
    intro a W hfr hfin hsl
    have s12 : a.tmps.getD 12 undef = .bool true := hsl 5 _ 12 rfl rfl
    have t12 : a.tmps[12]?.getD undef = .bool true := by simpa using s12
    have e := Flow.frame hfr [7, 8, 9, 10, 11, 12] (List.range 22) (by kernel_rfl) (by kernel_rfl)
    simp [List.range, List.range.loop] at e
    rw [t12] at e
    rw [e]
    clear e hfr hsl s12 t12
    rename_i K2 hK2
    refine hK2 _ _ ?_
    have HG := Lib.hid hfin
    clear hfin
    go_wp2_with fail
    go_ret
    exact ⟨rfl, Gr.trans HW.out.2.2 HG.out⟩
end
end Go.Proofs.Ytgpaikaccipfjaa
