
/-
  The code's table of locks: a nil or zero table.
-/
import Derived.Test.YtgpaikaccipfjaaLk32
namespace Go.Proofs.Ytgpaikaccipfjaa
open Go.RowKit Go.Maps

/-- A nil table, or a zero one. -/
def TGone (w : World) (v : Value) : Prop := v = .pointer none ∨ ∃ z, v = .pointer (some ⟨z, 0, none⟩) ∧ Blk w z TTb #[.map none, .map none, .int .i64 0]
section
variable {w w' : World} {v : Value}
theorem TGone.gr (h : TGone w v) (g : Gr w w') : TGone w' v := by
  rcases h with h | ⟨z, h, hb⟩
  · exact .inl h
  · exact .inr ⟨z, h, hb.gr g⟩
set_option maxRecDepth 100000 in
theorem missing_gone10 (h : TGone w v) : Calls Try.prog 22 #[v] w fun e w' => e = .returned (.bool true) ∧ w = w' := by
  rcases h with rfl | ⟨z, rfl, hb⟩
  · go_enter Try.func22, Try.ntmps22
    go_wp2
    go_ret
    exact ⟨rfl, rfl⟩
  · have c0 := hb.cell 0
    simp at c0
    have he : (binOp .eql TMk (.map none) (.map none)).run Try.prog w = .ok (.bool true) w := by
      unfold binOp
      rfl
    go_enter Try.func22, Try.ntmps22
    go_wp2_with fail
    go_ret
    exact ⟨rfl, rfl⟩
theorem Len_gone (h : TGone w v) : Calls Try.prog 16 #[v] w fun e w' => e = .returned (.int .i64 0) ∧ w = w' := by
  have HM := Lib.hid (missing_gone10 h)
  clear h
  go_enter Try.func16, Try.ntmps16
  go_wp2_with fail
  refine HM.out.mono ?_
  rintro e w' ⟨rfl, rfl⟩
  go_wp2_with fail
  go_ret
  exact ⟨rfl, rfl⟩
theorem Copy_gone10 (h : TGone w v) : Calls Try.prog 34 #[v] w fun e w' => e = .returned (.pointer none) ∧ w = w' := by
  have HM := Lib.hid (missing_gone10 h)
  clear h
  go_enter Try.func34, Try.ntmps34
  go_wp2_with fail
  refine HM.out.mono ?_
  rintro e w' ⟨rfl, rfl⟩
  go_wp2_with fail
  go_ret
  exact ⟨rfl, rfl⟩
theorem Free_gone (h : TGone w v) (o : Int) : Calls Try.prog 9 #[v, .int .u64 o] w fun e w' => e = .returned (.slice none 0 0) ∧ w = w' := by
  have HM := Lib.hid (missing_gone10 h)
  clear h
  go_enter Try.func9, Try.ntmps9
  go_wp2_with fail
  refine HM.out.mono ?_
  rintro e w' ⟨rfl, rfl⟩
  go_wp2_with fail
  go_ret
  exact ⟨rfl, rfl⟩
theorem Ask_gone (h : TGone w v) (o k1 k2 m : Int) : Calls Try.prog 10 #[v, .int .u64 o, .agg #[.int .i64 k1, .int .i64 k2], .int .i64 m] w fun e w' => e = .returned (.int .i64 1) ∧ Gr w w' := by
  have g1 : Gr w (w.alloc (.cells #[.int .i64 k1, .int .i64 k2] TKey)) := (Gr.refl w).alloc (Nat.le_refl _) _
  have HM := Lib.hid (missing_gone10 (h.gr g1))
  have HG := Lib.hid g1
  clear h g1
  go_enter Try.func10, Try.ntmps10
  go_wp2_with fail
  refine HM.out.mono ?_
  rintro e w' ⟨rfl, rfl⟩
  go_wp2_with fail
  go_ret
  exact ⟨rfl, HG.out⟩
set_option maxRecDepth 100000 in
theorem of_gone (h : TGone w v) (o : Int) : Calls Try.prog 25 #[v, .int .u64 o] w fun e w' => e = .returned (.agg #[.map none, .int .i64 0, .int .i64 0, .int .i64 0]) ∧ Gr w w' := by
  have g1 : Gr w (w.alloc (.cells #[.map none, .int .i64 0, .int .i64 0, .int .i64 0] TPy)) := (Gr.refl w).alloc (Nat.le_refl _) _
  have HB := Lib.hid (Blk.new w TPy #[.map none, .int .i64 0, .int .i64 0, .int .i64 0])
  have HM := Lib.hid (missing_gone10 (h.gr g1))
  have HG := Lib.hid g1
  clear h g1
  go_enter Try.func25, Try.ntmps25
  go_wp2_with fail
  refine HM.out.mono ?_
  rintro e w2 ⟨rfl, rfl⟩
  go_wp2_with fail
  exact bodyPost_ret (results_py rfl _ _ w.heap.size rfl HB.out) rfl ⟨rfl, HG.out⟩
set_option maxRecDepth 100000 in
theorem For_gone (h : TGone w v) (o : Int) : Calls Try.prog 14 #[v, .int .u64 o] w fun e w' => e = .returned (.slice none 0 0) ∧ Gr w w' := by
  have HO := Lib.hid (of_gone h o)
  clear h
  go_enter Try.func14, Try.ntmps14
  go_wp2_with fail
  refine HO.out.mono ?_
  rintro e w2 ⟨rfl, g2⟩
  have HG := Lib.hid (show Gr w (w2.alloc (.cells #[.map none, .int .i64 0, .int .i64 0, .int .i64 0] TPy)) from g2.alloc g2.size _)
  clear g2
  go_wp2_with fail
  go_ret
  exact ⟨rfl, HG.out⟩
set_option maxRecDepth 100000 in
theorem Line_gone (h : TGone w v) (k1 k2 : Int) : Calls Try.prog 20 #[v, .agg #[.int .i64 k1, .int .i64 k2]] w fun e w' => e = .returned (.slice none 0 0) ∧ Gr w w' := by
  have g1 : Gr w (w.alloc (.cells #[.int .i64 k1, .int .i64 k2] TKey)) := (Gr.refl w).alloc (Nat.le_refl _) _
  obtain ⟨W0, hW0⟩ : ∃ W0, W0 = w.alloc (.cells #[.int .i64 k1, .int .i64 k2] TKey) := ⟨_, rfl⟩
  rw [← hW0] at g1
  have HM := Lib.hid (fun q => missing_gone10 (h.gr (grD (q := q) g1)))
  have HG := Lib.hid g1
  have HW := Lib.hid hW0
  clear h g1 hW0
  go_enter Try.func20, Try.ntmps20
  go_upto_region 1 with fail
  rw [show (w.alloc (.cells #[.int .i64 k1, .int .i64 k2] 29)) = W0 from HW.out.symm]
  go_quiet (exact Calls.quiet_of ((HM.out _).mono fun _ _ h => ⟨h.1, 0, h.2.symm⟩))
  go_wp2_with fail
  go_ret
  exact ⟨rfl, grD HG.out⟩
end
end Go.Proofs.Ytgpaikaccipfjaa
