
import Derived.Test.YtanajjfcnedaiaaMaOf
import Derived.Test.YtanajjfcnedaiaaKnown4
namespace Go.Proofs.Ytanajjfcnedaiaa
open Go.RowKit Cr

set_option maxRecDepth 100000 in
set_option maxHeartbeats 4000000 in
theorem superReads_walk (xs : List Int) (w : World) (hx : IsSec xs) : Calls Try.prog 6 #[.agg (sec (Sx xs))] w (RetB true w) := by
  have H1 := Lib.hid (fun W => of_any xs W hx)
  have H2 := Lib.hid (fun W => refOf_any xs W hx)
  have H3 := Lib.hid (fun W => masterOf_any xs W hx)
  have H4 := Lib.hid (fun W => refMasterOf_any xs W hx)
  unfold RetOf at H1 H2
  unfold RetMa at H3 H4
  obtain ⟨A, eA⟩ : ∃ x, x = lyOk xs := ⟨_, rfl⟩
  obtain ⟨B, eB⟩ : ∃ x, x = maOk xs := ⟨_, rfl⟩
  rw [← eA] at H1 H2
  rw [← eB] at H3 H4
  obtain ⟨a0, e0⟩ : ∃ x, x = only A (lyN xs) := ⟨_, rfl⟩
  obtain ⟨a1, e1⟩ : ∃ x, x = only A (logOf (lyN xs)) := ⟨_, rfl⟩
  obtain ⟨a2, e2⟩ : ∃ x, x = only A (grpOf (lyN xs)) := ⟨_, rfl⟩
  obtain ⟨b0, e3⟩ : ∃ x, x = onlyN B (maE xs) := ⟨_, rfl⟩
  obtain ⟨b1, e4⟩ : ∃ x, x = onlyN B (maS xs) := ⟨_, rfl⟩
  obtain ⟨b2, e5⟩ : ∃ x, x = onlyN B (maT xs) := ⟨_, rfl⟩
  rw [← e0, ← e1, ← e2] at H1 H2
  rw [← e3, ← e4, ← e5] at H3 H4
  obtain ⟨S, eS⟩ : ∃ S, S = Sx xs := ⟨_, rfl⟩
  rw [← eS] at H1 H2 H3 H4 ⊢
  have HK := Lib.hid known_any
  have hB := Blk.new w TS (sec S)
  have HB0 := Lib.hid hB
  have HG0 : Hid (Gr w (w.alloc (.cells (sec S) TS))) := Lib.hid ((Gr.refl w).alloc (Nat.le_refl _) _)
  clear hB eA eB e0 e1 e2 e3 e4 e5 eS hx
  go_enter Try.func6, Try.ntmps6
  go_wp2_with (refine wpList_load_x rfl _ rfl HB0.out rfl ?_)
  refine (H1.out _).mono ?_
  rintro e w1 ⟨rfl, g1⟩
  have HB1 := Lib.hid ((HB0.out.below g1 HB0.out.lt).alloc (.cells #[.int .i64 a0, .int .i64 a1, .int .i64 a2] TY))
  have HC1 := Lib.hid (Blk.new w1 TY #[.int .i64 a0, .int .i64 a1, .int .i64 a2])
  have hg1 := Gr.trans HG0.out g1
  have HG1 : Hid (Gr w (w1.alloc (.cells #[.int .i64 a0, .int .i64 a1, .int .i64 a2] TY))) := Lib.hid (hg1.alloc hg1.size _)
  clear g1 hg1 HB0 HG0 H1
  go_wp2_with (refine wpList_load_x rfl _ rfl HB1.out rfl ?_)
  refine (H2.out _).mono ?_
  rintro e w2 ⟨rfl, g2⟩
  have HB2 := Lib.hid ((HB1.out.below g2 HB1.out.lt).alloc (.cells #[.int .i64 a0, .int .i64 a1, .int .i64 a2] TY))
  have HC2 := Lib.hid ((HC1.out.below g2 HC1.out.lt).alloc (.cells #[.int .i64 a0, .int .i64 a1, .int .i64 a2] TY))
  have HD2 := Lib.hid (Blk.new w2 TY #[.int .i64 a0, .int .i64 a1, .int .i64 a2])
  have hg2 := Gr.trans HG1.out g2
  have HG2 : Hid (Gr w (w2.alloc (.cells #[.int .i64 a0, .int .i64 a1, .int .i64 a2] TY))) := Lib.hid (hg2.alloc hg2.size _)
  clear g2 hg2 HB1 HC1 HG1 H2
  go_wp2_with (refine wpList_load_x rfl _ rfl HB2.out rfl ?_)
  refine (H3.out _).mono ?_
  rintro e w3 ⟨rfl, g3⟩
  have HB3 := Lib.hid ((HB2.out.below g3 HB2.out.lt).alloc (.cells #[.int .u64 b0, .int .u64 b1, .int .u64 b2] TMa))
  have HC3 := Lib.hid ((HC2.out.below g3 HC2.out.lt).alloc (.cells #[.int .u64 b0, .int .u64 b1, .int .u64 b2] TMa))
  have HD3 := Lib.hid ((HD2.out.below g3 HD2.out.lt).alloc (.cells #[.int .u64 b0, .int .u64 b1, .int .u64 b2] TMa))
  have HE3 := Lib.hid (Blk.new w3 TMa #[.int .u64 b0, .int .u64 b1, .int .u64 b2])
  have hg3 := Gr.trans HG2.out g3
  have HG3 : Hid (Gr w (w3.alloc (.cells #[.int .u64 b0, .int .u64 b1, .int .u64 b2] TMa))) := Lib.hid (hg3.alloc hg3.size _)
  clear g3 hg3 HB2 HC2 HD2 HG2 H3
  go_wp2_with (refine wpList_load_x rfl _ rfl HB3.out rfl ?_)
  refine (H4.out _).mono ?_
  rintro e w4 ⟨rfl, g4⟩
  have HC4 := Lib.hid (HC3.out.below g4 HC3.out.lt)
  have HD4 := Lib.hid (HD3.out.below g4 HD3.out.lt)
  have HE4 := Lib.hid (HE3.out.below g4 HE3.out.lt)
  have hg4 := Gr.trans HG3.out g4
  have HG4 : Hid (Gr w (w4.alloc (.cells #[.int .u64 b0, .int .u64 b1, .int .u64 b2] TMa))) := Lib.hid (hg4.alloc hg4.size _)
  have n1 := HC4.out.lt
  have n2 := HD4.out.lt
  have n3 := HE4.out.lt
  clear g4 hg4 HB3 HC3 HD3 HE3 HG3 H4
  obtain ⟨⟨c0, c1, c2⟩, _⟩ := HC4.out.c3
  obtain ⟨⟨d0, d1, d2⟩, _⟩ := HD4.out.c3
  obtain ⟨⟨f0, f1, f2⟩, _⟩ := HE4.out.c3
  cases A
  all_goals cases B
  all_goals
    simp only [errB, if_true, Bool.false_eq_true, if_false]
    go_wp2_with (first | (refine (num_any _ _).mono ?_; rintro e w' ⟨rfl, rfl⟩) | (refine (HK.out _).mono ?_; rintro e w5 ⟨rfl, g5⟩))
    go_ret
    exact ⟨rfl, Gr.trans HG4.out g5⟩

end Go.Proofs.Ytanajjfcnedaiaa
