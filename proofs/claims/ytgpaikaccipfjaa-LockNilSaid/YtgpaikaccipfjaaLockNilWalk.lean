
/-
  The law LockNil, walked.
-/
import Derived.Test.YtgpaikaccipfjaaLk37
import Derived.Test.YtgpaikaccipfjaaLk39
import Derived.Test.YtgpaikaccipfjaaLk32
namespace Go.Proofs.Ytgpaikaccipfjaa
open Go.RowKit Go.Maps

set_option maxRecDepth 100000 in
set_option maxHeartbeats 4000000 in
theorem lockNil_walk (w : World) : Calls Try.prog 4 #[] w fun e w' => e = .returned (.bool true) ∧ Gr w w' := by
  go_enter Try.func4, Try.ntmps4
  go_wp2_with fail
  refine (New_any w).mono ?_
  rintro e W1 ⟨t, km, om, B, rfl, t1, g1, f1⟩
  have H1 := Lib.hid (And.intro t1 (And.intro g1 f1))
  clear t1 g1 f1
  have h7 : Hid (∀ {W : World} {B : Tag → Option Nat}, TbAt W t km om B Tb.new → Calls Try.prog 10 #[.pointer (some ⟨t, 0, none⟩), .int .u64 1, .agg #[.int .i64 0, .int .i64 0], .int .i64 0] W (RetAsk t km om B (2, Tb.new) W)) := Lib.hid fun h => ask_bad h (o := 1) (k := ((0 : Int), (0 : Int))) (m := 0) (R := false) (by decide) (by decide)
  have h8 : Hid (∀ {W : World} {B : Tag → Option Nat}, TbAt W t km om B Tb.new → Calls Try.prog 10 #[.pointer (some ⟨t, 0, none⟩), .int .u64 1, .agg #[.int .i64 0, .int .i64 0], .int .i64 3] W (RetAsk t km om B (2, Tb.new) W)) := Lib.hid fun h => ask_bad h (o := 1) (k := ((0 : Int), (0 : Int))) (m := 3) (R := false) (by decide) (by decide)
  go_wp2_with fail
  refine (h7.out H1.out.1).mono ?_
  rintro e W2 ⟨B2, rfl, t2, n2⟩
  have H2 := Lib.hid (And.intro t2 (n2.from0 H1.out.2.1 H1.out.2.2))
  clear t2 n2 H1
  go_wp2_with fail
  refine (num_any W2 2).mono ?_
  rintro e W2' ⟨rfl, rfl⟩
  go_wp2_with fail
  refine (h8.out H2.out.1).mono ?_
  rintro e W3 ⟨B3, rfl, t3, n3⟩
  have H3 := Lib.hid (And.intro t3 (n3.from0 H2.out.2.1 H2.out.2.2))
  clear t3 n3 H2
  go_wp2_with fail
  refine (num_any W3 2).mono ?_
  rintro e W3' ⟨rfl, rfl⟩
  go_wp2_with fail
  refine (Len_any H3.out.1).mono ?_
  rintro e W3' ⟨rfl, rfl⟩
  have hmany : Tb.new.many = 0 := rfl
  rw [hmany]
  clear hmany
  go_wp2_with fail
  obtain ⟨T4, hT4, hF⟩ := free_alone H3.out.1 (alone_new 7) (by omega) (show KO.dom 7 from by show 7 ≤ _; omega)
  have HF : Hid (Calls Try.prog 9 #[.pointer (some ⟨t, 0, none⟩), .int .u64 7] W3 (RetFree t km om B3 T4 [] W3)) := Lib.hid hF
  clear hF hT4
  refine HF.out.mono ?_
  rintro e W4 ⟨v, B4, rfl, hu, t4, n4, -⟩
  obtain ⟨p, c, hv⟩ := hu.form
  subst hv
  have H4 := Lib.hid (n4.from0 H3.out.2.1 H3.out.2.2)
  clear hu t4 n4 H3 HF
  rw [show (([] : List Nat).length) = 0 from rfl]
  go_wp2_with fail
  refine (nothing_gone W4 (.pointer none) (.inl rfl)).mono ?_
  rintro e W5 ⟨rfl, g5⟩
  have H5 := Lib.hid (Gr.trans H4.out.1 g5)
  clear g5 H4
  go_wp2_with fail
  obtain ⟨W6, hW6⟩ : ∃ W6, W6 = W5.alloc (.cells #[.map none, .map none, .int .i64 0] TTb) := ⟨_, rfl⟩
  have H6 := Lib.hid (show Gr w W6 ∧ TGone W6 (.pointer (some ⟨W5.heap.size, 0, none⟩)) by
    rw [hW6]
    exact ⟨H5.out.alloc H5.out.size _, .inr ⟨_, rfl, Blk.new _ _ _⟩⟩)
  rw [show (W5.alloc (.cells #[.map none, .map none, .int .i64 0] 48)) = W6 from hW6.symm]
  refine (nothing_gone W6 _ H6.out.2).mono ?_
  rintro e W7 ⟨rfl, g7⟩
  have H7 := Lib.hid (Gr.trans H6.out.1 g7)
  clear g7 H6 hW6 H5
  go_wp2_with fail
  refine (known10_any W7).mono ?_
  rintro e W8 ⟨rfl, g8⟩
  have H8 := Lib.hid (Gr.trans H7.out g8)
  clear g8 H7
  go_wp2_with fail
  go_ret
  exact ⟨rfl, H8.out⟩
end Go.Proofs.Ytgpaikaccipfjaa
