/-
  Texts on locks, put together: Lk32.
-/
import Derived.Test.YtbmcdlcoojmppaaA25
/-
  The law's own on locks: known.
-/
namespace Go.Proofs.Ytbmcdlcoojmppaa
open Go.RowKit Go.Maps

/-- The two tables of known, and the keys beside them. -/
structure KnI (w0 w : World) (b : Nat) (t km om : Nat) (B : Tag → Option Nat) (T : Tb) (u km2 om2 : Nat) (B2 : Tag → Option Nat) (U : Tb) : Prop where
  tt : TbAt w t km om B T
  uu : TbAt w u km2 om2 B2 U
  ap : ∀ n, FB B n → ¬ FB B2 n
  k1 : Blk w b TKey #[.int .i64 1, .int .i64 9]
  k2 : Blk w (b + 1) TKey #[.int .i64 0, .int .i64 0]
  k3 : Blk w (b + 1 + 1) TKey #[.int .i64 0, .int .i64 1]
  ft : ∀ n, FB B n → b + 2 < n
  fu : ∀ n, FB B2 n → b + 2 < n
  gg : Gr w0 w
  ge : w0.heap.size ≤ b
section
variable {w0 w w' : World} {b t km om u km2 om2 : Nat} {B B' B2 : Tag → Option Nat} {T T' U U' : Tb}
theorem KnI.turnT (h : KnI w0 w b t km om B T u km2 om2 B2 U) (r : TbAt w' t km om B' T') (n : Tn w w' B B') : KnI w0 w' b t km om B' T' u km2 om2 B2 U :=
  have e1 := h.k1.lt
  have e3 := h.k3.lt
  have hf : ∀ m, FB B' m → FB B m ∨ w.heap.size ≤ m := fun m ⟨a, ha⟩ => n.new a m ha
  ⟨r, h.uu.stays fun a m hm => n.onl.block m (h.uu.lt a m hm) fun e => h.ap m e ⟨a, hm⟩,
   fun m hm ⟨a, ha⟩ => by rcases hf m hm with e | e; exact h.ap m e ⟨a, ha⟩; have := h.uu.lt a m ha; omega,
   n.blk h.k1 fun e => by have := h.ft _ e; omega, n.blk h.k2 fun e => by have := h.ft _ e; omega, n.blk h.k3 fun e => by have := h.ft _ e; omega,
   fun m hm => by rcases hf m hm with e | e; exact h.ft m e; omega, h.fu,
   ⟨n.onl.os.trans h.gg.os, n.onl.tape.trans h.gg.tape, n.onl.output.trans h.gg.output, Nat.le_trans h.gg.size n.onl.size, fun m hm => (n.onl.block m (Nat.lt_of_lt_of_le hm h.gg.size) fun e => by have := h.ft _ e; have := h.ge; omega).trans (h.gg.block m hm)⟩, h.ge⟩
theorem KnI.flip (h : KnI w0 w b t km om B T u km2 om2 B2 U) : KnI w0 w b u km2 om2 B2 U t km om B T := ⟨h.uu, h.tt, fun m e1 e2 => h.ap m e2 e1, h.k1, h.k2, h.k3, h.fu, h.ft, h.gg, h.ge⟩
theorem KnI.gr (h : KnI w0 w b t km om B T u km2 om2 B2 U) (g : Gr w w') : KnI w0 w' b t km om B T u km2 om2 B2 U := h.turnT (h.tt.gr g) (Tn.of_gr g)
end
set_option maxRecDepth 100000 in
set_option maxHeartbeats 8000000 in
theorem known10_any (w : World) : Calls Try.prog 7 #[] w fun e w' => e = .returned (.bool true) ∧ Gr w w' := by
  have HK : Hid (kv kK = .agg #[.int .i64 1, .int .i64 9] ∧ kv kA = .agg #[.int .i64 0, .int .i64 0] ∧ kv kB = .agg #[.int .i64 0, .int .i64 1]) := Lib.hid ⟨rfl, rfl, rfl⟩
  obtain ⟨b, hb⟩ : ∃ b, b = w.heap.size := ⟨_, rfl⟩
  obtain ⟨W0, hW0⟩ : ∃ W0, W0 = ((w.alloc (.cells #[.int .i64 1, .int .i64 9] TKey)).alloc (.cells #[.int .i64 0, .int .i64 0] TKey)).alloc (.cells #[.int .i64 0, .int .i64 1] TKey) := ⟨_, rfl⟩
  have ga : Gr w (w.alloc (.cells #[.int .i64 1, .int .i64 9] TKey)) := (Gr.refl _).alloc (Nat.le_refl _) _
  have gb : Gr (w.alloc (.cells #[.int .i64 1, .int .i64 9] TKey)) ((w.alloc (.cells #[.int .i64 1, .int .i64 9] TKey)).alloc (.cells #[.int .i64 0, .int .i64 0] TKey)) := (Gr.refl _).alloc (Nat.le_refl _) _
  have gc : Gr ((w.alloc (.cells #[.int .i64 1, .int .i64 9] TKey)).alloc (.cells #[.int .i64 0, .int .i64 0] TKey)) W0 := by rw [hW0]; exact (Gr.refl _).alloc (Nat.le_refl _) _
  have q1 := ((Blk.new w TKey #[.int .i64 1, .int .i64 9]).gr gb).gr gc
  have q2 := (Blk.new (w.alloc (.cells #[.int .i64 1, .int .i64 9] TKey)) TKey #[.int .i64 0, .int .i64 0]).gr gc
  have q3 : Blk W0 (b + 1 + 1) TKey #[.int .i64 0, .int .i64 1] := by
    have := Blk.new ((w.alloc (.cells #[.int .i64 1, .int .i64 9] TKey)).alloc (.cells #[.int .i64 0, .int .i64 0] TKey)) TKey #[.int .i64 0, .int .i64 1]
    rw [← hW0] at this
    simpa [hb] using this
  simp only [World.size_alloc] at q2
  rw [← hb] at q1 q2
  have hsz : W0.heap.size = b + 3 := by rw [hW0, hb]; simp
  have H0 := Lib.hid (And.intro (Gr.trans ga (Gr.trans gb gc)) (And.intro q1 (And.intro q2 (And.intro q3 (And.intro hsz (And.intro hW0 hb))))))
  clear ga gb gc q1 q2 q3 hsz hW0 hb
  go_enter Try.func7, Try.ntmps7
  go_upto_region 2 with fail
  rw [show (((w.alloc (.cells #[.int .i64 1, .int .i64 9] 29)).alloc (.cells #[.int .i64 0, .int .i64 0] 29)).alloc (.cells #[.int .i64 0, .int .i64 1] 29)) = W0 from H0.out.2.2.2.2.2.1.symm, ← H0.out.2.2.2.2.2.2]
  go_wp2_with fail
  refine (New_any W0).mono ?_
  rintro e w1 ⟨t, km, om, B, rfl, r1, g1, f1⟩
  have H1 := Lib.hid (And.intro r1 (And.intro g1 f1))
  clear r1 g1 f1
  go_wp2_with fail
  refine (New_any w1).mono ?_
  rintro e w2 ⟨u, km2, om2, B2, rfl, r2, g2, f2⟩
  have I : KnI w w2 b t km om B Tb.new u km2 om2 B2 Tb.new := by
    obtain ⟨g0, q1, q2, q3, hsz, hW0, hb⟩ := H0.out
    obtain ⟨r1, g1, f1⟩ := H1.out
    have g02 := Gr.trans g1 g2
    have h01 := g1.size
    exact ⟨r1.gr g2, r2, fun n ⟨a, ha⟩ e2 => by have := r1.lt a n ha; have := f2 n e2; omega, q1.gr g02, q2.gr g02, q3.gr g02, fun n e => by have := f1 n e; omega, fun n e => by have := f2 n e; omega, Gr.trans g0 g02, by omega⟩
  clear r2 g2 f2 H1 H0
  have x0 := I.k1.cell 0
  have x1 := I.k1.cell 1
  simp at x0 x1
  have H := Lib.hid I
  clear I
  go_wp2_with fail
  clear x0 x1
  have C := askK1 H.out.tt
  rw [HK.out.1] at C
  refine C.mono ?_
  rintro e w3 ⟨Bn, rfl, r, n⟩
  have I := H.out.turnT r n
  clear r n
  clear H C
  have H := Lib.hid I
  clear I
  go_wp2_with fail
  refine (num_any _ _).mono ?_
  rintro e w0 ⟨rfl, rfl⟩
  have I := H.out
  clear H
  have x0 := I.k1.cell 0
  have x1 := I.k1.cell 1
  simp at x0 x1
  have H := Lib.hid I
  clear I
  go_wp2_with fail
  clear x0 x1
  have C := askK2 H.out.tt
  rw [HK.out.1] at C
  refine C.mono ?_
  rintro e w4 ⟨Bn, rfl, r, n⟩
  have I := H.out.turnT r n
  clear r n
  clear H C
  have H := Lib.hid I
  clear I
  go_wp2_with fail
  refine (num_any _ _).mono ?_
  rintro e w0 ⟨rfl, rfl⟩
  have I := H.out
  clear H
  have x0 := I.k1.cell 0
  have x1 := I.k1.cell 1
  simp at x0 x1
  have H := Lib.hid I
  clear I
  go_wp2_with fail
  clear x0 x1
  have C := askK3 H.out.tt
  rw [HK.out.1] at C
  refine C.mono ?_
  rintro e w5 ⟨Bn, rfl, r, n⟩
  have I := H.out.turnT r n
  clear r n
  clear H C
  have H := Lib.hid I
  clear I
  go_wp2_with fail
  refine (num_any _ _).mono ?_
  rintro e w0 ⟨rfl, rfl⟩
  have I := H.out
  clear H
  have x0 := I.k1.cell 0
  have x1 := I.k1.cell 1
  simp at x0 x1
  have H := Lib.hid I
  clear I
  go_wp2_with fail
  clear x0 x1
  have C := askK4 H.out.tt
  rw [HK.out.1] at C
  refine C.mono ?_
  rintro e w6 ⟨Bn, rfl, r, n⟩
  have I := H.out.turnT r n
  clear r n
  clear H C
  have H := Lib.hid I
  clear I
  go_wp2_with fail
  refine (num_any _ _).mono ?_
  rintro e w0 ⟨rfl, rfl⟩
  have I := H.out
  clear H
  have x0 := I.k1.cell 0
  have x1 := I.k1.cell 1
  simp at x0 x1
  have H := Lib.hid I
  clear I
  go_wp2_with fail
  clear x0 x1
  have C := askK5 H.out.tt
  rw [HK.out.1] at C
  refine C.mono ?_
  rintro e w7 ⟨Bn, rfl, r, n⟩
  have I := H.out.turnT r n
  clear r n
  clear H C
  have H := Lib.hid I
  clear I
  go_wp2_with fail
  refine (num_any _ _).mono ?_
  rintro e w0 ⟨rfl, rfl⟩
  have I := H.out
  clear H
  have x0 := I.k1.cell 0
  have x1 := I.k1.cell 1
  simp at x0 x1
  have H := Lib.hid I
  clear I
  go_wp2_with fail
  clear x0 x1
  have C := freeK1 H.out.tt
  refine C.mono ?_
  rintro e w8 ⟨v, Bn, rfl, r, r2, n, n2⟩
  have I := H.out.turnT r2 n
  have Hr := Lib.hid r
  clear r r2 n n2
  clear H C
  have H := Lib.hid I
  clear I
  go_wp2_with fail
  refine (same10_any (xs := [1]) (ys := [1]) ?_ ?_ (by decide) (by decide)).mono ?_
  · exact (Hr.out.gr ((Gr.refl _).alloc (Nat.le_refl _) _)).usl
  · exact USl.one _ 1 _
  rintro e w9 ⟨rfl, g⟩
  have I := (H.out.gr ((Gr.refl _).alloc (Nat.le_refl _) _)).gr g
  clear H Hr g
  have x0 := I.k1.cell 0
  have x1 := I.k1.cell 1
  simp at x0 x1
  have H := Lib.hid I
  clear I
  go_wp2_with fail
  clear x0 x1
  have C := lineK H.out.tt
  rw [HK.out.1] at C
  refine C.mono ?_
  rintro e w10 ⟨v, rfl, r, g⟩
  have I := H.out.gr g
  have Hr := Lib.hid r
  clear r g
  clear H C
  have H := Lib.hid I
  clear I
  go_wp2_with fail
  refine (same10_any (xs := [3]) (ys := [3]) ?_ ?_ (by decide) (by decide)).mono ?_
  · exact (Hr.out.gr ((Gr.refl _).alloc (Nat.le_refl _) _)).usl
  · exact USl.one _ 3 _
  rintro e w11 ⟨rfl, g⟩
  have I := (H.out.gr ((Gr.refl _).alloc (Nat.le_refl _) _)).gr g
  clear H Hr g
  have x0 := I.k1.cell 0
  have x1 := I.k1.cell 1
  simp at x0 x1
  have H := Lib.hid I
  clear I
  go_wp2_with fail
  clear x0 x1
  have C := holdK H.out.tt
  rw [HK.out.1] at C
  refine C.mono ?_
  rintro e w12 ⟨rfl, g⟩
  have I := H.out.gr g
  clear g
  clear H C
  have x0 := I.k1.cell 0
  have x1 := I.k1.cell 1
  simp at x0 x1
  have H := Lib.hid I
  clear I
  go_wp2_with fail
  clear x0 x1
  have C := freeK2 H.out.tt
  refine C.mono ?_
  rintro e w13 ⟨v, Bn, rfl, r, r2, n, n2⟩
  have I := H.out.turnT r2 n
  have Hr := Lib.hid r
  clear r r2 n n2
  clear H C
  have H := Lib.hid I
  clear I
  go_wp2_with fail
  refine (same10_any (xs := [3]) (ys := [3]) ?_ ?_ (by decide) (by decide)).mono ?_
  · exact (Hr.out.gr ((Gr.refl _).alloc (Nat.le_refl _) _)).usl
  · exact USl.one _ 3 _
  rintro e w14 ⟨rfl, g⟩
  have I := (H.out.gr ((Gr.refl _).alloc (Nat.le_refl _) _)).gr g
  clear H Hr g
  have x0 := I.k2.cell 0
  have x1 := I.k2.cell 1
  have x2 := I.k3.cell 0
  have x3 := I.k3.cell 1
  simp at x0 x1 x2 x3
  have H := Lib.hid I
  clear I
  go_wp2_with fail
  clear x0 x1 x2 x3
  have C := askU1 H.out.uu
  rw [HK.out.2.1] at C
  refine C.mono ?_
  rintro e w15 ⟨Bn, rfl, r, n⟩
  have I := (H.out.flip.turnT r n).flip
  clear r n
  clear H C
  have H := Lib.hid I
  clear I
  go_wp2_with fail
  refine (num_any _ _).mono ?_
  rintro e w0 ⟨rfl, rfl⟩
  have I := H.out
  clear H
  have x0 := I.k2.cell 0
  have x1 := I.k2.cell 1
  have x2 := I.k3.cell 0
  have x3 := I.k3.cell 1
  simp at x0 x1 x2 x3
  have H := Lib.hid I
  clear I
  go_wp2_with fail
  clear x0 x1 x2 x3
  have C := askU2 H.out.uu
  rw [HK.out.2.2] at C
  refine C.mono ?_
  rintro e w16 ⟨Bn, rfl, r, n⟩
  have I := (H.out.flip.turnT r n).flip
  clear r n
  clear H C
  have H := Lib.hid I
  clear I
  go_wp2_with fail
  refine (num_any _ _).mono ?_
  rintro e w0 ⟨rfl, rfl⟩
  have I := H.out
  clear H
  have x0 := I.k2.cell 0
  have x1 := I.k2.cell 1
  have x2 := I.k3.cell 0
  have x3 := I.k3.cell 1
  simp at x0 x1 x2 x3
  have H := Lib.hid I
  clear I
  go_wp2_with fail
  clear x0 x1 x2 x3
  have C := askU3 H.out.uu
  rw [HK.out.2.2] at C
  refine C.mono ?_
  rintro e w17 ⟨Bn, rfl, r, n⟩
  have I := (H.out.flip.turnT r n).flip
  clear r n
  clear H C
  have H := Lib.hid I
  clear I
  go_wp2_with fail
  refine (num_any _ _).mono ?_
  rintro e w0 ⟨rfl, rfl⟩
  have I := H.out
  clear H
  have x0 := I.k2.cell 0
  have x1 := I.k2.cell 1
  have x2 := I.k3.cell 0
  have x3 := I.k3.cell 1
  simp at x0 x1 x2 x3
  have H := Lib.hid I
  clear I
  go_wp2_with fail
  clear x0 x1 x2 x3
  have C := askU4 H.out.uu
  rw [HK.out.2.1] at C
  refine C.mono ?_
  rintro e w18 ⟨Bn, rfl, r, n⟩
  have I := (H.out.flip.turnT r n).flip
  clear r n
  clear H C
  have H := Lib.hid I
  clear I
  go_wp2_with fail
  refine (num_any _ _).mono ?_
  rintro e w0 ⟨rfl, rfl⟩
  have I := H.out
  clear H
  have H := Lib.hid I
  clear I
  go_wp2_with fail
  go_ret
  exact ⟨rfl, H.out.gg⟩
end Go.Proofs.Ytbmcdlcoojmppaa

