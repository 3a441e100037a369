/-
  Texts on locks, put together: Lk29 Lk30 Lk31 Lk32 Lk33 Lk34 Lk35 Lk51 LkRing.
-/
import Derived.Test.YtadopbpfnnpnaaaGreatL16
import Derived.Test.YtadopbpfnnpnaaaGreatL24
import Derived.Test.YtadopbpfnnpnaaaGreatL27
import Derived.Test.YtadopbpfnnpnaaaGreatL37
set_option linter.unusedVariables false
set_option linter.unusedSimpArgs false
/-
  The law's own on locks: the chapter's rows, as the mathematics has them.
-/
namespace Go.Proofs.YtadopbpfnnpnaaaGreat
open Go.RowKit Go.Maps

def kK : Key := (1, 9)
def kA : Key := (0, 0)
def kB : Key := (0, 1)
def tK1 : Tb := Tb.new.give 1 kK 1
def tK2 : Tb := tK1.give 2 kK 1
def tK3 : Tb := tK2.stand 1 kK 2
def tK4 : Tb := tK3.stand 3 kK 1
theorem kk1 : Tb.new.ask 1 kK 1 false = (0, tK1) := rfl
theorem kk2 : tK1.ask 2 kK 1 false = (0, tK2) := rfl
theorem kk3 : tK2.ask 1 kK 2 false = (9, tK3) := rfl
theorem kk4 : tK3.ask 3 kK 1 false = (9, tK4) := rfl
theorem kk5 : tK4.ask 2 kK 2 true = (10, tK4) := rfl
theorem domK : KL.dom kK := ⟨⟨by decide, by decide⟩, ⟨by decide, by decide⟩⟩
theorem domA : KL.dom kA := ⟨⟨by decide, by decide⟩, ⟨by decide, by decide⟩⟩
theorem domB : KL.dom kB := ⟨⟨by decide, by decide⟩, ⟨by decide, by decide⟩⟩
theorem dom1 : KO.dom 1 := by show 1 ≤ 18446744073709551615; decide
theorem dom2 : KO.dom 2 := by show 2 ≤ 18446744073709551615; decide
theorem dom3 : KO.dom 3 := by show 3 ≤ 18446744073709551615; decide
theorem okK1 : tK1.Ok := give_ok new_ok (by decide)
theorem okK2 : tK2.Ok := give_ok okK1 (by decide)
theorem okK3 : tK3.Ok := stand_ok okK2 domK rfl (by decide)
theorem okK4 : tK4.Ok := stand_ok okK3 domK rfl (by decide)
section
variable {w : World} {t km om : Nat} {B : Tag → Option Nat}
theorem askK1 (h : TbAt w t km om B Tb.new) : Calls Tryz.prog 12 #[.pointer (some ⟨t, 0, none⟩), .int .u64 1, kv kK, .int .i64 1] w (RetAsk t km om B (0, tK1) w) :=
  kk1 ▸ ask_1 h new_ok dom1 domK (R := false) (fun e => by cases e) (by decide) (by decide) (by decide) (by decide) (by decide) (by decide)
theorem askK2 (h : TbAt w t km om B tK1) : Calls Tryz.prog 12 #[.pointer (some ⟨t, 0, none⟩), .int .u64 2, kv kK, .int .i64 1] w (RetAsk t km om B (0, tK2) w) :=
  kk2 ▸ ask_1 h okK1 dom2 domK (R := false) (fun e => by cases e) (by decide) (by decide) (by decide) (by decide) (by decide) (by decide)
theorem askK3 (h : TbAt w t km om B tK2) : Calls Tryz.prog 12 #[.pointer (some ⟨t, 0, none⟩), .int .u64 1, kv kK, .int .i64 2] w (RetAsk t km om B (9, tK3) w) :=
  kk3 ▸ ask_2 h okK2 dom1 domK (R := false) (fun _ W g => ring_no (h.gr g) okK2 dom1 kK rfl) (by decide) (by decide) (by decide) (by decide) (by decide) (by decide)
theorem askK4 (h : TbAt w t km om B tK3) : Calls Tryz.prog 12 #[.pointer (some ⟨t, 0, none⟩), .int .u64 3, kv kK, .int .i64 1] w (RetAsk t km om B (9, tK4) w) :=
  kk4 ▸ ask_1 h okK3 dom3 domK (R := false) (fun _ W g => ring_no (h.gr g) okK3 dom3 kK rfl) (by decide) (by decide) (by decide) (by decide) (by decide) (by decide)
theorem askK5 (h : TbAt w t km om B tK4) : Calls Tryz.prog 12 #[.pointer (some ⟨t, 0, none⟩), .int .u64 2, kv kK, .int .i64 2] w (RetAsk t km om B (10, tK4) w) :=
  kk5 ▸ ask_2 h okK4 dom2 domK (R := true) (fun _ W g => ring_flat (h.gr g) okK4 dom2 domK (l := tK4.lkOf kK) rfl rfl (by decide)) (by decide) (by decide) (by decide) (by decide) (by decide) (by decide)
end
end Go.Proofs.YtadopbpfnnpnaaaGreat

/-
  The law's own on locks: the chapter's rows, as the mathematics has them: who comes.
-/
namespace Go.Proofs.YtadopbpfnnpnaaaGreat
open Go.RowKit Go.Maps

section
variable {w : World} {t km om : Nat} {B : Tag → Option Nat} {T : Tb}
theorem RetLeave.lv {o : Nat} {ks : List Key} (hks : sortK (T.of o).ks = ks) {e : Ending} {w' : World} (h : RetLeave t km om B T o w e w') : RetLv t km om B (T.left o) ks w e w' := by
  obtain ⟨v, B', r1, r2, r3, r4, r5⟩ := h
  rw [hks] at r2
  exact ⟨v, B', r1, r2, r3, r4, fun g hg hf => by have := (World.ownsRow.lt r2 g hg).1; have := r5 g hf; omega⟩
def tK5 : Tb := { tK4.off 2 [kK] with many := tK4.many - ((tK4.of 2).ks.length : Int), py := updF tK4.py 2 none, oo := delK 2 tK4.oo }
theorem leftK : tK4.left 2 = tK5 := by
  unfold Tb.left tK5
  rw [show (tK4.of 2).ks = [kK] from rfl, sortK_one]
def tK6 : Tb := tK5.nextT kK
theorem ngK5 : tK5.NG [kK] := by
  refine ⟨domK, rfl, fun n hn => ?_, trivial⟩
  have hn2 : n ≤ 2 := hn
  match n, hn2 with
  | 0, _ => exact ⟨by decide, by decide, by decide, by decide, by decide, by decide, fun o m r e => by
      have e' : [((1 : Nat), (2 : Int)), (3, 1)] = (o, m) :: r := e
      cases e'
      exact ⟨dom1, rfl, by decide⟩⟩
  | 1, _ => exact ⟨by decide, by decide, by decide, by decide, by decide, by decide, fun o m r e => by
      have e' : [((3 : Nat), (1 : Int))] = (o, m) :: r := e
      cases e'
      exact ⟨dom3, rfl, by decide⟩⟩
  | 2, _ => exact ⟨by decide, by decide, by decide, by decide, by decide, by decide, fun o m r e => by
      have e' : [((3 : Nat), (1 : Int))] = (o, m) :: r := e
      cases e'
      exact ⟨dom3, rfl, by decide⟩⟩
/-- Free of the second owner: the first one comes. -/
theorem freeK1 (h : TbAt w t km om B tK4) : Calls Tryz.prog 14 #[.pointer (some ⟨t, 0, none⟩), .int .u64 2] w (RetFree t km om B tK6 [1] w) :=
  Free_any (o := 2) (T1 := tK5) (ks := [kK]) h ((leave_any h okK4 dom2 rfl (by decide) (by decide)).mono fun e w' r => leftK ▸ RetLeave.lv (show sortK (tK4.of 2).ks = [kK] from sortK_one kK) r) ngK5 (by decide) (by decide)
theorem okK5 : tK5.Ok := leftK ▸ left_ok okK4 2
theorem okK6 : tK6.Ok := nextT_ok okK5 ngK5.2.2.1
def tK7 : Tb := { tK6.off 1 [kK] with many := tK6.many - ((tK6.of 1).ks.length : Int), py := updF tK6.py 1 none, oo := delK 1 tK6.oo }
theorem leftK6 : tK6.left 1 = tK7 := by
  unfold Tb.left tK7
  rw [show (tK6.of 1).ks = [kK] from rfl, sortK_one]
theorem ngK7 : tK7.NG [kK] := by
  refine ⟨domK, rfl, fun n hn => ?_, trivial⟩
  have hn2 : n ≤ 1 := hn
  match n, hn2 with
  | 0, _ => exact ⟨by decide, by decide, by decide, by decide, by decide, by decide, fun o m r e => by
      have e' : [((3 : Nat), (1 : Int))] = (o, m) :: r := e
      cases e'
      exact ⟨dom3, rfl, by decide⟩⟩
  | 1, _ => exact ⟨by decide, by decide, by decide, by decide, by decide, by decide, fun o m r e => by
      have e' : ([] : List (Nat × Int)) = (o, m) :: r := e
      cases e'⟩
/-- Free of the first owner: the third one comes. -/
theorem freeK2 (h : TbAt w t km om B tK6) : Calls Tryz.prog 14 #[.pointer (some ⟨t, 0, none⟩), .int .u64 1] w (RetFree t km om B (tK7.nextT kK) [3] w) :=
  Free_any (o := 1) (T1 := tK7) (ks := [kK]) h ((leave_any h okK6 dom1 rfl (by decide) (by decide)).mono fun e w' r => leftK6 ▸ RetLeave.lv (show sortK (tK6.of 1).ks = [kK] from sortK_one kK) r) ngK7 (by decide) (by decide)
/-- Who stands in its line, and how it is held, ahead of that. -/
theorem lineK (h : TbAt w t km om B tK6) : Calls Tryz.prog 15 #[.pointer (some ⟨t, 0, none⟩), kv kK] w (RetRow [3] w) := Line_any h domK (by decide)
theorem holdK (h : TbAt w t km om B tK6) : Calls Tryz.prog 16 #[.pointer (some ⟨t, 0, none⟩), .int .u64 1, kv kK] w fun e w' => e = .returned (.int .i64 2) ∧ Gr w w' := Holds_any h okK6 dom1 domK
end
end Go.Proofs.YtadopbpfnnpnaaaGreat

/-
  The law's own on locks: the chapter's rows, as the mathematics has them: two keys.
-/
namespace Go.Proofs.YtadopbpfnnpnaaaGreat
open Go.RowKit Go.Maps

def tU1 : Tb := Tb.new.give 1 kA 2
def tU2 : Tb := tU1.give 2 kB 2
def tU3 : Tb := tU2.stand 1 kB 1
theorem uu1 : Tb.new.ask 1 kA 2 false = (0, tU1) := rfl
theorem uu2 : tU1.ask 2 kB 2 false = (0, tU2) := rfl
theorem uu3 : tU2.ask 1 kB 1 false = (9, tU3) := rfl
theorem uu4 : tU3.ask 2 kA 1 true = (10, tU3) := rfl
theorem okU1 : tU1.Ok := give_ok new_ok (by decide)
theorem okU2 : tU2.Ok := give_ok okU1 (by decide)
theorem okU3 : tU3.Ok := stand_ok okU2 domB rfl (by decide)
section
variable {w : World} {t km om : Nat} {B : Tag → Option Nat}
theorem askU1 (h : TbAt w t km om B Tb.new) : Calls Tryz.prog 12 #[.pointer (some ⟨t, 0, none⟩), .int .u64 1, kv kA, .int .i64 2] w (RetAsk t km om B (0, tU1) w) :=
  uu1 ▸ ask_2 h new_ok dom1 domA (R := false) (fun e => by cases e) (by decide) (by decide) (by decide) (by decide) (by decide) (by decide)
theorem askU2 (h : TbAt w t km om B tU1) : Calls Tryz.prog 12 #[.pointer (some ⟨t, 0, none⟩), .int .u64 2, kv kB, .int .i64 2] w (RetAsk t km om B (0, tU2) w) :=
  uu2 ▸ ask_2 h okU1 dom2 domB (R := false) (fun e => by cases e) (by decide) (by decide) (by decide) (by decide) (by decide) (by decide)
theorem askU3 (h : TbAt w t km om B tU2) : Calls Tryz.prog 12 #[.pointer (some ⟨t, 0, none⟩), .int .u64 1, kv kB, .int .i64 1] w (RetAsk t km om B (9, tU3) w) :=
  uu3 ▸ ask_1 h okU2 dom1 domB (R := false) (fun _ W g => ring_no (h.gr g) okU2 dom1 kB rfl) (by decide) (by decide) (by decide) (by decide) (by decide) (by decide)
theorem askU4 (h : TbAt w t km om B tU3) : Calls Tryz.prog 12 #[.pointer (some ⟨t, 0, none⟩), .int .u64 2, kv kA, .int .i64 1] w (RetAsk t km om B (10, tU3) w) :=
  uu4 ▸ ask_1 h okU3 dom2 domA (R := true) (fun _ W g => ring_flat (h.gr g) okU3 dom2 domA (l := tU3.lkOf kA) rfl rfl (by decide)) (by decide) (by decide) (by decide) (by decide) (by decide) (by decide)
end
end Go.Proofs.YtadopbpfnnpnaaaGreat

/-
  The law's own on locks: known.
-/
namespace Go.Proofs.YtadopbpfnnpnaaaGreat
open Go.RowKit Go.Maps

/-- The two tables of known, and the keys beside them. -/
structure KnI (w0 w : World) (b : Nat) (t km om : Nat) (B : Tag → Option Nat) (T : Tb) (u km2 om2 : Nat) (B2 : Tag → Option Nat) (U : Tb) : Prop where
  tt : TbAt w t km om B T
  uu : TbAt w u km2 om2 B2 U
  ap : ∀ n, FB B n → ¬ FB B2 n
  k1 : Blk w b TKey #[.int .i64 1, .int .i64 9]
  k2 : Blk w (b + 1) TKey #[.int .i64 0, .int .i64 0]
  k3 : Blk w (b + 1 + 1) TKey #[.int .i64 0, .int .i64 1]
  ft : ∀ n, FB B n → b + 2 < n
  fu : ∀ n, FB B2 n → b + 2 < n
  gg : Gr w0 w
  ge : w0.heap.size ≤ b
section
variable {w0 w w' : World} {b t km om u km2 om2 : Nat} {B B' B2 : Tag → Option Nat} {T T' U U' : Tb}
theorem KnI.turnT (h : KnI w0 w b t km om B T u km2 om2 B2 U) (r : TbAt w' t km om B' T') (n : Tn w w' B B') : KnI w0 w' b t km om B' T' u km2 om2 B2 U :=
  have e1 := h.k1.lt
  have e3 := h.k3.lt
  have hf : ∀ m, FB B' m → FB B m ∨ w.heap.size ≤ m := fun m ⟨a, ha⟩ => n.new a m ha
  ⟨r, h.uu.stays fun a m hm => n.onl.block m (h.uu.lt a m hm) fun e => h.ap m e ⟨a, hm⟩,
   fun m hm ⟨a, ha⟩ => by rcases hf m hm with e | e; exact h.ap m e ⟨a, ha⟩; have := h.uu.lt a m ha; omega,
   n.blk h.k1 fun e => by have := h.ft _ e; omega, n.blk h.k2 fun e => by have := h.ft _ e; omega, n.blk h.k3 fun e => by have := h.ft _ e; omega,
   fun m hm => by rcases hf m hm with e | e; exact h.ft m e; omega, h.fu,
   ⟨n.onl.os.trans h.gg.os, n.onl.tape.trans h.gg.tape, n.onl.output.trans h.gg.output, Nat.le_trans h.gg.size n.onl.size, fun m hm => (n.onl.block m (Nat.lt_of_lt_of_le hm h.gg.size) fun e => by have := h.ft _ e; have := h.ge; omega).trans (h.gg.block m hm)⟩, h.ge⟩
theorem KnI.flip (h : KnI w0 w b t km om B T u km2 om2 B2 U) : KnI w0 w b u km2 om2 B2 U t km om B T := ⟨h.uu, h.tt, fun m e1 e2 => h.ap m e2 e1, h.k1, h.k2, h.k3, h.fu, h.ft, h.gg, h.ge⟩
theorem KnI.gr (h : KnI w0 w b t km om B T u km2 om2 B2 U) (g : Gr w w') : KnI w0 w' b t km om B T u km2 om2 B2 U := h.turnT (h.tt.gr g) (Tn.of_gr g)
end
set_option maxRecDepth 100000 in
set_option maxHeartbeats 8000000 in
theorem known10_any (w : World) : Calls Tryz.prog 4 #[] w fun e w' => e = .returned (.bool true) ∧ Gr w w' := by
  have HK : Hid (kv kK = .agg #[.int .i64 1, .int .i64 9] ∧ kv kA = .agg #[.int .i64 0, .int .i64 0] ∧ kv kB = .agg #[.int .i64 0, .int .i64 1]) := Lib.hid ⟨rfl, rfl, rfl⟩
  obtain ⟨b, hb⟩ : ∃ b, b = w.heap.size := ⟨_, rfl⟩
  obtain ⟨W0, hW0⟩ : ∃ W0, W0 = ((w.alloc (.cells #[.int .i64 1, .int .i64 9] TKey)).alloc (.cells #[.int .i64 0, .int .i64 0] TKey)).alloc (.cells #[.int .i64 0, .int .i64 1] TKey) := ⟨_, rfl⟩
  have ga : Gr w (w.alloc (.cells #[.int .i64 1, .int .i64 9] TKey)) := (Gr.refl _).alloc (Nat.le_refl _) _
  have gb : Gr (w.alloc (.cells #[.int .i64 1, .int .i64 9] TKey)) ((w.alloc (.cells #[.int .i64 1, .int .i64 9] TKey)).alloc (.cells #[.int .i64 0, .int .i64 0] TKey)) := (Gr.refl _).alloc (Nat.le_refl _) _
  have gc : Gr ((w.alloc (.cells #[.int .i64 1, .int .i64 9] TKey)).alloc (.cells #[.int .i64 0, .int .i64 0] TKey)) W0 := by rw [hW0]; exact (Gr.refl _).alloc (Nat.le_refl _) _
  have q1 := ((Blk.new w TKey #[.int .i64 1, .int .i64 9]).gr gb).gr gc
  have q2 := (Blk.new (w.alloc (.cells #[.int .i64 1, .int .i64 9] TKey)) TKey #[.int .i64 0, .int .i64 0]).gr gc
  have q3 : Blk W0 (b + 1 + 1) TKey #[.int .i64 0, .int .i64 1] := by
    have := Blk.new ((w.alloc (.cells #[.int .i64 1, .int .i64 9] TKey)).alloc (.cells #[.int .i64 0, .int .i64 0] TKey)) TKey #[.int .i64 0, .int .i64 1]
    rw [← hW0] at this
    simpa [hb] using this
  simp only [World.size_alloc] at q2
  rw [← hb] at q1 q2
  have hsz : W0.heap.size = b + 3 := by rw [hW0, hb]; simp
  have H0 := Lib.hid (And.intro (Gr.trans ga (Gr.trans gb gc)) (And.intro q1 (And.intro q2 (And.intro q3 (And.intro hsz (And.intro hW0 hb))))))
  clear ga gb gc q1 q2 q3 hsz hW0 hb
  go_enter Tryz.func4, Tryz.ntmps4
  go_upto_region 2 with fail
  rw [show (((w.alloc (.cells #[.int .i64 1, .int .i64 9] 33)).alloc (.cells #[.int .i64 0, .int .i64 0] 33)).alloc (.cells #[.int .i64 0, .int .i64 1] 33)) = W0 from H0.out.2.2.2.2.2.1.symm, ← H0.out.2.2.2.2.2.2]
  go_wp2_with fail
  refine (New_any W0).mono ?_
  rintro e w1 ⟨t, km, om, B, rfl, r1, g1, f1⟩
  have H1 := Lib.hid (And.intro r1 (And.intro g1 f1))
  clear r1 g1 f1
  go_wp2_with fail
  refine (New_any w1).mono ?_
  rintro e w2 ⟨u, km2, om2, B2, rfl, r2, g2, f2⟩
  have I : KnI w w2 b t km om B Tb.new u km2 om2 B2 Tb.new := by
    obtain ⟨g0, q1, q2, q3, hsz, hW0, hb⟩ := H0.out
    obtain ⟨r1, g1, f1⟩ := H1.out
    have g02 := Gr.trans g1 g2
    have h01 := g1.size
    exact ⟨r1.gr g2, r2, fun n ⟨a, ha⟩ e2 => by have := r1.lt a n ha; have := f2 n e2; omega, q1.gr g02, q2.gr g02, q3.gr g02, fun n e => by have := f1 n e; omega, fun n e => by have := f2 n e; omega, Gr.trans g0 g02, by omega⟩
  clear r2 g2 f2 H1 H0
  have x0 := I.k1.cell 0
  have x1 := I.k1.cell 1
  simp at x0 x1
  have H := Lib.hid I
  clear I
  go_wp2_with fail
  clear x0 x1
  have C := askK1 H.out.tt
  rw [HK.out.1] at C
  refine C.mono ?_
  rintro e w3 ⟨Bn, rfl, r, n⟩
  have I := H.out.turnT r n
  clear r n
  clear H C
  have H := Lib.hid I
  clear I
  go_wp2_with fail
  refine (num_any _ _).mono ?_
  rintro e w0 ⟨rfl, rfl⟩
  have I := H.out
  clear H
  have x0 := I.k1.cell 0
  have x1 := I.k1.cell 1
  simp at x0 x1
  have H := Lib.hid I
  clear I
  go_wp2_with fail
  clear x0 x1
  have C := askK2 H.out.tt
  rw [HK.out.1] at C
  refine C.mono ?_
  rintro e w4 ⟨Bn, rfl, r, n⟩
  have I := H.out.turnT r n
  clear r n
  clear H C
  have H := Lib.hid I
  clear I
  go_wp2_with fail
  refine (num_any _ _).mono ?_
  rintro e w0 ⟨rfl, rfl⟩
  have I := H.out
  clear H
  have x0 := I.k1.cell 0
  have x1 := I.k1.cell 1
  simp at x0 x1
  have H := Lib.hid I
  clear I
  go_wp2_with fail
  clear x0 x1
  have C := askK3 H.out.tt
  rw [HK.out.1] at C
  refine C.mono ?_
  rintro e w5 ⟨Bn, rfl, r, n⟩
  have I := H.out.turnT r n
  clear r n
  clear H C
  have H := Lib.hid I
  clear I
  go_wp2_with fail
  refine (num_any _ _).mono ?_
  rintro e w0 ⟨rfl, rfl⟩
  have I := H.out
  clear H
  have x0 := I.k1.cell 0
  have x1 := I.k1.cell 1
  simp at x0 x1
  have H := Lib.hid I
  clear I
  go_wp2_with fail
  clear x0 x1
  have C := askK4 H.out.tt
  rw [HK.out.1] at C
  refine C.mono ?_
  rintro e w6 ⟨Bn, rfl, r, n⟩
  have I := H.out.turnT r n
  clear r n
  clear H C
  have H := Lib.hid I
  clear I
  go_wp2_with fail
  refine (num_any _ _).mono ?_
  rintro e w0 ⟨rfl, rfl⟩
  have I := H.out
  clear H
  have x0 := I.k1.cell 0
  have x1 := I.k1.cell 1
  simp at x0 x1
  have H := Lib.hid I
  clear I
  go_wp2_with fail
  clear x0 x1
  have C := askK5 H.out.tt
  rw [HK.out.1] at C
  refine C.mono ?_
  rintro e w7 ⟨Bn, rfl, r, n⟩
  have I := H.out.turnT r n
  clear r n
  clear H C
  have H := Lib.hid I
  clear I
  go_wp2_with fail
  refine (num_any _ _).mono ?_
  rintro e w0 ⟨rfl, rfl⟩
  have I := H.out
  clear H
  have x0 := I.k1.cell 0
  have x1 := I.k1.cell 1
  simp at x0 x1
  have H := Lib.hid I
  clear I
  go_wp2_with fail
  clear x0 x1
  have C := freeK1 H.out.tt
  refine C.mono ?_
  rintro e w8 ⟨v, Bn, rfl, r, r2, n, n2⟩
  have I := H.out.turnT r2 n
  have Hr := Lib.hid r
  clear r r2 n n2
  clear H C
  have H := Lib.hid I
  clear I
  go_wp2_with fail
  refine (same10_any (xs := [1]) (ys := [1]) ?_ ?_ (by decide) (by decide)).mono ?_
  · exact (Hr.out.gr ((Gr.refl _).alloc (Nat.le_refl _) _)).usl
  · exact USl.one _ 1 _
  rintro e w9 ⟨rfl, g⟩
  have I := (H.out.gr ((Gr.refl _).alloc (Nat.le_refl _) _)).gr g
  clear H Hr g
  have x0 := I.k1.cell 0
  have x1 := I.k1.cell 1
  simp at x0 x1
  have H := Lib.hid I
  clear I
  go_wp2_with fail
  clear x0 x1
  have C := lineK H.out.tt
  rw [HK.out.1] at C
  refine C.mono ?_
  rintro e w10 ⟨v, rfl, r, g⟩
  have I := H.out.gr g
  have Hr := Lib.hid r
  clear r g
  clear H C
  have H := Lib.hid I
  clear I
  go_wp2_with fail
  refine (same10_any (xs := [3]) (ys := [3]) ?_ ?_ (by decide) (by decide)).mono ?_
  · exact (Hr.out.gr ((Gr.refl _).alloc (Nat.le_refl _) _)).usl
  · exact USl.one _ 3 _
  rintro e w11 ⟨rfl, g⟩
  have I := (H.out.gr ((Gr.refl _).alloc (Nat.le_refl _) _)).gr g
  clear H Hr g
  have x0 := I.k1.cell 0
  have x1 := I.k1.cell 1
  simp at x0 x1
  have H := Lib.hid I
  clear I
  go_wp2_with fail
  clear x0 x1
  have C := holdK H.out.tt
  rw [HK.out.1] at C
  refine C.mono ?_
  rintro e w12 ⟨rfl, g⟩
  have I := H.out.gr g
  clear g
  clear H C
  have x0 := I.k1.cell 0
  have x1 := I.k1.cell 1
  simp at x0 x1
  have H := Lib.hid I
  clear I
  go_wp2_with fail
  clear x0 x1
  have C := freeK2 H.out.tt
  refine C.mono ?_
  rintro e w13 ⟨v, Bn, rfl, r, r2, n, n2⟩
  have I := H.out.turnT r2 n
  have Hr := Lib.hid r
  clear r r2 n n2
  clear H C
  have H := Lib.hid I
  clear I
  go_wp2_with fail
  refine (same10_any (xs := [3]) (ys := [3]) ?_ ?_ (by decide) (by decide)).mono ?_
  · exact (Hr.out.gr ((Gr.refl _).alloc (Nat.le_refl _) _)).usl
  · exact USl.one _ 3 _
  rintro e w14 ⟨rfl, g⟩
  have I := (H.out.gr ((Gr.refl _).alloc (Nat.le_refl _) _)).gr g
  clear H Hr g
  have x0 := I.k2.cell 0
  have x1 := I.k2.cell 1
  have x2 := I.k3.cell 0
  have x3 := I.k3.cell 1
  simp at x0 x1 x2 x3
  have H := Lib.hid I
  clear I
  go_wp2_with fail
  clear x0 x1 x2 x3
  have C := askU1 H.out.uu
  rw [HK.out.2.1] at C
  refine C.mono ?_
  rintro e w15 ⟨Bn, rfl, r, n⟩
  have I := (H.out.flip.turnT r n).flip
  clear r n
  clear H C
  have H := Lib.hid I
  clear I
  go_wp2_with fail
  refine (num_any _ _).mono ?_
  rintro e w0 ⟨rfl, rfl⟩
  have I := H.out
  clear H
  have x0 := I.k2.cell 0
  have x1 := I.k2.cell 1
  have x2 := I.k3.cell 0
  have x3 := I.k3.cell 1
  simp at x0 x1 x2 x3
  have H := Lib.hid I
  clear I
  go_wp2_with fail
  clear x0 x1 x2 x3
  have C := askU2 H.out.uu
  rw [HK.out.2.2] at C
  refine C.mono ?_
  rintro e w16 ⟨Bn, rfl, r, n⟩
  have I := (H.out.flip.turnT r n).flip
  clear r n
  clear H C
  have H := Lib.hid I
  clear I
  go_wp2_with fail
  refine (num_any _ _).mono ?_
  rintro e w0 ⟨rfl, rfl⟩
  have I := H.out
  clear H
  have x0 := I.k2.cell 0
  have x1 := I.k2.cell 1
  have x2 := I.k3.cell 0
  have x3 := I.k3.cell 1
  simp at x0 x1 x2 x3
  have H := Lib.hid I
  clear I
  go_wp2_with fail
  clear x0 x1 x2 x3
  have C := askU3 H.out.uu
  rw [HK.out.2.2] at C
  refine C.mono ?_
  rintro e w17 ⟨Bn, rfl, r, n⟩
  have I := (H.out.flip.turnT r n).flip
  clear r n
  clear H C
  have H := Lib.hid I
  clear I
  go_wp2_with fail
  refine (num_any _ _).mono ?_
  rintro e w0 ⟨rfl, rfl⟩
  have I := H.out
  clear H
  have x0 := I.k2.cell 0
  have x1 := I.k2.cell 1
  have x2 := I.k3.cell 0
  have x3 := I.k3.cell 1
  simp at x0 x1 x2 x3
  have H := Lib.hid I
  clear I
  go_wp2_with fail
  clear x0 x1 x2 x3
  have C := askU4 H.out.uu
  rw [HK.out.2.1] at C
  refine C.mono ?_
  rintro e w18 ⟨Bn, rfl, r, n⟩
  have I := (H.out.flip.turnT r n).flip
  clear r n
  clear H C
  have H := Lib.hid I
  clear I
  go_wp2_with fail
  refine (num_any _ _).mono ?_
  rintro e w0 ⟨rfl, rfl⟩
  have I := H.out
  clear H
  have H := Lib.hid I
  clear I
  go_wp2_with fail
  go_ret
  exact ⟨rfl, H.out.gg⟩
end Go.Proofs.YtadopbpfnnpnaaaGreat

/-
  The code's table of locks: a nil or zero table.
-/
namespace Go.Proofs.YtadopbpfnnpnaaaGreat
open Go.RowKit Go.Maps

end Go.Proofs.YtadopbpfnnpnaaaGreat

/-
  The code's table of locks: Holds and Waits of a nil or zero table.
-/
namespace Go.Proofs.YtadopbpfnnpnaaaGreat
open Go.RowKit Go.Maps

end Go.Proofs.YtadopbpfnnpnaaaGreat

/-
  The code's table of locks: Waits of a nil or zero table.
-/
namespace Go.Proofs.YtadopbpfnnpnaaaGreat
open Go.RowKit Go.Maps

theorem results_kmb {fn : Func} {p q r : Tmp} (h : fn.results = #[.cell p TKey, .tmp q, .tmp r]) (tmps : Array Value) (w : World) (g : Nat) (a b x y : Value)
    (hp : tmps.getD p undef = .pointer (some ⟨g, 0, none⟩)) (hx : tmps.getD q undef = x) (hy : tmps.getD r undef = y) (hb : Blk w g TKey #[a, b]) : (results fn tmps).run Tryz.prog w = .ok (.tuple #[.agg #[a, b], x, y]) w := by
  have hp' : tmps[p]?.getD undef = .pointer (some ⟨g, 0, none⟩) := by simpa using hp
  have hx' : tmps[q]?.getD undef = x := by simpa using hx
  have hy' : tmps[r]?.getD undef = y := by simpa using hy
  have hz : (Tryz.prog.info? TKey).map (·.size) = some 2 := by kernel_rfl
  have hl := run_loadVar_row (P := Tryz.prog) w g TKey TKey #[a, b] (0, 0) _ hb Tryz.underlying33 rfl hz
  simp [results, h, hp', hx', hy', asAddr, hl]
end Go.Proofs.YtadopbpfnnpnaaaGreat

/-
  The code's table of locks: Waits; the law's in.
-/
namespace Go.Proofs.YtadopbpfnnpnaaaGreat
open Go.RowKit Go.Maps

section
variable {w : World} {t km om : Nat} {B : Tag → Option Nat} {T : Tb}
set_option maxRecDepth 100000 in
set_option maxHeartbeats 2000000 in
theorem Waits_any (h : TbAt w t km om B T) {o : Nat} (ho : KO.dom o) : Calls Tryz.prog 21 #[.pointer (some ⟨t, 0, none⟩), .int .u64 (o : Int)] w fun e w' => e = .returned (.tuple #[kv (T.of o).key, .int .i64 (T.of o).mode, .bool ((T.of o).mode != 0)]) ∧ Gr w w' := by
  obtain ⟨hp, hhp⟩ : ∃ hp, hp = B (.pm o) := ⟨_, rfl⟩
  obtain ⟨O1, hO1⟩ : ∃ O1, O1 = (T.of o).key.1 := ⟨_, rfl⟩
  obtain ⟨O2, hO2⟩ : ∃ O2, O2 = (T.of o).key.2 := ⟨_, rfl⟩
  obtain ⟨O3, hO3⟩ : ∃ O3, O3 = (T.of o).mode := ⟨_, rfl⟩
  unfold kv
  rw [← hO1, ← hO2, ← hO3]
  have g1 : Gr w (w.alloc (.cells #[.int .i64 0, .int .i64 0] TKey)) := (Gr.refl w).alloc (Nat.le_refl _) _
  have b1 := Blk.new w TKey #[.int .i64 0, .int .i64 0]
  obtain ⟨W0, hW0⟩ : ∃ W0, W0 = w.alloc (.cells #[.int .i64 0, .int .i64 0] TKey) := ⟨_, rfl⟩
  rw [← hW0] at g1 b1
  have HO := Lib.hid (of_any (h.gr g1) ho)
  unfold ofV at HO
  rw [← hhp, ← hO1, ← hO2, ← hO3] at HO
  obtain ⟨rb, hrb⟩ : ∃ rb, rb = w.heap.size := ⟨_, rfl⟩
  rw [← hrb] at b1
  have HW := Lib.hid (And.intro hW0 (And.intro hrb (And.intro g1 b1)))
  clear h hW0 hrb g1 b1 hhp hO1 hO2 hO3 ho
  have hZ : (O3 != 0) = true ∨ (O3 != 0) = false := by cases (O3 != 0) <;> simp
  rcases hZ with hZ | hZ
  all_goals
    rw [hZ]
    go_enter Tryz.func21, Tryz.ntmps21
    go_upto_region 1 with fail
    rw [show (w.alloc (.cells #[.int .i64 0, .int .i64 0] 33)) = W0 from HW.out.1.symm, ← HW.out.2.1]
    go_wp2_with fail
    refine HO.out.mono ?_
    rintro e W2 ⟨rfl, g2⟩
    have g3 : Gr W2 (W2.alloc (.cells #[.map hp, .int .i64 O1, .int .i64 O2, .int .i64 O3] TPy)) := (Gr.refl _).alloc (Nat.le_refl _) _
    have b3 := Blk.new W2 TPy #[.map hp, .int .i64 O1, .int .i64 O2, .int .i64 O3]
    obtain ⟨W3, hW3⟩ : ∃ W3, W3 = W2.alloc (.cells #[.map hp, .int .i64 O1, .int .i64 O2, .int .i64 O3] TPy) := ⟨_, rfl⟩
    rw [← hW3] at g3 b3
    obtain ⟨pb, hpb⟩ : ∃ pb, pb = W2.heap.size := ⟨_, rfl⟩
    rw [← hpb] at b3
    have r3 := HW.out.2.2.2.gr (Gr.trans g2 g3)
    have hne : pb ≠ rb := by
      have := HW.out.2.2.2.lt
      have := g2.size
      omega
    have b4 := (b3.far (p := ⟨rb, 0, none⟩) hne (.int .i64 O1)).far (p := ⟨rb, 1, none⟩) hne (.int .i64 O2)
    have r4 := (r3.set 0 (.int .i64 O1)).set 1 (.int .i64 O2)
    have z1 := b3.cell 1
    have z2 := b3.cell 2
    have z3 := b3.cell 3
    have y1 := b4.cell 1
    have y2 := b4.cell 2
    have y3 := b4.cell 3
    have c0 := r3.cell 0
    have c1 := r3.cell 1
    have f0 := r3.frozen 0
    have f1 := r3.frozen 1
    simp at z1 z2 z3 y1 y2 y3 c0 c1 r4
    have G3 := Lib.hid (And.intro (Gr.trans HW.out.2.2.1 (Gr.trans g2 g3)) (And.intro r4 (And.intro hW3 hpb)))
    clear g2 g3 b3 hW3 hpb r3 hne b4 r4
    go_upto_region 2 with fail
    rw [show (W2.alloc (.cells #[.map hp, .int .i64 O1, .int .i64 O2, .int .i64 O3] 66)) = W3 from G3.out.2.2.1.symm, ← G3.out.2.2.2]
    go_region_held3 (fun V => V.cell? ⟨pb, 1, none⟩ = some (.int .i64 O1) ∧ V.cell? ⟨pb, 2, none⟩ = some (.int .i64 O2) ∧ V.cell? ⟨pb, 3, none⟩ = some (.int .i64 O3)) (first | exact ⟨z1, z2, z3⟩ | exact ⟨y1, y2, y3⟩) (fail)
    have gW : Gr w (((W3.setCell ⟨rb, 0, none⟩ (.int .i64 O1)).setCell ⟨rb, 1, none⟩ (.int .i64 O2)).drew) := by
      obtain ⟨-, hrb, -, -⟩ := HW.out
      have g := G3.out.1
      refine ⟨g.os, g.tape, g.output, by have := g.size; simpa using this, fun n hn => ?_⟩
      have h0 : n ≠ rb := by omega
      exact (Below.heap_setCell _ _ _ _ h0).trans ((Below.heap_setCell _ _ _ _ h0).trans (g.block n hn))
    have GW := Lib.hid gW
    clear gW
    go_wp2_with fail
    exact bodyPost_ret (results_kmb rfl _ _ rb _ _ _ _ rfl rfl rfl G3.out.2.1) rfl ⟨rfl, GW.out⟩
end
end Go.Proofs.YtadopbpfnnpnaaaGreat

/-
  The law's own ring: nobody waits for itself, so it answers false.
-/
namespace Go.Proofs.YtadopbpfnnpnaaaGreat
open Go.RowKit Go.Maps

theorem Us.split {w : World} {base : Nat} {v : Value} {xs : List Nat} (h : Us w base v xs) : ∃ p n c, v = .slice p n c ∧ n = xs.length ∧ n ≤ maxLen ∧ ∀ j, j < n → ∃ g, p = some ⟨g, 0, none⟩ ∧ n ≤ c ∧ w.cell? ⟨g, j, none⟩ = some (.int .u64 ((xs.getD j 0 : Nat) : Int)) := by
  rcases h.2 with ⟨rfl, h0⟩ | ⟨g, cap, cur, rfl, hb, hg, h1, h2, _⟩
  · exact ⟨none, 0, 0, rfl, h0.symm, Nat.zero_le _, fun j hj => absurd hj (Nat.not_lt_zero _)⟩
  · exact ⟨_, xs.length, cap, rfl, rfl, by omega, fun j hj => ⟨g, rfl, h1, Us.cellAt h j hj⟩⟩
theorem getD_in {xs : List Nat} {j : Nat} (hj : j < xs.length) : xs.getD j 0 ∈ xs := by
  simp [List.getD, hj]
end Go.Proofs.YtadopbpfnnpnaaaGreat

