/-
  Texts on locks, put together: LkPlay2 LkPlay3 Lk36 Lk52.
-/
import Derived.RangeFuncNested
import Derived.RangeFuncBound
import Derived.RangeFuncCalls
import Derived.RangeFuncLeaves
import Derived.OwnWalkIn
import Derived.TacticsInMore
import Derived.LoopNIn
import Derived.LoopIn
import Derived.Laws.OwnMore
import Derived.Test.YtadopbpfnnpnaaaGreatL38
import Derived.Test.YtadopbpfnnpnaaaGreatL41
import Derived.Test.YtadopbpfnnpnaaaGreatL42
import Derived.Test.YtadopbpfnnpnaaaGreatL46
import Derived.Test.YtadopbpfnnpnaaaGreatL47
set_option linter.unusedVariables false
set_option linter.unusedSimpArgs false
/-
  The law LockPlays: an act, done to both tables.
-/
namespace Go.Proofs.YtadopbpfnnpnaaaGreat
open Go.RowKit Go.Maps

def DT.act (D : DT) (a : LAct) : DT := if a.free = true then (D.free a.ow).2 else (D.ask a.ow a.k a.m).2
/-- The blocks of both tables. -/
def PB (B : Tag → Option Nat) (d : Nat) (hv lv : Value) (m : Nat) : Prop := FB B m ∨ DB d hv lv m
structure PmAt (w0 w : World) (t km om : Nat) (B : Tag → Option Nat) (T : Tb) (d : Nat) (hv lv : Value) (D : DT) : Prop where
  tb : TbAt w t km om B T
  dt : DtA w w0.heap.size d hv lv D
  fw : ∀ m, FB B m → w0.heap.size ≤ m
  dw : ∀ m, DB d hv lv m → w0.heap.size ≤ m
  ap : ∀ m, FB B m → ¬ DB d hv lv m
  gr : Gr w0 w
section
variable {w0 w w' : World} {t km om d : Nat} {B B' : Tag → Option Nat} {T T' : Tb} {hv lv hv' lv' : Value} {D D' : DT}
theorem TbAt.fb_lt (h : TbAt w t km om B T) : ∀ m, FB B m → m < w.heap.size := fun m ⟨a, ha⟩ => h.lt a m ha
theorem tn_dtn (h : Tn w w' B B') : DTn w w' (FB B) (FB B') := ⟨h.onl.os, h.onl.tape, h.onl.output, h.onl.size, h.onl.block, fun n ⟨a, ha⟩ => h.new a n ha⟩
theorem DTn.left {Q Q' P : Nat → Prop} (h : DTn w w' Q Q') : DTn w w' (fun m => Q m ∨ P m) (fun m => Q' m ∨ P m) :=
  ⟨h.os, h.tape, h.output, h.size, fun n hn hq => h.blk n hn fun e => hq (.inl e), fun n e => by
    rcases e with e | e
    · rcases h.sub n e with e | e
      · exact .inl (.inl e)
      · exact .inr e
    · exact .inl (.inr e)⟩
theorem DTn.right {Q Q' P : Nat → Prop} (h : DTn w w' Q Q') : DTn w w' (fun m => P m ∨ Q m) (fun m => P m ∨ Q' m) :=
  ⟨h.os, h.tape, h.output, h.size, fun n hn hq => h.blk n hn fun e => hq (.inr e), fun n e => by
    rcases e with e | e
    · exact .inl (.inl e)
    · rcases h.sub n e with e | e
      · exact .inl (.inr e)
      · exact .inr e⟩
theorem DTn.gr {Q Q' : Nat → Prop} (h : DTn w w' Q Q') (g : Gr w0 w) (hq : ∀ m, Q m → w0.heap.size ≤ m) : Gr w0 w' :=
  ⟨h.os.trans g.os, h.tape.trans g.tape, h.output.trans g.output, Nat.le_trans g.size h.size, fun n hn => (h.blk n (Nat.lt_of_lt_of_le hn g.size) fun e => by have := hq n e; omega).trans (g.block n hn)⟩
theorem PmAt.more (h : PmAt w0 w t km om B T d hv lv D) (g : Gr w w') : PmAt w0 w' t km om B T d hv lv D := ⟨h.tb.gr g, h.dt.gr g, h.fw, h.dw, h.ap, Gr.trans h.gr g⟩
theorem PmAt.turnT (h : PmAt w0 w t km om B T d hv lv D) (k : TbAt w' t km om B' T') (n : Tn w w' B B') : PmAt w0 w' t km om B' T' d hv lv D :=
  ⟨k, h.dt.stays fun m hm => n.onl.block m (h.dt.lt m hm) fun e => h.ap m e hm, fun m ⟨a, ha⟩ => by
    rcases n.new a m ha with e | e
    · exact h.fw m e
    · exact Nat.le_trans h.gr.size e, h.dw, fun m ⟨a, ha⟩ e => by
    rcases n.new a m ha with e2 | e2
    · exact h.ap m e2 e
    · have := h.dt.lt m e; omega, (tn_dtn n).gr h.gr h.fw⟩
theorem PmAt.turnD (h : PmAt w0 w t km om B T d hv lv D) (k : DtA w' w0.heap.size d hv' lv' D') (n : DTn w w' (DB d hv lv) (DB d hv' lv')) : PmAt w0 w' t km om B T d hv' lv' D' :=
  ⟨h.tb.stays fun a m hm => n.blk m (h.tb.lt a m hm) fun e => h.ap m ⟨a, hm⟩ e, k, h.fw, fun m hm => by
    rcases n.sub m hm with e | e
    · exact h.dw m e
    · exact Nat.le_trans h.gr.size e, fun m hm e => by
    rcases n.sub m e with e2 | e2
    · exact h.ap m hm e2
    · have := h.tb.fb_lt m hm; omega, n.gr h.gr h.dw⟩
/-- Nothing of both turns. -/
theorem PmAt.stay {Q Q' : Nat → Prop} (h : PmAt w0 w t km om B T d hv lv D) (n : DTn w w' Q Q') (hq : ∀ m, PB B d hv lv m → ¬ Q m) (g : Gr w0 w') : PmAt w0 w' t km om B T d hv lv D :=
  ⟨h.tb.stays fun a m hm => n.blk m (h.tb.lt a m hm) (hq m (.inl ⟨a, hm⟩)), h.dt.stays fun m hm => n.blk m (h.dt.lt m hm) (hq m (.inr hm)), h.fw, h.dw, h.ap, g⟩
theorem PmAt.lt (h : PmAt w0 w t km om B T d hv lv D) : ∀ m, PB B d hv lv m → m < w.heap.size := fun m hm => hm.elim (h.tb.fb_lt m) (h.dt.lt m)
/-- A row of the call's own stays while the document's table turns. -/
theorem Us.dtn {base : Nat} {v : Value} {xs : List Nat} {Q Q' : Nat → Prop} (h : Us w base v xs) (n : DTn w w' Q Q') (hq : ∀ m, Q m → m < base) : Us w' base v xs :=
  h.stays fun m hm => n.blk m (h.lt m hm).2 fun e => by have := hq m e; have := (h.lt m hm).1; omega
end
end Go.Proofs.YtadopbpfnnpnaaaGreat

/-
  The law LockPlays: do.
-/
namespace Go.Proofs.YtadopbpfnnpnaaaGreat
open Go.RowKit Go.Maps

theorem us_form {w : World} {base : Nat} {v : Value} {xs : List Nat} (h : Us w base v xs) : ∃ p n c, v = .slice p n c := by
  obtain ⟨p, c, e⟩ := h.form
  exact ⟨p, _, c, e⟩
/-- What do answers. -/
def RetDo (w0 : World) (t km om : Nat) (B : Tag → Option Nat) (d : Nat) (hv lv : Value) (D' : DT) (n : Nat) (w : World) (e : Ending) (w' : World) : Prop :=
  e = .returned (.bool true) ∧ ∃ B' T' hv' lv', PmAt w0 w' t km om B' T' d hv' lv' D' ∧ PlS T' D' (n + 1) ∧ DTn w w' (PB B d hv lv) (PB B' d hv' lv')
section
variable {w0 w : World} {t km om d : Nat} {B : Tag → Option Nat} {T : Tb} {hv lv : Value} {D : DT} {n : Nat}
set_option maxRecDepth 100000 in
set_option maxHeartbeats 8000000 in
theorem do_any (h : PmAt w0 w t km om B T d hv lv D) (hs : PlS T D n) (hn : n ≤ 200) {a : LAct} (ha : a.In) :
    Calls Tryz.prog 7 #[.pointer (some ⟨t, 0, none⟩), .pointer (some ⟨d, 0, none⟩), .agg #[.bool a.free, .int .u64 (a.ow : Int), .int .i64 a.k.1, .int .i64 a.k.2, .int .i64 a.m]] w (RetDo w0 t km om B d hv lv (D.act a) n w) := by
  obtain ⟨fr, o, ⟨k1, k2⟩, m⟩ := a
  obtain ⟨W1, hW1⟩ : ∃ W1, W1 = w.alloc (.cells #[.bool fr, .int .u64 (o : Int), .int .i64 k1, .int .i64 k2, .int .i64 m] TAl) := ⟨_, rfl⟩
  have g1 : Gr w W1 := by rw [hW1]; exact gr_alloc _ _
  have b1 := Blk.new w TAl #[.bool fr, .int .u64 (o : Int), .int .i64 k1, .int .i64 k2, .int .i64 m]
  rw [← hW1] at b1
  obtain ⟨ab, hab⟩ : ∃ ab, ab = w.heap.size := ⟨_, rfl⟩
  rw [← hab] at b1
  have h1 := h.more g1
  have hnb : ¬ PB B d hv lv ab := fun e => by have := h.lt ab e; omega
  cases fr with
  | true =>
    have hact : D.act ⟨true, o, (k1, k2), m⟩ = (D.free o).2 := rfl
    rw [hact]
    obtain ⟨hc, hs'⟩ := hs.free hn o
    have hb := free_b o hs.rel.on hs.len
    have HF := Lib.hid (free_any (h1.tb.gr (Gr.refl W1).drew) hs.inv (by have := hs.oo; omega) (by have := hs.kk; omega) ha.o)
    have HD : Hid (∀ V (B5 : Tag → Option Nat) (T5 : Tb), PmAt w0 V t km om B5 T5 d hv lv D → Calls Tryz.prog 9 #[.pointer (some ⟨d, 0, none⟩), .int .u64 (o : Int)] V (RetDF w0.heap.size d hv lv (D.free o) V)) := Lib.hid fun V B5 T5 hV => dFree_any hV.dt hV.gr.size hs.rel.on (by have := hs.len; omega) o
    have HX := Lib.hid (And.intro h1 (And.intro hs (And.intro hs' (And.intro hc (And.intro hb (And.intro b1 (And.intro hnb (And.intro hab (And.intro g1 (And.intro hW1 hn))))))))))
    have HL : Hid ((T.came o).length ≤ 1000000000 ∧ (D.free o).1.length ≤ 1000000000) := Lib.hid (by
      have := hb.cl
      rw [← hc]
      exact ⟨by omega, by omega⟩)
    have x1 := b1.cell 1
    have x0 := b1.cell 0
    simp at x0 x1
    clear h hs hs' hc hb h1 g1 hW1 b1 hnb hab hact ha
    go_enter Tryz.func7, Tryz.ntmps7
    go_upto_region 1 with fail
    rw [show (w.alloc (.cells #[.bool true, .int .u64 (o : Int), .int .i64 k1, .int .i64 k2, .int .i64 m] 36)) = W1 from HX.out.2.2.2.2.2.2.2.2.2.1.symm, ← HX.out.2.2.2.2.2.2.2.1]
    go_upto_region 2 with fail
    go_region_held3 (fun V => V.cell? ⟨ab, 1, none⟩ = some (.int .u64 (o : Int))) (first | exact x1 | exact y1 | exact z1 | exact u1) (first
      | (go_at_call 14; refine HF.out.mono ?_; rintro e w5 ⟨v5, B5, rfl, hu5, ht5, hn5, hf5⟩; obtain ⟨p5, n5, c5, hv5⟩ := us_form hu5; subst hv5; have P5 := (HX.out.1.more (Gr.refl W1).drew).turnT ht5 hn5; have b5 : Blk w5 ab TAl _ := (HX.out.2.2.2.2.2.1.gr (Gr.refl W1).drew).stays (hn5.onl.block ab (by simpa using HX.out.2.2.2.2.2.1.lt) (fun e => HX.out.2.2.2.2.2.2.1 (.inl e))); have y1 := b5.cell 1; simp at y1; have H5 := Lib.hid (And.intro P5 (And.intro b5 (And.intro hu5 hn5))); clear P5 b5 hu5 ht5 hn5 hf5)
      | (go_at_call 9; refine (HD.out _ B5 _ H5.out.1).mono ?_; rintro e w6 ⟨v6, rfl, hu6, hv6, lv6, t6, k6⟩; obtain ⟨p6, n6, c6, hv6'⟩ := us_form hu6; subst hv6'; have P6 := H5.out.1.turnD t6 k6; have b6 : Blk w6 ab TAl _ := H5.out.2.1.stays (k6.blk ab H5.out.2.1.lt (fun e => HX.out.2.2.2.2.2.2.1 (.inr e))); have z1 := b6.cell 1; simp at z1; have hu56 := H5.out.2.2.1.dtn k6 (fun q hq => Nat.lt_of_lt_of_le (HX.out.1.lt q (.inr hq)) (Nat.le_refl _)); have H6 := Lib.hid (And.intro P6 (And.intro b6 (And.intro hu56 (And.intro hu6 k6)))); clear P6 b6 hu56 hu6 t6 k6)
      | (go_at_call 13; refine (same10_any H6.out.2.2.1.usl H6.out.2.2.2.1.usl HL.out.1 HL.out.2).mono ?_; rintro e w7 ⟨rfl, g7⟩; have u1 := (g7.cell (blk_lt' z1)).trans z1; have H7 := Lib.hid g7; clear g7))
    have HE := Lib.hid (show RetDo w0 t km om B d hv lv (D.free o).2 n w (.returned (.bool (decide (T.came o = (D.free o).1)))) w7 from ⟨by rw [HX.out.2.2.2.1]; simp, B5, _, hv6, lv6, H6.out.1.more H7.out, HX.out.2.2.1,
      (((DTn.of_gr (Gr.trans HX.out.2.2.2.2.2.2.2.2.1 (Gr.refl W1).drew)).trans ((tn_dtn H5.out.2.2.2).left (P := DB d hv lv))).trans (H6.out.2.2.2.2.right (P := FB B5))).trans (DTn.of_gr H7.out)⟩)
    clear H7 u1 z1 y1 x1
    go_wp2_with fail
    go_ret
    exact HE.out
  | false =>
    have hact : D.act ⟨false, o, (k1, k2), m⟩ = (D.ask o (k1, k2) m).2 := rfl
    rw [hact]
    have HA := Lib.hid (ask_any (h1.tb.gr (Gr.refl W1).drew) hs.inv (by have := hs.oo; omega) (by have := hs.kk; omega) ha.o ha.k m)
    have HD : Hid (∀ V (B5 : Tag → Option Nat) (T5 : Tb), PmAt w0 V t km om B5 T5 d hv lv D → Calls Tryz.prog 10 #[.pointer (some ⟨d, 0, none⟩), .int .u64 (o : Int), .agg #[.int .i64 k1, .int .i64 k2], .int .i64 m] V (RetDA w0.heap.size d hv lv (D.ask o (k1, k2) m) V)) := Lib.hid fun V B5 T5 hV => dAsk_any hV.dt hV.gr.size (by have := hs.len; omega) (by have := hs.len; omega) o (k1, k2) m
    have HP := Lib.hid fun (R : Bool) (hR : T.may o (k1, k2) m = false → RingOk T o (k1, k2) R) => hs.ask hn (m := m) ha.o ha.k hR
    have HX := Lib.hid (And.intro h1 (And.intro b1 (And.intro hnb (And.intro hab (And.intro g1 hW1)))))
    have x0 := b1.cell 0
    have x1 := b1.cell 1
    have x2 := b1.cell 2
    have x3 := b1.cell 3
    have x4 := b1.cell 4
    simp at x0 x1 x2 x3 x4
    obtain ⟨r, hr⟩ : ∃ r, r = (D.ask o (k1, k2) m).1 := ⟨_, rfl⟩
    have Hr := Lib.hid hr
    clear h hs h1 g1 hW1 b1 hnb hab hact ha hr
    dsimp only [kv] at HA
    go_enter Tryz.func7, Tryz.ntmps7
    go_upto_region 1 with fail
    rw [show (w.alloc (.cells #[.bool false, .int .u64 (o : Int), .int .i64 k1, .int .i64 k2, .int .i64 m] 36)) = W1 from HX.out.2.2.2.2.2.symm, ← HX.out.2.2.2.1]
    go_upto_region 3 with fail
    go_region_held3 (fun V => V.cell? ⟨ab, 1, none⟩ = some (.int .u64 (o : Int)) ∧ V.cell? ⟨ab, 2, none⟩ = some (.int .i64 k1) ∧ V.cell? ⟨ab, 3, none⟩ = some (.int .i64 k2) ∧ V.cell? ⟨ab, 4, none⟩ = some (.int .i64 m)) (first | exact ⟨x1, x2, x3, x4⟩ | exact ⟨y1, y2, y3, y4⟩ | exact ⟨z1, z2, z3, z4⟩) (first
      | (go_at_call 12; refine HA.out.mono ?_; rintro e w5 ⟨R, hR, B5, rfl, ht5, hn5⟩; obtain ⟨hq1, hq2⟩ := HP.out R hR; rw [← hq1, ← Hr.out]; have P5 := (HX.out.1.more (Gr.refl W1).drew).turnT ht5 hn5; have b5 : Blk w5 ab TAl _ := (HX.out.2.1.gr (Gr.refl W1).drew).stays (hn5.onl.block ab (by simpa using HX.out.2.1.lt) (fun e => HX.out.2.2.1 (.inl e))); have y1 := b5.cell 1; have y2 := b5.cell 2; have y3 := b5.cell 3; have y4 := b5.cell 4; simp at y1 y2 y3 y4; have H5 := Lib.hid (And.intro P5 (And.intro b5 (And.intro hq2 hn5))); clear P5 b5 hq1 hq2 ht5 hn5 hR)
      | (go_at_call 11; refine (num_any _ _).mono ?_; rintro e w8 ⟨rfl, rfl⟩)
      | (go_at_call 10; refine (HD.out _ B5 _ H5.out.1).mono ?_; rintro e w6 ⟨rfl, hv6, lv6, t6, k6⟩; rw [← Hr.out]; have P6 := H5.out.1.turnD t6 k6; have b6 : Blk w6 ab TAl _ := H5.out.2.1.stays (k6.blk ab H5.out.2.1.lt (fun e => HX.out.2.2.1 (.inr e))); have z1 := b6.cell 1; have z2 := b6.cell 2; have z3 := b6.cell 3; have z4 := b6.cell 4; simp at z1 z2 z3 z4; have H6 := Lib.hid (And.intro P6 k6); clear P6 b6 t6 k6))
    have HE := Lib.hid (show RetDo w0 t km om B d hv lv (D.ask o (k1, k2) m).2 n w (.returned (.bool true)) w6 from ⟨rfl, B5, _, hv6, lv6, H6.out.1, H5.out.2.2.1,
      ((DTn.of_gr (Gr.trans HX.out.2.2.2.2.1 (Gr.refl W1).drew)).trans ((tn_dtn H5.out.2.2.2).left (P := DB d hv lv))).trans (H6.out.2.right (P := FB B5))⟩)
    clear z1 z2 z3 z4
    go_wp2_with fail
    go_ret
    exact HE.out
end
end Go.Proofs.YtadopbpfnnpnaaaGreat

/-
  The code's table of locks: Held of a nil or zero table; the law's nothing.
-/
namespace Go.Proofs.YtadopbpfnnpnaaaGreat
open Go.RowKit Go.Maps Go.Shelf
attribute [local go_sem] Oper.semAt_some

abbrev TMds : TypeId := 109
end Go.Proofs.YtadopbpfnnpnaaaGreat

/-
  The code's table of locks: Held.
-/
namespace Go.Proofs.YtadopbpfnnpnaaaGreat
open Go.RowKit Go.Maps

abbrev TMd : TypeId := 34
def i64v (n : Int) : Value := .int .i64 n
/-- A row of modes of the call's own. -/
def Ms (w : World) (base : Nat) (v : Value) (ms : List Int) : Prop := w.ownsRow base TMd 1 v ms.length (ms.map i64v)
theorem md_info : (Tryz.prog.info? TMd).map (fun i => (i.zero, i.size, i.bytes)) = some (some (.int .i64 0), 1, 8) := by kernel_rfl
theorem Ms.cellAt {w : World} {base g N c : Nat} {ms : List Int} (h : Ms w base (.slice (some ⟨g, 0, none⟩) N c) ms) (hN : N = ms.length) (j : Nat) (hj : j < N) : w.cell? ⟨g, j, none⟩ = some (.int .i64 (ms.getD j 0)) := by
  unfold Ms at h
  rw [← hN] at h
  rw [World.ownsRow.cellAt h j (by omega), List.getElem?_map, List.getElem?_eq_getElem (by omega)]
  simp [i64v, List.getD, show j < ms.length by omega]
theorem Ms.frozenAt {w : World} {base g N c : Nat} {ms : List Int} (h : Ms w base (.slice (some ⟨g, 0, none⟩) N c) ms) (hN : N = ms.length) (j : Nat) : w.frozen? ⟨g, j, none⟩ = false := by
  unfold Ms at h
  rw [← hN] at h
  exact World.ownsRow.frozenAt h j
theorem Ms.put {w : World} {base g N c : Nat} {ms : List Int} (h : Ms w base (.slice (some ⟨g, 0, none⟩) N c) ms) (hN : N = ms.length) (j : Nat) (x : Int) :
    Ms (w.setCell ⟨g, j, none⟩ (.int .i64 x)) base (.slice (some ⟨g, 0, none⟩) N c) (ms.set j x) ∧ w.grownBy (w.setCell ⟨g, j, none⟩ (.int .i64 x)) (some g) := by
  unfold Ms at h ⊢
  rw [List.length_set, List.map_set, ← hN]
  rw [← hN] at h
  exact World.ownsRow.stored h j (.int .i64 x)
/-- A row's block: what is there, of which type. -/
theorem row_blk {w : World} {base g n c : Nat} {e : TypeId} {size : Nat} {xs : List Value} (h : w.ownsRow base e size (.slice (some ⟨g, 0, none⟩) n c) n xs) : ∃ cur, w.heap[g]? = some (.cells cur e (0, 0)) ∧ base ≤ g := by
  rcases h.2 with ⟨h0, _⟩ | ⟨g', cap', cur, h0, hb, hg, _⟩
  · cases h0
  · cases h0
    exact ⟨cur, hg, hb⟩
/-- The modes of keys. -/
def Tb.mds (T : Tb) (ks : List Key) : List Int := ks.map fun k => (T.lkOf k).mode
/-- What Held answers. -/
structure HeldAt (w0 w : World) (kb mb : Nat) (kv' mv : Value) (ks : List Key) (ms : List Int) : Prop where
  bk : Blk w kb TKs #[kv']
  bm : Blk w mb TMds #[mv]
  rk : Kr w w0.heap.size kv' ks
  rm : Ms w w0.heap.size mv ms
  kl : w0.heap.size ≤ kb
  ml : w0.heap.size ≤ mb
def RetHeld (T : Tb) (o : Nat) (w : World) (e : Ending) (w' : World) : Prop :=
  ∃ kb mb kv' mv, e = .returned (.func (.func 64) #[] #[.pointer (some ⟨kb, 0, none⟩), .pointer (some ⟨mb, 0, none⟩)]) ∧ Gr w w' ∧ HeldAt w w' kb mb kv' mv (sortK (T.of o).ks) (T.mds (sortK (T.of o).ks))
section
variable {w : World} {t km om : Nat} {B : Tag → Option Nat} {T : Tb}
set_option maxRecDepth 100000 in
set_option maxHeartbeats 4000000 in
theorem Held_any (h : TbAt w t km om B T) (ok : T.Ok) {o : Nat} (ho : KO.dom o) (hln : (T.of o).ks.length ≤ 1000000) : Calls Tryz.prog 49 #[.pointer (some ⟨t, 0, none⟩), .int .u64 (o : Int)] w (RetHeld T o w) := by
  have HO := Lib.hid (of_any h ho)
  obtain ⟨hp, hhp⟩ : ∃ hp, hp = B (.pm o) := ⟨_, rfl⟩
  obtain ⟨O1, hO1⟩ : ∃ O1, O1 = (T.of o).key.1 := ⟨_, rfl⟩
  obtain ⟨O2, hO2⟩ : ∃ O2, O2 = (T.of o).key.2 := ⟨_, rfl⟩
  obtain ⟨O3, hO3⟩ : ∃ O3, O3 = (T.of o).mode := ⟨_, rfl⟩
  unfold ofV at HO
  rw [← hhp, ← hO1, ← hO2, ← hO3] at HO
  have hhs := h.hs o
  rw [← hhp] at hhs
  obtain ⟨ks, hks⟩ : ∃ ks, ks = sortK (T.of o).ks := ⟨_, rfl⟩
  have hkl : ks.length ≤ 1000000 := by rw [hks, sortK_len]; exact hln
  have hksd : ∀ k, k ∈ ks → KL.dom k ∧ ∃ l, T.lk k = some l := fun k hk => by
    have hk2 : k ∈ (T.of o).ks := (sortK_perm _).mem_iff.1 (hks ▸ hk)
    obtain ⟨l, e, _⟩ := ok.holds o k hk2
    exact ⟨h.ks_dom o k hk2, l, e⟩
  have HH := Lib.hid (And.intro h (And.intro hhs (And.intro hln (And.intro hks (And.intro hkl hksd)))))
  clear h ok hhs hln hks hkl hksd hhp hO1 hO2 hO3 ho
  go_enter Tryz.func49, Tryz.ntmps49
  go_wp2_with fail
  refine HO.out.mono ?_
  rintro e W1 ⟨rfl, g1⟩
  have HG1 := Lib.hid g1
  clear g1
  go_wp2_with fail
  refine (sorted_any W1 O1 O2 O3 (HH.out.2.1.gr HG1.out) (Nat.le_trans HH.out.2.2.1 (by omega))).mono ?_
  rintro e W2 ⟨v, rfl, hv, g2⟩
  rw [← HH.out.2.2.2.1] at hv
  obtain ⟨p, cap, hvf, -⟩ := hv.form
  subst hvf
  obtain ⟨N, hN⟩ : ∃ N, N = ks.length := ⟨_, rfl⟩
  rw [← hN] at hv ⊢
  have g3 : Gr W2 (W2.alloc (.cells #[.slice p N cap] TKs)) := (Gr.refl W2).alloc (Nat.le_refl _) _
  have b3 := Blk.new W2 TKs #[.slice p N cap]
  obtain ⟨W3, hW3⟩ : ∃ W3, W3 = W2.alloc (.cells #[.slice p N cap] TKs) := ⟨_, rfl⟩
  obtain ⟨kb, hkb⟩ : ∃ kb, kb = W2.heap.size := ⟨_, rfl⟩
  rw [← hW3] at b3 g3
  rw [← hkb] at b3
  have gw2 := Gr.trans HG1.out g2
  have hv3 : Kr W3 w.heap.size (.slice p N cap) ks := World.ownsRow.kept (hv.base HG1.out.size) (row := none) ⟨g3.os, g3.tape, g3.output, g3.size, fun k hk _ => g3.block k hk⟩ (by
    rcases hv.2 with ⟨h0, _⟩ | ⟨g, _, _, h0, _⟩
    · exact .inl (by rw [h0]; rfl)
    · exact .inr (by rw [h0]; simp [Value.ownBlock]))
  have hkbl : w.heap.size ≤ kb := by rw [hkb]; exact gw2.size
  obtain ⟨i9, hi9, hz9, hs9, hb9⟩ := inf_parts md_info
  have hNb : N ≤ 1000000 := by rw [hN]; exact HH.out.2.2.2.2.1
  obtain ⟨w4, hmk, hm4, hg4⟩ := run_makeSlice_full (P := Tryz.prog) (w := W3) w.heap.size TMds TMd i9 (.int .i64 0) 1 Tryz.underlying109 hi9 hz9 hs9 .i64 .i64 N (by omega) (by rw [hb9]; omega) (by unfold maxLen; omega) (by have := gw2.size; have := g3.size; omega)
  have gg4 : Gr W3 w4 := ⟨hg4.os, hg4.tape, hg4.output, hg4.size, fun n hn => hg4.block n hn (by simp)⟩
  obtain ⟨mg, hmg⟩ : ∃ mg, mg = W3.heap.size := ⟨_, rfl⟩
  rw [← hmg] at hmk hm4
  have g5 : Gr w4 (w4.alloc (.cells #[.slice (some ⟨mg, 0, none⟩) N N] TMds)) := (Gr.refl w4).alloc (Nat.le_refl _) _
  have b5 := Blk.new w4 TMds #[.slice (some ⟨mg, 0, none⟩) N N]
  obtain ⟨W5, hW5⟩ : ∃ W5, W5 = w4.alloc (.cells #[.slice (some ⟨mg, 0, none⟩) N N] TMds) := ⟨_, rfl⟩
  obtain ⟨mb, hmb⟩ : ∃ mb, mb = w4.heap.size := ⟨_, rfl⟩
  rw [← hW5] at g5 b5
  rw [← hmb] at b5
  have c3 := b3.cell 0
  have c5 := (b3.gr (Gr.trans gg4 g5)).cell 0
  simp at c3 c5
  have hgrow : ∀ {V V' : World} {v' : Value} {qs : List Key} (g : Gr V V'), Kr V w.heap.size v' qs → Kr V' w.heap.size v' qs := fun {V V' v' qs} g hk => World.ownsRow.kept hk (row := none) ⟨g.os, g.tape, g.output, g.size, fun k hk _ => g.block k hk⟩ (by
    rcases hk.2 with ⟨h0, _⟩ | ⟨g, _, _, h0, _⟩
    · exact .inl (by rw [h0]; rfl)
    · exact .inr (by rw [h0]; simp [Value.ownBlock]))
  have hm5 : Ms W5 w.heap.size (.slice (some ⟨mg, 0, none⟩) N N) (List.replicate N 0) := by
    unfold Ms
    rw [List.length_replicate, List.map_replicate]
    have h9 := World.ownsRow.kept hm4 (w' := W5) (row := none) ⟨g5.os, g5.tape, g5.output, g5.size, fun k hk _ => g5.block k hk⟩ (.inr (by simp [Value.ownBlock]))
    have e9 : (madeCells (Value.int .i64 0).cells (N * 1)).toList = List.replicate N (i64v 0) := by
      rw [Nat.mul_one]
      exact toList_madeCells_one _ _
    rwa [e9] at h9
  have H5 := Lib.hid (show Gr w W5 ∧ HeldAt w W5 kb mb (.slice p N cap) (.slice (some ⟨mg, 0, none⟩) N N) ks (List.replicate N 0) from ⟨Gr.trans gw2 (Gr.trans g3 (Gr.trans gg4 g5)), b3.gr (Gr.trans gg4 g5), b5, hgrow (Gr.trans gg4 g5) hv3, hm5, hkbl, by rw [hmb]; have := gg4.size; have := g3.size; have := gw2.size; omega⟩)
  have HW := Lib.hid (And.intro hW3 (And.intro hkb (And.intro hmg (And.intro hW5 (And.intro hmb hN)))))
  clear g2 hv g3 b3 hv3 hkbl hi9 hz9 hs9 hb9 gw2 hm4 hg4 gg4 g5 b5 hgrow hm5 hW3 hkb hmg hW5 hmb hN
  go_upto_region 2 with fail
  rw [show (W2.alloc (.cells #[.slice p N cap] 74)) = W3 from HW.out.1.symm, ← HW.out.2.1]
  go_upto_region 3 with fail
  rw [show (w4.alloc (.cells #[.slice (some ⟨mg, 0, none⟩) N N] 109)) = W5 from HW.out.2.2.2.1.symm, ← HW.out.2.2.2.2.1]
  clear hmk c3
  go_wp2_with fail
  go_loopw [18] (fun i wr => ∃ j : Nat, i = .int .i64 (j : Int) ∧ j ≤ N ∧ Hid (Gr w wr ∧ HeldAt w wr kb mb (.slice p N cap) (.slice (some ⟨mg, 0, none⟩) N N) ks (T.mds (ks.take j) ++ List.replicate (N - j) 0))) (fun i _ => N - (intOf i).toNat)
  case atStart => exact ⟨0, rfl, Nat.zero_le _, Lib.hid ⟨H5.out.1, by simpa [Tb.mds] using H5.out.2⟩⟩
  case round =>
    obtain ⟨j, rfl, hj, HR⟩ := hrel
    by_cases hlt : j < N
    · have g3 : (j : Int) < (N : Int) := by omega
      obtain ⟨hgr, hH⟩ := HR.out
      obtain ⟨h, hhs, hln, hks, hkl, hksd⟩ := HH.out
      have hNk := HW.out.2.2.2.2.2
      have hjl : j < ks.length := by omega
      obtain ⟨g, hpg, -, -, k0, k1⟩ := Kr.at' hH.rk j hjl
      obtain ⟨X, hX⟩ : ∃ X, X = ks.getD j (0, 0) := ⟨_, rfl⟩
      have hXm : X = ks[j] := by rw [hX]; simp [List.getD, hjl]
      rw [← hX] at k0 k1
      obtain ⟨hXd, l, hl⟩ := hksd X (by rw [hXm]; exact List.getElem_mem hjl)
      obtain ⟨x1, x2⟩ := X
      obtain ⟨MD, hMD⟩ : ∃ MD, MD = l.mode := ⟨_, rfl⟩
      have hml : (T.mds (ks.take j) ++ List.replicate (N - j) 0).length = N := by simp [Tb.mds]; omega
      have g6 : Gr wr (wr.alloc (.cells #[.int .i64 x1, .int .i64 x2] TKey)) := (Gr.refl _).alloc (Nat.le_refl _) _
      have k6 := Blk.new wr TKey #[.int .i64 x1, .int .i64 x2]
      obtain ⟨W6, hW6⟩ : ∃ W6, W6 = wr.alloc (.cells #[.int .i64 x1, .int .i64 x2] TKey) := ⟨_, rfl⟩
      rw [← hW6] at g6 k6
      obtain ⟨xb, hxb⟩ : ∃ xb, xb = wr.heap.size := ⟨_, rfl⟩
      rw [← hxb] at k6
      have g6d : Gr wr W6.drew := Gr.trans g6 (Gr.refl _).drew
      have gw6 := Gr.trans hgr g6d
      have t6 := h.gr gw6
      obtain ⟨bl, hm', v', e1, e2, lb, lm, ln⟩ := t6.lk (x1, x2) l hl
      have ql : (Instr.lookup TMk (.map (some km)) (.agg #[.int .i64 x1, .int .i64 x2]) false).run Tryz.prog W6.drew = .ok (.pointer (some ⟨bl, 0, none⟩)) W6.drew := by
        have := t6.look hXd
        rw [e1] at this
        exact this
      have hm6 : Ms W6.drew w.heap.size (.slice (some ⟨mg, 0, none⟩) N N) (T.mds (ks.take j) ++ List.replicate (N - j) 0) := World.ownsRow.kept hH.rm (row := none) ⟨g6d.os, g6d.tape, g6d.output, g6d.size, fun k hk _ => g6d.block k hk⟩ (.inr (by simp [Value.ownBlock]))
      obtain ⟨cur, hmc, hmgl⟩ := row_blk (by have h9 := hm6; unfold Ms at h9; rw [hml] at h9; exact h9)
      have mb6 := hH.bm.gr g6d
      have kb6 := hH.bk.gr g6d
      obtain ⟨m7, gm7⟩ := hm6.put hml.symm j MD
      have hset : (T.mds (ks.take j) ++ List.replicate (N - j) 0).set j MD = T.mds (ks.take (j + 1)) ++ List.replicate (N - (j + 1)) 0 := by
        have hlt9 : (T.mds (ks.take j)).length = j := by simp [Tb.mds]; omega
        rw [List.set_append_right _ _ (by omega), hlt9, Nat.sub_self, show N - j = (N - (j + 1)) + 1 by omega, List.replicate_succ, List.set_cons_zero, List.take_succ_eq_append_getElem hjl]
        unfold Tb.mds
        rw [List.map_append, List.append_assoc, ← hXm]
        show _ = _ ++ ([(T.lkOf (x1, x2)).mode] ++ _)
        rw [lkOf_of hl, ← hMD]
        rfl
      rw [hset] at m7
      have e9 : W6.drew.setCell ⟨mg, j, none⟩ (.int .i64 MD) = (W6.setCell ⟨mg, j, none⟩ (.int .i64 MD)).drew := rfl
      obtain ⟨w7, hw7⟩ : ∃ w7, w7 = (W6.setCell ⟨mg, j, none⟩ (.int .i64 MD)).drew := ⟨_, rfl⟩
      rw [e9, ← hw7] at m7 gm7
      have hne : ∀ {n : Nat} {ty : TypeId} {cs : Array Value}, Blk W6.drew n ty cs → ty ≠ TMd → n ≠ mg := fun {n ty cs} hb ht e => by
        unfold Blk at hb
        rw [e, hmc] at hb
        injection hb with h10
        injection h10 with _ h11
        exact ht h11.symm
      have stay : ∀ {n : Nat} {ty : TypeId} {cs : Array Value}, Blk W6.drew n ty cs → ty ≠ TMd → Blk w7 n ty cs := fun {n ty cs} hb ht => hb.stays (gm7.block n hb.lt fun e => hne hb ht (by cases e; rfl))
      have gw7 : Gr w w7 := ⟨gm7.os.trans gw6.os, gm7.tape.trans gw6.tape, gm7.output.trans gw6.output, Nat.le_trans gw6.size gm7.size, fun n hn => (gm7.block n (Nat.lt_of_lt_of_le hn gw6.size) fun e => by cases e; omega).trans (gw6.block n hn)⟩
      have t7 := h.gr gw7
      have ql7 : (Instr.lookup TMk (.map (some km)) (.agg #[.int .i64 x1, .int .i64 x2]) false).run Tryz.prog w7 = .ok (.pointer (some ⟨bl, 0, none⟩)) w7 := by
        have := t7.look hXd
        rw [e1] at this
        exact this
      have hrk7 : Kr w7 w.heap.size (.slice p N cap) ks := by
        have h8 := World.ownsRow.kept hH.rk (w' := W6.drew) (row := none) ⟨g6d.os, g6d.tape, g6d.output, g6d.size, fun k hk _ => g6d.block k hk⟩ (by
          rw [hpg]; exact .inr (by simp [Value.ownBlock]))
        refine World.ownsRow.kept h8 gm7 (.inr fun e => ?_)
        rw [hpg] at e h8
        cases e
        rw [hNk] at h8
        obtain ⟨cur2, hc2, -⟩ := row_blk h8
        rw [hmc] at hc2
        injection hc2 with h10
        injection h10 with _ h11
        cases h11
      have HE := Lib.hid (show Gr w w7 ∧ HeldAt w w7 kb mb (.slice p N cap) (.slice (some ⟨mg, 0, none⟩) N N) ks (T.mds (ks.take (j + 1)) ++ List.replicate (N - (j + 1)) 0) from ⟨gw7, stay kb6 (by decide), stay mb6 (by decide), hrk7, m7, hH.kl, hH.ml⟩)
      have q0 := t6.c3.1
      have q1 := mb6.cell 0
      have q2 := k6.cell 0
      have q3 := k6.cell 1
      have q4 := lb.cell 0
      have p0 := t7.c3.1
      have p1 := (stay mb6 (by decide)).cell 0
      have p2 := (stay (show Blk W6.drew xb TKey _ from k6) (by decide)).cell 0
      have p3 := (stay (show Blk W6.drew xb TKey _ from k6) (by decide)).cell 1
      have p4 := (stay lb (by decide)).cell 0
      have q5 := hm6.cellAt hml.symm j hlt
      have q6 := hm6.frozenAt hml.symm j
      rw [← hMD] at q4 p4
      simp at q1 q2 q3 q4 p1 p2 p3 p4
      have HW6 := Lib.hid (And.intro hW6 (And.intro hxb hw7))
      have hw1 : IntKind.i64.wrap ((j : Int) + 1) = ((j + 1 : Nat) : Int) := by rw [IntWalk.i64_in _ (by omega)]; omega
      have HMe : Hid (j + 1 ≤ N ∧ N - (j + 1) < N - j) := Lib.hid ⟨by omega, by omega⟩
      subst hpg
      clear hgr hH h hhs hln hks hkl hksd hNk hjl hX hXm hXd hl hMD hml g6 k6 hW6 hxb g6d gw6 t6 e1 e2 lb lm ln hm6 hmc hmgl mb6 kb6 m7 gm7 hset hne stay gw7 t7 hrk7 hw7 hj e9
      go_upto_region 6 with fail
      rw [show (wr.alloc (.cells #[.int .i64 x1, .int .i64 x2] 33)) = W6 from HW6.out.1.symm, ← HW6.out.2.1]
      go_region_held3 (fun V => V.cell? ⟨t, 0, none⟩ = some (.map (some km)) ∧ V.cell? ⟨mb, 0, none⟩ = some (.slice (some ⟨mg, 0, none⟩) N N) ∧ V.cell? ⟨xb, 0, none⟩ = some (.int .i64 x1) ∧ V.cell? ⟨xb, 1, none⟩ = some (.int .i64 x2) ∧ V.cell? ⟨bl, 0, none⟩ = some (.int .i64 MD) ∧ (Instr.lookup TMk (.map (some km)) (.agg #[.int .i64 x1, .int .i64 x2]) false).run Tryz.prog V = .ok (.pointer (some ⟨bl, 0, none⟩)) V) (first | exact ⟨q0, q1, q2, q3, q4, ql⟩ | (rw [← HW6.out.2.2]; exact ⟨p0, p1, p2, p3, p4, ql7⟩)) (fail)
      rw [← HW6.out.2.2]
      go_wp2_with fail
      go_roundw
      case rel => exact ⟨j + 1, by simp, HMe.out.1, HE⟩
      case measure => simpa [intOf] using HMe.out.2
    · have g3 : ¬ (j : Int) < (N : Int) := by omega
      have hjN : j = N := by omega
      have HE : Hid (RetHeld T o w (.returned (.func (.func 64) #[] #[.pointer (some ⟨kb, 0, none⟩), .pointer (some ⟨mb, 0, none⟩)])) wr) := Lib.hid (by
        obtain ⟨h1, h2⟩ := HR.out
        have hNk := HW.out.2.2.2.2.2
        rw [hjN, Nat.sub_self, List.take_of_length_le (by omega), List.replicate_zero, List.append_nil] at h2
        refine ⟨kb, mb, .slice p N cap, .slice (some ⟨mg, 0, none⟩) N N, rfl, h1, ?_⟩
        rw [← HH.out.2.2.2.1]
        exact h2)
      clear hjN
      go_wp2_with fail
      go_ret
      exact HE.out
end
end Go.Proofs.YtadopbpfnnpnaaaGreat

