
/-
  All: its closure; what that gives.
-/
import Derived.Test.YtkoalabacfjgbaaCopy
import Derived.Test.YtkoalabacfjgbaaApartSame
import Derived.Test.YtkoalabacfjgbaaToldK
namespace Go.Proofs.Ytkoalabacfjgbaa
open Go.RowKit Go.Maps Go.Shelf
attribute [local go_sem] Oper.semAt_some

/-- All's answer: its closure, and the copy that this sees. -/
def RetAll (s : St) (w : World) (e : Ending) (w' : World) : Prop := ∃ Bd F b lv m L, e = .returned (.func (.func 32) #[] #[.pointer (some ⟨Bd, 0, none⟩)]) ∧ Blk w' Bd TPD #[.pointer (some ⟨b, 0, none⟩)] ∧ DkAt w' F b lv m L s ∧ Gr w w' ∧ w.heap.size ≤ Bd ∧ ∀ k, F k → w.heap.size ≤ k

set_option maxRecDepth 100000 in
theorem All_any {F : Nat → Prop} {p : Value} {s : St} (w : World) (h : Dk w F p s) (hw : s.writes ≤ 1000000000) : Calls Try.prog 11 #[p] w fun e w' => RetAll s w e w' := by
  have HC := Lib.hid (fun V (g : Gr w V) => Copy_any V (h.gr g) hw)
  clear h
  go_enter Try.func11, Try.ntmps11
  go_wp2_with fail
  refine (HC.out w (Gr.refl w)).mono ?_
  rintro e w1 ⟨v, F1, rfl, ⟨b, lv, m, L, rfl, hd⟩, g1, f1⟩
  have hB := Blk.new w1 TPD #[.pointer (some ⟨b, 0, none⟩)]
  have HE := Lib.hid (show RetAll s w (.returned (.func (.func 32) #[] #[.pointer (some ⟨w1.heap.size, 0, none⟩)])) (w1.alloc (.cells #[.pointer (some ⟨b, 0, none⟩)] TPD)) from
    ⟨w1.heap.size, F1, b, lv, m, L, rfl, hB, hd.gr (Gr.new _ _), Gr.trans g1 (Gr.new _ _), g1.size, f1⟩)
  clear hd g1 f1 hB HC hw
  go_wp2_with fail
  go_ret
  exact HE.out

/-- Is it no noughts? -/
def nzX (x : SX) : Bool := !decide (x.2 = Sec.zero)
/-- What is gone over ahead of sector k. -/
def upTo (s : St) (k : Nat) : List SX := ((List.range k).map fun i => (i, s.nw i)).filter nzX
theorem upTo_yes {s : St} {k : Nat} (h : s.nw k ≠ Sec.zero) : upTo s (k + 1) = upTo s k ++ [(k, s.nw k)] := by
  unfold upTo
  rw [List.range_succ, List.map_append, List.filter_append]
  simp [nzX, h]
theorem upTo_no {s : St} {k : Nat} (h : s.nw k = Sec.zero) : upTo s (k + 1) = upTo s k := by
  unfold upTo
  rw [List.range_succ, List.map_append, List.filter_append]
  simp [nzX, h]
theorem RoundIn.any {m m' : Nat} {P : Program} {l : Nat} {f : FuncId} {tmps : Array Value} {assign body : Code} {w : World} {R : Ending → World → Prop} (h : RoundIn Fence.wide m P l f tmps assign body w R) : RoundIn Fence.wide m' P l f tmps assign body w R :=
  ⟨trivial, fun c cs _ => h.2 c cs (room_wide _)⟩
theorem SeqToldK.told_own {B B' : Nat} (h : B ≤ B') {β : Type} {J : β → World → Prop} (k : OwnFrom B J) : OwnFrom B' J := fun s X Y row hs hg hr => k s X Y row hs hg (fun r e => ⟨Nat.le_trans h (hr r e).1, (hr r e).2⟩)
abbrev TFn : TypeId := 63

/-- A sector read in a round. -/
theorem wpListIn_load_sec {l n : Nat} {ops : Array Oper} {rest : List Oper} {op : Oper} {a : Act} {w : World} {Q : Exit → Act → World → Prop} (hw : Region.wanted op (yielded ops a.tmps) = true) (x : Operand) (ho : op.op = .load TS x)
    {b o : Nat} {s : Sec} (hc : w.rangeAt b o s.cells) (hx : a.eval x = .pointer (some ⟨b, o, none⟩))
    (h : wpListIn (Fence.wide.inRound l) n Try.prog ops Q rest (a.put op.dst (.agg (sec s))) w) : wpListIn (Fence.wide.inRound l) n Try.prog ops Q (op :: rest) a w :=
  wpListIn_step fun K hK => by
    rw [if_pos hw]
    exact Flow.oper_in (fun c e => by rw [ho] at e; cases e) (wp_load_sec x ho hc hx (hK _ _ h))
theorem pre_upTo {s : St} {pre : List SX} {k : Nat} (h : pre = (List.range pre.length).map fun i => (i, s.nw i)) (hk : k = pre.length) : pre.filter nzX = upTo s k := by
  unfold upTo
  rw [hk, ← h]
theorem pre_more {s : St} {pre : List SX} {i : Nat} {S : Sec} (h : pre = (List.range pre.length).map fun i => (i, s.nw i)) (hi : i = pre.length) (hS : S = s.nw i) : pre ++ [(i, S)] = (List.range (pre ++ [(i, S)]).length).map fun i => (i, s.nw i) := by
  rw [List.length_append, List.length_cons, List.length_nil, List.range_succ, List.map_append, ← h, hS, hi]
  rfl

set_option maxRecDepth 100000 in
set_option maxHeartbeats 4000000 in
theorem dall1_told (n : Nat) (hn : 4 ≤ n) (Bd : Nat) (F : Nat → Prop) (b : Nat) (lv : Value) (m : Nat) (L : Nat → Value) (s : St) (w : World) (hc : Blk w Bd TPD #[.pointer (some ⟨b, 0, none⟩)]) (h : DkAt w F b lv m L s) :
    SeqToldK Fence.wide n Try.prog 32 #[.pointer (some ⟨Bd, 0, none⟩)] encX (fun pre x _ => x.1 < s.ls.length ∧ x.2 = s.nw x.1 ∧ x.2 ≠ Sec.zero ∧ pre = upTo s x.1) (fun k => F k ∨ k = Bd ∨ w.heap.size ≤ k) (fun ys => ys = upTo s s.ls.length) (fun _ => True) w := fun l J Jx W hW hJ hJx hY h0 => by
  have h1 : 1 ≤ n := by omega
  have HJ := Lib.hid hJ
  have HX := Lib.hid hJx
  have HY := Lib.hid hY
  have H0 := Lib.hid h0
  have HD := Lib.hid (h.gr hW)
  have HB : Hid (Blk W Bd TPD #[.pointer (some ⟨b, 0, none⟩)]) := Lib.hid (hc.gr hW)
  have HW : Hid (w.heap.size ≤ W.heap.size) := Lib.hid hW.size
  have c0 := HB.out.cell 0
  simp at c0
  clear hW hJ hJx hY h0 h hc
  refine callsIn_of_wp_marks Try.func32 rfl trivial ?_ rfl
  simp only [Try.ntmps32, List.size_toArray, List.length_cons, List.length_nil, Nat.reduceAdd, Nat.reduceSub, Array.replicate_succ, Array.replicate_zero, List.push_toArray, List.append_toArray, List.nil_append, List.cons_append]
  obtain ⟨V0, hV0⟩ : ∃ V0, V0 = W.alloc (.cells #[.func (.yield l) #[] #[]] 63) := ⟨_, rfl⟩
  have H1 : Hid (Blk V0 W.heap.size TFn #[.func (.yield l) #[] #[]] ∧ Gr W V0 ∧ J [] V0 ∧ W.heap.size < V0.heap.size) := Lib.hid (by
    rw [hV0]
    exact ⟨Blk.new _ _ _, Gr.new _ _, HJ.out.alloc _ H0.out, by simp⟩)
  have c1 : (W.alloc (.cells #[.func (.yield l) #[] #[]] 63)).cell? ⟨Bd, 0, none⟩ = some (.pointer (some ⟨b, 0, none⟩)) := by
    have h := (HB.out.gr H1.out.2.1).cell 0
    rw [hV0] at h
    simpa using h
  have HV0 := Lib.hid hV0
  clear hV0 c0
  gi_wp2_with fail
  rw [← HV0.out]
  clear HV0 c1
  refine ⟨trivial, ?_⟩
  refine (callsIn_wide.2 (each_any _ ⟨_, rfl⟩ V0)).mono ?_
  rintro e V1 ⟨rfl, hV1⟩
  have H2 : Hid (Blk V1 W.heap.size TFn #[.func (.yield l) #[] #[]] ∧ Blk V1 V0.heap.size TPD #[.pointer (some ⟨b, 0, none⟩)] ∧ DkAt V1 F b lv m L s ∧ J [] V1 ∧ W.heap.size < V1.heap.size) := Lib.hid (by
    rw [← hV1]
    exact ⟨H1.out.1.gr (Gr.new _ _), Blk.new _ _ _, (HD.out.gr H1.out.2.1).gr (Gr.new _ _), HJ.out.alloc _ H1.out.2.2.1, by have := H1.out.2.2.2; simp; omega⟩)
  have HE : Hid (w.heap.size ≤ V0.heap.size) := Lib.hid (Nat.le_trans HW.out H1.out.2.1.size)
  clear hV1 H1 H0 HD HB
  gi_wp2_with fail
  refine wpIn_range_toldK (F := Fence.wide) rfl (by omega) (gf := 39) (lb := #[.pointer (some ⟨V0.heap.size, 0, none⟩)]) rfl trivial (enters_of Try.func39 (by kernel_rfl) rfl)
    (each1_told (n - 1) (by omega) V0.heap.size F b _ m L s V1 H2.out.2.1 H2.out.2.2.1).keeps (Below.refl _ _) (fun _ => rfl)
    (fun pre V => pre = ((List.range pre.length).map fun i => (i, s.nw i)) ∧ J (pre.filter nzX) V ∧ Blk V W.heap.size TFn #[.func (.yield l) #[] #[]]) (fun pre V => Jx (pre.filter nzX) V)
    (fun pre X Y row hs hg hr => ⟨hs.1, HJ.out _ X Y row hs.2.1 hg (fun r e => ⟨by have := (hr r e).1; have := H2.out.2.2.2.2; omega, (hr r e).2⟩), hs.2.2.held (hold_grown hg (fun r e => (hr r e).2))⟩)
    (fun pre X Y row hs hg hr => HX.out _ X Y row hs hg (fun r e => ⟨by have := (hr r e).1; have := H2.out.2.2.2.2; omega, (hr r e).2⟩))
    ⟨rfl, H2.out.2.2.2.1, H2.out.1⟩
    (fun pre x o V => x.1 = pre.length ∧ x.1 < s.ls.length ∧ x.2 = s.nw x.1 ∧ ∃ R, W.heap.size < R ∧ Blk V R TS (sec x.2) ∧ o = ({ tmps := #[.func (.yield l) #[] #[], .pointer (some ⟨Bd, 0, none⟩), .pointer (some ⟨W.heap.size, 0, none⟩), .int .i64 (x.1 : Int), .pointer (some ⟨R, 0, none⟩), .pointer (some ⟨b, 0, none⟩), .func (.func 39) #[] #[.pointer (some ⟨V0.heap.size, 0, none⟩)], .int .i64 (x.1 : Int), .agg (sec x.2), undef, undef, undef, undef, undef, undef, undef, undef, undef, undef], defers := [] } : Act)) ?hAx ?assign ?body ?done ?stop
  case assign =>
    rintro l2 pre x V K hi hx hK
    have HXx := Lib.hid hx
    have HI := Lib.hid hi
    clear hx hi
    have HZ := Lib.hid (Blk.new V TS (sec Sec.zero))
    have hz := zero_sec
    gi_wp2_with (refine wpListIn_store_sec rfl (.tmp 4) (.tmp 8) rfl HZ.out rfl rfl ?_)
    have gn : Gr V ((V.alloc (.cells (sec Sec.zero) TS)).setRow V.heap.size (sec x.2)) := below_setRow (Gr.new V (.cells (sec Sec.zero) TS)) (Nat.le_refl _) (sec x.2)
    have hj : J (pre.filter nzX) ((V.alloc (.cells (sec Sec.zero) TS)).setRow V.heap.size (sec x.2)) := HJ.out _ V _ none HI.out.2.1 ⟨gn.os, gn.tape, gn.output, gn.size, fun k hk _ => gn.block k hk⟩ (fun r e => by cases e)
    refine hK _ _ ((⟨gn.size, fun k o hk _ => (gn.block k (Array.getElem?_eq_some_iff.1 hk).1).trans hk⟩ : KeepsOthers V _).from _) ⟨gn.size, fun k o _ h1 _ => (gn.block k (Array.getElem?_eq_some_iff.1 h1).1).trans h1⟩ ⟨HI.out.1, hj, HI.out.2.2.gr gn⟩ ⟨HXx.out.1, HXx.out.2.1, HXx.out.2.2, V.heap.size, HI.out.2.2.lt, HZ.out.row _, rfl⟩
  case hAx =>
    rintro pre x o z X Y row ⟨h1, h2, h3, R, h4, h5, h6⟩ hg hr
    exact ⟨h1, h2, h3, R, h4, h5.held (hold_grown hg (fun r e => (hr r e).2)), h6⟩
  case done =>
    rintro D ys V hD hS hi hK
    have hj : J (upTo s s.ls.length) (V.putObj D (.deferred none)) := HJ.out.putObj (o := .deferred (some [])) _ (by have h := hi.2.1; rw [hS] at h; exact h) (by have := H2.out.2.2.2.2; omega) hK rfl
    have HJ9 := Lib.hid hj
    clear hi hj hS
    gi_wp2_with fail
    refine ⟨by simp, .inl ⟨_, _, rfl, run_takeDeferred hK, ?_⟩⟩
    exact ⟨_, results_none rfl _ _ _, ⟨_, rfl⟩, .inl ⟨_, rfl, HJ9.out⟩⟩
  case stop =>
    rintro D pre V hD _ hi hK
    have HJ9 := Lib.hid (HX.out.putObj (o := .deferred (some [])) (.deferred none) hi (by have := H2.out.2.2.2.2; omega) hK rfl)
    clear hi
    gi_wp2_with fail
    refine ⟨by simp, .inl ⟨_, _, rfl, run_takeDeferred hK, ?_⟩⟩
    exact ⟨_, results_none rfl _ _ _, ⟨_, rfl⟩, .inr ⟨_, trivial, HJ9.out⟩⟩
  case body =>
    rintro l2 pre x o W8 hlw hi ⟨hx1, hx2, hx3, R, hR, hbR, rfl⟩
    obtain ⟨i, S⟩ := x
    simp only at hx1 hx2 hx3 hbR
    have HI := Lib.hid hi
    have HS1 : Hid (i = pre.length ∧ i < s.ls.length ∧ S = s.nw i) := Lib.hid ⟨hx1, hx2, hx3⟩
    have HBR := Lib.hid hbR
    have HV1 := Lib.hid (show W.heap.size < V1.heap.size ∧ V1.heap.size ≤ l2 from ⟨H2.out.2.2.2.2, hlw⟩)
    have HP : Hid (pre.filter nzX = upTo s i) := Lib.hid (pre_upTo HI.out.1 HS1.out.1)
    have HP2 := Lib.hid (pre_more HI.out.1 HS1.out.1 HS1.out.2.2)
    have hq := eqi_sec
    have hz := zero_sec
    clear hi hbR hx1 hx2 hx3 hlw
    by_cases hS : S = Sec.zero
    · have hd : decide (S = Sec.zero) = true := decide_eq_true hS
      have HF : Hid ((pre ++ [(i, S)]).filter nzX = pre.filter nzX) := Lib.hid (by rw [List.filter_append]; simp [nzX, hS])
      clear hS
      gi_wp2_with (refine wpListIn_load_sec rfl (.tmp 4) rfl HBR.out.one rfl ?_)
      repeat (refine ⟨fun _ _ => trivial, ?_⟩; gi_wp2_with fail)
      exact And.intro (KeepsFrom.refl _ _) (And.intro (HoldS.refl _ _ _) ⟨HP2.out, by rw [HF.out]; exact HI.out.2.1, HI.out.2.2⟩)
    · have hd : decide (S = Sec.zero) = false := decide_eq_false hS
      have HF : Hid ((pre ++ [(i, S)]).filter nzX = pre.filter nzX ++ [(i, S)]) := Lib.hid (by rw [List.filter_append]; simp [nzX, hS])
      obtain ⟨fn, tmps, assign, body, hyl, hR2⟩ := HY.out _ (i, S) W8 HI.out.2.1 ⟨HS1.out.2.1, HS1.out.2.2, hS, HP.out⟩
      dsimp only [encX] at hyl
      have HR := Lib.hid hR2
      have n2 := HI.out.2.2.cell 0
      simp at n2
      clear hR2 hS
      gi_wp2_with (refine wpListIn_load_sec rfl (.tmp 4) rfl HBR.out.one rfl ?_)
      refine ⟨fun h => (by cases h), ?_⟩
      refine RoundIn.mono (show RoundIn (Fence.wide.inRound l2) _ _ _ _ _ _ _ _ _ from RoundIn.any HR.out) ?_
      rintro e2 V' (⟨rfl, hj2, hk, hkf⟩ | ⟨rfl, hx2, hkf⟩)
      · have HK1 : Hid (KeepsFrom V1.heap.size W8 V') := Lib.hid ⟨hkf.size, fun k o hb hk ho => hkf.same k o (by have := HV1.out.1; omega) hk ho⟩
        have HK2 : Hid (HoldS firm (fun k => F k ∨ k = V0.heap.size) W8 V') := Lib.hid ⟨hk.size, fun k o hb h1 ho => hk.same k o (hb.elim .inl (fun e => .inr (.inr (by rw [e]; exact HE.out)))) h1 ho⟩
        have HJ9 := Lib.hid (show J ((pre ++ [(i, S)]).filter nzX) V' by rw [HF.out]; exact hj2)
        have HB9 : Hid (Blk V' W.heap.size TFn #[.func (.yield l) #[] #[]]) := Lib.hid (hk.same W.heap.size _ (.inr (.inr HW.out)) HI.out.2.2 rfl)
        clear hj2 hk hkf hyl n2 HR
        gi_wp2_with fail
        exact And.intro HK1.out (And.intro HK2.out ⟨HP2.out, HJ9.out, HB9.out⟩)
      · have HK1 : Hid (KeepsFrom V1.heap.size W8 V') := Lib.hid ⟨hkf.size, fun k o hb hk ho => hkf.same k o (by have := HV1.out.1; omega) hk ho⟩
        have HJ9 := Lib.hid (show Jx ((pre ++ [(i, S)]).filter nzX) V' by rw [HF.out]; exact hx2)
        clear hx2 hkf hyl n2 HR
        gi_wp2_with fail
        exact And.intro HK1.out HJ9.out

end Go.Proofs.Ytkoalabacfjgbaa
