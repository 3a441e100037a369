
import Derived.Test.YtkoalabacfjgbaaKnownA
namespace Go.Proofs.Ytkoalabacfjgbaa
open Go.RowKit Go.Maps

/-- What the slots of the test hold. -/
def Sk (gw k : Nat) (_n8 : Nat) (S : Sec) (d : Nat) (v : Value) (_ : World) : Prop :=
  match d with
  | 56 => v = .int .i64 0
  | 57 | 58 | 64 | 65 => v = .bool false
  | 59 | 63 => v = .agg (sec S)
  | 60 => v = .slice (some ⟨gw, 0, none⟩) 4 4
  | 61 => v = .int .i64 (k : Int)
  | 62 => v = .pointer (some ⟨gw, k * 256, none⟩)
  | _ => True
/-- What the slots of the two writes hold. -/
def Sf (f : Value) (d : Nat) (v : Value) (_ : World) : Prop :=
  match d with
  | 72 | 75 => v = f
  | 73 | 76 => v = .agg (sec Sec.some1)
  | 74 | 11 => v = .int .i64 0
  | 77 | 12 => v = .int .i64 8
  | _ => True
def StA (W : World) (w : World) : Prop := Gr W w
def StB (W : World) (F : Nat → Prop) (f : Value) (s : St) (w : World) : Prop := ∃ F', Dk w F' f s ∧ Upd F F' W w
/-- The second disk's states. -/
def Ink (W : World) (F : Nat → Prop) (f : Value) (l : Nat → Bool) (w : World) : Prop := cond (l 5) (StB W F f { f2 with dead := true } w) (cond (l 2) (StB W F f f2 w) (StA W w))
theorem Ink.blk {W : World} {F : Nat → Prop} {f : Value} {l : Nat → Bool} {w : World} (h : Ink W F f l w) {n : Nat} {t : TypeId} {cs : Array Value} (hb : Blk W n t cs) (ho : Out F W n) : Blk w n t cs := by
  unfold Ink at h
  cases h5 : l 5 with
  | true =>
    rw [h5] at h
    obtain ⟨F', _, hu⟩ := h
    exact hb.upd ho hu
  | false =>
    rw [h5] at h
    cases h2 : l 2 with
    | true =>
      rw [h2] at h
      obtain ⟨F', _, hu⟩ := h
      exact hb.upd ho hu
    | false =>
      rw [h2] at h
      exact hb.gr h
theorem Ink.on {W : World} {F : Nat → Prop} {f : Value} {l : Nat → Bool} {w : World} (h : Ink W F f l w) {i : Nat} (h5 : 5 ≠ i) (h2 : 2 ≠ i) : Ink W F f (Flow.upd l i) w := by
  unfold Ink at *
  rw [Flow.upd_other l h5, Flow.upd_other l h2]
  exact h
theorem run_build_zero (w : World) : (Instr.build TS #[]).run Try.prog w = .ok (.agg (sec Sec.zero)) w := run_build w TS #[] _ built_zero
theorem k_cell (W : World) (g : Nat) (h : Blk W g TI #[.int .i64 0, .int .i64 1, .int .i64 2, .int .i64 5]) : ∀ k, k < 4 → W.cell? ⟨g, k, none⟩ = some (.int .i64 (kPick k))
  | 0, _ => h.cell 0
  | 1, _ => h.cell 1
  | 2, _ => h.cell 2
  | 3, _ => h.cell 3
  | k + 4, hk => by omega
theorem Nums.one (w : World) (P : Int) (h : 0 ≤ P ∧ P ≤ 5) : Nums (w.alloc (.cells #[.int .i64 P] TI)) (some ⟨w.heap.size, 0, none⟩) 1 1 [P] :=
  ⟨rfl, by omega, fun _ => ⟨_, _, rfl, fun i hi => by
    obtain rfl : i = 0 := by omega
    exact (Blk.new w TI #[.int .i64 P]).cell 0⟩, fun z hz => by
    simp at hz
    subst hz
    omega⟩

/-- The answer of known. -/
def RetTrue (w : World) (e : Ending) (w' : World) : Prop := e = .returned (.bool true) ∧ Gr w w'

set_option maxRecDepth 100000 in
set_option maxHeartbeats 4000000 in
theorem known_any (w : World) : Calls Try.prog 4 #[] w fun e w' => RetTrue w e w' := by
  go_enter Try.func4, Try.ntmps4
  go_wp2_with fail
  refine (New_yes 2 _ ⟨by decide, by decide⟩).mono ?_
  rintro e w1 ⟨d, F, rfl, hd, hg, hfar⟩
  have hz := zero_sec
  have e1 : (w1.alloc (.cells (sec Sec.zero) TS)).heap.size = w1.heap.size + 1 := by simp
  have hA1 : Blk (w1.alloc (.cells (sec Sec.zero) TS)) w1.heap.size TS (sec Sec.zero) := Blk.new _ _ _
  have hB2 : Blk ((w1.alloc (.cells (sec Sec.zero) TS)).alloc (.cells (sec Sec.zero) TS)) (w1.heap.size + 1) TS (sec Sec.zero) := by rw [← e1]; exact Blk.new _ _ _
  have hA2 := hA1.alloc (.cells (sec Sec.zero) TS)
  have hB3 := hB2.rowFar (k := w1.heap.size) (by omega) (sec Sec.some1)
  have hA3 := hA2.row (sec Sec.some1)
  have hB4 := hB3.row (sec Sec.some2)
  have hA4 := hA3.rowFar (k := w1.heap.size + 1) (by omega) (sec Sec.some2)
  have hG4 : Gr w1 ((((w1.alloc (.cells (sec Sec.zero) TS)).alloc (.cells (sec Sec.zero) TS)).setRow w1.heap.size (sec Sec.some1)).setRow (w1.heap.size + 1) (sec Sec.some2)) := below_setRow (below_setRow (((Gr.refl w1).alloc (Nat.le_refl _) _).alloc (by simp) _) (by omega) _) (by omega) _
  have hs4 : ((((w1.alloc (.cells (sec Sec.zero) TS)).alloc (.cells (sec Sec.zero) TS)).setRow w1.heap.size (sec Sec.some1)).setRow (w1.heap.size + 1) (sec Sec.some2)).heap.size = w1.heap.size + 2 := by simp
  have HD1 := Lib.hid hd
  have HG1 := Lib.hid hg
  have HFar := Lib.hid hfar
  have HA2 := Lib.hid hA2
  have HB3 := Lib.hid hB3
  have HA4 := Lib.hid hA4
  have HB4 := Lib.hid hB4
  have HG4 := Lib.hid hG4
  have HS4 := Lib.hid hs4
  clear hd hg hfar hA1 hB2 hA2 hB3 hA3 hB4 hA4 hG4 hs4 e1
  go_wp2_with (first | (refine wpList_build_one rfl _ rfl built_some1 rfl ?_) | (refine wpList_build_one rfl _ rfl built_some2 rfl ?_) | (refine wpList_store_sec rfl (.tmp 3) (.tmp 19) rfl HA2.out rfl rfl ?_) | (refine wpList_store_sec rfl (.tmp 4) (.tmp 20) rfl HB3.out rfl rfl ?_))
  clear HA2 HB3 hz
  refine wp_load_sec (.tmp 3) rfl HA4.out.one rfl ?_
  have hA := HA4.out
  have hB := HB4.out
  have hG := HG4.out
  have hS := HS4.out
  clear HA4 HB4 HG4 HS4
  generalize ((((w1.alloc (.cells (sec Sec.zero) TS)).alloc (.cells (sec Sec.zero) TS)).setRow w1.heap.size (sec Sec.some1)).setRow (w1.heap.size + 1) (sec Sec.some2)) = W at *
  have HDW : Hid (Dk W F d k0) := Lib.hid (HD1.out.gr hG)
  have HOA : Hid (Out F W w1.heap.size) := Lib.hid ⟨fun hf => by have := HD1.out.low _ hf; omega, by omega⟩
  have HOB : Hid (Out F W (w1.heap.size + 1)) := Lib.hid ⟨fun hf => by have := HD1.out.low _ hf; omega, by omega⟩
  have HA := Lib.hid hA
  have HB := Lib.hid hB
  have HGW := Lib.hid (Gr.trans HG1.out hG)
  obtain ⟨n, hn⟩ : ∃ n, w1.heap.size = n := ⟨_, rfl⟩
  rw [hn] at HOA HOB HA HB ⊢
  clear hA hB hG hS HD1 HG1 hn
  go_wp2_with fail
  refine (Write_yes W HDW.out 1 (by decide) Sec.some1 k0_ok (by decide)).mono ?_
  rintro e w2 ⟨F2, rfl, hd, hu⟩
  have HD2 : Hid (Dk w2 F2 d k1) := Lib.hid hd
  have HU2 := Lib.hid hu
  have HOA2 := Lib.hid (HOA.out.upd hu)
  have HOB2 := Lib.hid (HOB.out.upd hu)
  have HA2 := Lib.hid (HA.out.upd HOA.out hu)
  have HB2 := Lib.hid (HB.out.upd HOB.out hu)
  clear hd hu HOA HOB HA HB HDW
  go_wp2_with fail
  refine wp_load_sec (.tmp 4) rfl HB2.out.one rfl ?_
  go_wp2_with fail
  refine (Write_yes w2 HD2.out 1 (by decide) Sec.some2 k1_ok (by decide)).mono ?_
  rintro e w3 ⟨F3, rfl, hd, hu⟩
  have HD3 : Hid (Dk w3 F3 d k2) := Lib.hid hd
  have HU3 := Lib.hid (HU2.out.trans hu)
  have HOA3 := Lib.hid (HOA2.out.upd hu)
  have HOB3 := Lib.hid (HOB2.out.upd hu)
  have HA3 := Lib.hid (HA2.out.upd HOA2.out hu)
  have HB3 := Lib.hid (HB2.out.upd HOB2.out hu)
  have HG3 : Hid (Gr w w3) := Lib.hid (Below.trans HGW.out ((HU2.out.trans hu).below HGW.out.size HFar.out))
  have HF3 : Hid (∀ k, F3 k → w.heap.size ≤ k) := Lib.hid ((HU2.out.trans hu).from HGW.out.size HFar.out)
  clear hd hu HOA2 HOB2 HA2 HB2 HD2 HU2 HGW HFar
  go_wp2_with (first | (refine wpList_build_zero rfl rfl ?_) | (refine wpList_load_sec rfl (.tmp 3) rfl HA3.out.one rfl ?_) | (refine wpList_load_sec rfl (.tmp 4) rfl HB3.out.one rfl ?_) | (refine wpList_build_four rfl (.tmp 35) (.tmp 36) (.tmp 37) (.tmp 38) rfl rfl rfl rfl rfl ?_))
  have hg0 : Gr w3 ((w3.alloc (.cells (cellsOf [Sec.zero, Sec.some1, Sec.some2, Sec.some2]).toArray TS)).alloc (.cells #[.int .i64 0, .int .i64 1, .int .i64 2, .int .i64 5] TI)) := ((Gr.refl w3).alloc (Nat.le_refl _) _).alloc (by simp) _
  have hwt := (Row.lit w3 [Sec.zero, Sec.some1, Sec.some2, Sec.some2] 4 rfl (by omega)).gr ((Gr.refl (w3.alloc (.cells (cellsOf [Sec.zero, Sec.some1, Sec.some2, Sec.some2]).toArray TS))).alloc (Nat.le_refl _) (.cells #[.int .i64 0, .int .i64 1, .int .i64 2, .int .i64 5] TI))
  have hpk : Blk ((w3.alloc (.cells (cellsOf [Sec.zero, Sec.some1, Sec.some2, Sec.some2]).toArray TS)).alloc (.cells #[.int .i64 0, .int .i64 1, .int .i64 2, .int .i64 5] TI)) (w3.heap.size + 1) TI #[.int .i64 0, .int .i64 1, .int .i64 2, .int .i64 5] := by
    have := Blk.new (w3.alloc (.cells (cellsOf [Sec.zero, Sec.some1, Sec.some2, Sec.some2]).toArray TS)) TI #[.int .i64 0, .int .i64 1, .int .i64 2, .int .i64 5]
    simpa using this
  have hd0 := HD3.out.gr hg0
  have ha0 := HA3.out.gr hg0
  have hgw0 := Gr.trans HG3.out hg0
  clear HB3 HOB3 HA3 HD3 HOA3 HU3 HF3 HG3 hg0
  generalize ((w3.alloc (.cells (cellsOf [Sec.zero, Sec.some1, Sec.some2, Sec.some2]).toArray TS)).alloc (.cells #[.int .i64 0, .int .i64 1, .int .i64 2, .int .i64 5] TI)) = W0 at *
  have HD0 := Lib.hid hd0
  have HA0 := Lib.hid ha0
  have HG0 := Lib.hid hgw0
  have HWt := Lib.hid hwt
  have HPk := Lib.hid (k_cell W0 _ hpk)
  clear hd0 ha0 hgw0 hwt
  obtain ⟨gw, hgw⟩ : ∃ gw, w3.heap.size = gw := ⟨_, rfl⟩
  rw [hgw] at HWt HPk hpk ⊢
  have HPb := Lib.hid hpk
  clear hgw hpk
  go_loopw [7] (fun i wr => ∃ k : Nat, k ≤ 4 ∧ i = .int .i64 k ∧ Hid (Gr W0 wr)) (fun i _ => 4 - (intOf i).toNat)
  case atStart => exact ⟨0, by omega, rfl, Gr.refl _⟩
  case round =>
    obtain ⟨k, hk, rfl, hgr⟩ := hrel
    by_cases hlt : k < 4
    · have hci : wr.cell? ⟨gw + 1, k, none⟩ = some (.int .i64 (kPick k)) := by
        rw [hgr.out.cell (show (⟨gw + 1, k, none⟩ : Addr).block < W0.heap.size from HPb.out.lt)]
        exact HPk.out k hlt
      have HN := Lib.hid (Nums.one wr (kPick k) (kPick_ok k hlt))
      have HS := Lib.hid (k_want k hlt)
      obtain ⟨P, hP⟩ : ∃ P, P = kPick k := ⟨_, rfl⟩
      rw [← hP] at hci HN HS
      have HDa := Lib.hid ((HD0.out.gr hgr.out).gr ((Gr.refl wr).alloc (Nat.le_refl _) (.cells #[.int .i64 P] TI)))
      have HGa := Lib.hid (Gr.trans hgr.out ((Gr.refl wr).alloc (Nat.le_refl _) (.cells #[.int .i64 P] TI)))
      clear hP hgr
      go_wp2_with fail
      refine (Crash_any _ HDa.out (by decide) _ _ _ [P] HN.out).mono ?_
      rintro e w4 ⟨p, F4, rfl, hd4, hg4, _⟩
      have HD4 := Lib.hid hd4
      have HG4 := Lib.hid (Gr.trans HGa.out hg4)
      clear hd4 hg4 HDa HGa HN hci
      go_wp2_with fail
      refine (Read_yes w4 HD4.out 1 (by simp [St.crash, fresh, k2, k1, k0, St.wrote])).mono ?_
      rintro e w5 ⟨rfl, g5⟩
      rw [HS.out]
      have HZ := Lib.hid (Blk.new w5 TS (sec Sec.zero))
      have hz := zero_sec
      have HG5 := Lib.hid (show Gr W0 ((w5.alloc (.cells (sec Sec.zero) TS)).setRow w5.heap.size (sec (kWant k))) from below_setRow ((Gr.trans HG4.out g5).alloc (Gr.trans HG4.out g5).size _) (Gr.trans HG4.out g5).size _)
      have HX := Lib.hid (HZ.out.row (sec (kWant k)))
      clear g5 HD4 HG4 HS
      go_wp2_with (refine wpList_store_sec rfl (.tmp 8) (.tmp 54) rfl HZ.out rfl rfl ?_)
      have hgx := HG5.out
      have hxx := HX.out
      clear HG5 HX HZ hz
      obtain ⟨n8, hn8⟩ : ∃ n8, w5.heap.size = n8 := ⟨_, rfl⟩
      generalize ((w5.alloc (.cells (sec Sec.zero) TS)).setRow w5.heap.size (sec (kWant k))) = W6 at *
      rw [hn8] at hxx ⊢
      have HG6 := Lib.hid hgx
      have HX6 : Hid (∀ W, Gr W6 W → W.rangeAt n8 0 (kWant k).cells) := Lib.hid fun W h => (hxx.gr h).one
      have HW6 : Hid (∀ W, Gr W6 W → W.rangeAt gw (k * 256) (kWant k).cells) := Lib.hid fun W h => by
        have hr := (HWt.out.gr (Gr.trans hgx h)).lies k (by simpa using hlt)
        have e : [Sec.zero, Sec.some1, Sec.some2, Sec.some2][k]'(by simpa using hlt) = kWant k := by unfold kWant; simp [List.getD, hlt]
        rw [e] at hr
        exact hr
      clear hgx hxx hn8
      refine Flow.region (Sk gw k n8 (kWant k)) (Gr W6) (fun _ _ => True) (by kernel_rfl) (by kernel_rfl) (fun _ _ _ _ h _ => h) ⟨rfl, rfl, rfl, Nat.le_refl _, fun _ _ => rfl⟩ ?steps ?fin
      case fin =>
        intro a W hfr hfin hsl
        have s65 : a.tmps.getD 65 undef = .bool false := hsl 9 _ 65 rfl rfl
        have t65 : a.tmps[65]?.getD undef = .bool false := by simpa using s65
        clear hsl s65
        have e := Flow.frame hfr [56, 57, 58, 59, 60, 61, 62, 63, 64, 65] (List.range 106) (by kernel_rfl) (by kernel_rfl)
        simp [List.range, List.range.loop] at e
        rw [t65] at e
        rw [e]
        clear e hfr t65
        have HGf := Lib.hid (Gr.trans HG6.out hfin)
        clear hfin HX6 HW6 HG6
        rename_i K2 hK2
        refine hK2 _ _ ?_
        go_wp2
        go_roundw
        case rel => exact ⟨k + 1, by omega, by go_num, HGf⟩
        case measure => simp [intOf]; omega
      case steps =>
        refine Flow.Steps.cons (fun a W hfr hinv hdep K hK => ?_) ?_
        · have s9 : a.tmps.getD 9 undef = .int .i64 0 := hfr.at 9 (by kernel_rfl)
          have t9 : a.tmps[9]?.getD undef = .int .i64 0 := by simpa using s9
          rw [if_pos (Flow.wanted_none rfl)]
          clear hfr hdep
          go_simp
          exact hK _ _ True.intro hinv (fun d hd => by cases hd; rfl)
        refine Flow.Steps.cons (fun a W hfr hinv hdep K hK => ?_) ?_
        · have s56 : a.tmps.getD 56 undef = .int .i64 0 := hdep 56 (by kernel_rfl)
          have t56 : a.tmps[56]?.getD undef = .int .i64 0 := by simpa using s56
          rw [if_pos (Flow.wanted_none rfl)]
          clear hfr hdep
          go_simp
          exact hK _ _ True.intro hinv (fun d hd => by cases hd; rfl)
        refine Flow.Steps.cons (fun a W hfr hinv hdep K hK => ?_) ?_
        · have s57 : a.tmps.getD 57 undef = .bool false := hdep 57 (by kernel_rfl)
          have t57 : a.tmps[57]?.getD undef = .bool false := by simpa using s57
          rw [if_pos (Flow.wanted_none rfl)]
          clear hfr hdep
          go_simp
          exact hK _ _ True.intro hinv (fun d hd => by cases hd; rfl)
        refine Flow.Steps.cons (fun a W hfr hinv hdep K hK => ?_) ?_
        · have sg : a.tmps.getD 58 undef = .bool false := hdep 58 (by kernel_rfl)
          have s8 : a.tmps.getD 8 undef = .pointer (some ⟨n8, 0, none⟩) := hfr.at 8 (by kernel_rfl)
          have t8 : a.tmps[8]?.getD undef = .pointer (some ⟨n8, 0, none⟩) := by simpa using s8
          rw [if_pos (Flow.wanted_yes 2 false 58 rfl (by kernel_rfl) sg)]
          clear hfr hdep
          refine wp_load_sec (.tmp 8) rfl (HX6.out W hinv) (by simpa [Act.eval] using s8) ?_
          exact hK _ _ True.intro hinv (fun d hd => by cases hd; rfl)
        refine Flow.Steps.cons (fun a W hfr hinv hdep K hK => ?_) ?_
        · have sg : a.tmps.getD 58 undef = .bool false := hdep 58 (by kernel_rfl)
          have s5 : a.tmps.getD 5 undef = .slice (some ⟨gw, 0, none⟩) 4 4 := hfr.at 5 (by kernel_rfl)
          have t5 : a.tmps[5]?.getD undef = .slice (some ⟨gw, 0, none⟩) 4 4 := by simpa using s5
          rw [if_pos (Flow.wanted_yes 2 false 58 rfl (by kernel_rfl) sg)]
          clear hfr hdep
          go_simp
          exact hK _ _ True.intro hinv (fun d hd => by cases hd; rfl)
        refine Flow.Steps.cons (fun a W hfr hinv hdep K hK => ?_) ?_
        · have sg : a.tmps.getD 58 undef = .bool false := hdep 58 (by kernel_rfl)
          have s7 : a.tmps.getD 7 undef = .int .i64 (k : Int) := hfr.at 7 (by kernel_rfl)
          have t7 : a.tmps[7]?.getD undef = .int .i64 (k : Int) := by simpa using s7
          rw [if_pos (Flow.wanted_yes 2 false 58 rfl (by kernel_rfl) sg)]
          clear hfr hdep
          go_simp
          exact hK _ _ True.intro hinv (fun d hd => by cases hd; rfl)
        refine Flow.Steps.cons (fun a W hfr hinv hdep K hK => ?_) ?_
        · have sg : a.tmps.getD 58 undef = .bool false := hdep 58 (by kernel_rfl)
          have s60 : a.tmps.getD 60 undef = .slice (some ⟨gw, 0, none⟩) 4 4 := hdep 60 (by kernel_rfl)
          have t60 : a.tmps[60]?.getD undef = .slice (some ⟨gw, 0, none⟩) 4 4 := by simpa using s60
          have s61 : a.tmps.getD 61 undef = .int .i64 (k : Int) := hdep 61 (by kernel_rfl)
          have t61 : a.tmps[61]?.getD undef = .int .i64 (k : Int) := by simpa using s61
          rw [if_pos (Flow.wanted_yes 2 false 58 rfl (by kernel_rfl) sg)]
          clear hfr hdep
          go_simp
          exact hK _ _ True.intro hinv (fun d hd => by cases hd; rfl)
        refine Flow.Steps.cons (fun a W hfr hinv hdep K hK => ?_) ?_
        · have sg : a.tmps.getD 58 undef = .bool false := hdep 58 (by kernel_rfl)
          have s62 : a.tmps.getD 62 undef = .pointer (some ⟨gw, k * 256, none⟩) := hdep 62 (by kernel_rfl)
          have t62 : a.tmps[62]?.getD undef = .pointer (some ⟨gw, k * 256, none⟩) := by simpa using s62
          rw [if_pos (Flow.wanted_yes 2 false 58 rfl (by kernel_rfl) sg)]
          clear hfr hdep
          refine wp_load_sec (.tmp 62) rfl (HW6.out W hinv) (by simpa [Act.eval] using s62) ?_
          exact hK _ _ True.intro hinv (fun d hd => by cases hd; rfl)
        refine Flow.Steps.cons (fun a W hfr hinv hdep K hK => ?_) ?_
        · have sg : a.tmps.getD 58 undef = .bool false := hdep 58 (by kernel_rfl)
          have s59 : a.tmps.getD 59 undef = .agg (sec (kWant k)) := hdep 59 (by kernel_rfl)
          have t59 : a.tmps[59]?.getD undef = .agg (sec (kWant k)) := by simpa using s59
          have s63 : a.tmps.getD 63 undef = .agg (sec (kWant k)) := hdep 63 (by kernel_rfl)
          have t63 : a.tmps[63]?.getD undef = .agg (sec (kWant k)) := by simpa using s63
          have hq := eqi_sec
          rw [if_pos (Flow.wanted_yes 2 false 58 rfl (by kernel_rfl) sg)]
          clear hfr hdep
          go_simp
          exact hK _ _ True.intro hinv (fun d hd => by cases hd; rfl)
        refine Flow.Steps.cons (fun a W hfr hinv hdep K hK => ?_) ?_
        · have s58 : a.tmps.getD 58 undef = .bool false := hdep 58 (by kernel_rfl)
          have t58 : a.tmps[58]?.getD undef = .bool false := by simpa using s58
          have s64 : a.tmps.getD 64 undef = .bool false := hdep 64 (by kernel_rfl)
          have t64 : a.tmps[64]?.getD undef = .bool false := by simpa using s64
          rw [if_pos (Flow.wanted_none rfl)]
          clear hfr hdep
          go_simp
          exact hK _ _ True.intro hinv (fun d hd => by cases hd; rfl)
        exact True.intro
    · obtain rfl : k = 4 := by omega
      have HA := Lib.hid (HA0.out.gr hgr.out)
      have HG := Lib.hid (Gr.trans HG0.out hgr.out)
      clear HD0 HA0 HG0 HPk HWt HPb hgr
      go_wp2_with fail
      refine (New_yes 2 _ ⟨by decide, by decide⟩).mono ?_
      rintro e w5 ⟨f, F, rfl, hd, hg, hfar⟩
      have HD5 : Hid (Dk w5 F f k0) := Lib.hid hd
      have HA5 := Lib.hid (HA.out.gr hg)
      have HG5 := Lib.hid (Gr.trans HG.out hg)
      have HFar : Hid (∀ k, F k → w.heap.size ≤ k) := Lib.hid fun k hk => by have := hfar k hk; have := HG.out.size; omega
      have HO5 : Hid (Out F w5 n) := Lib.hid ⟨fun hf => by have := hfar n hf; have := HA.out.lt; omega, HA5.out.lt⟩
      clear hd hg hfar HA HG
      go_wp2_with fail
      refine (Fuse_any w5 HD5.out 1 (by decide) (by decide)).mono ?_
      rintro e W7 ⟨rfl, hd, hu⟩
      have HD7 : Hid (Dk W7 F f f1) := Lib.hid hd
      have HA7 := Lib.hid (HA5.out.upd HO5.out hu)
      have HO7 := Lib.hid (HO5.out.upd hu)
      have HG7 : Hid (Gr w W7) := Lib.hid (Below.trans HG5.out (hu.below HG5.out.size HFar.out))
      clear hd hu HD5 HA5 HO5 HG5
      obtain ⟨F7, hF7⟩ : ∃ F7, F7 = F := ⟨_, rfl⟩
      rw [← hF7] at HD7 HO7 HFar
      clear hF7
      go_wp2_with fail
      refine Flow.regionS [11, 12] 12 (Sf f) (Ink W7 F7 f) (fun _ _ _ => True) (by kernel_rfl) (by kernel_rfl) (fun _ _ _ _ _ _ h _ => h) ⟨rfl, rfl, rfl, Nat.le_refl _, fun _ _ => rfl⟩ ?steps ?fin
      case fin =>
        intro a W l hfr hall hinv hsl
        have s11 : a.tmps.getD 11 undef = .int .i64 0 := hsl 6 _ 11 rfl rfl (by simp)
        have s12 : a.tmps.getD 12 undef = .int .i64 8 := hsl 7 _ 12 rfl rfl (by simp)
        have t11 : a.tmps[11]?.getD undef = .int .i64 0 := by simpa using s11
        have t12 : a.tmps[12]?.getD undef = .int .i64 8 := by simpa using s12
        have h5 : l 5 = true := hall 5 (by decide)
        clear hsl s11 s12 hall
        have e := Flow.frame hfr [72, 73, 74, 75, 76, 77, 11, 12] (List.range 106) (by kernel_rfl) (by kernel_rfl)
        simp [List.range, List.range.loop] at e
        rw [t11, t12] at e
        rw [e]
        clear e hfr t11 t12
        unfold Ink at hinv
        rw [h5] at hinv
        obtain ⟨F9, hd9, hu9⟩ := hinv
        have HD9 := Lib.hid hd9
        have HG9 : Hid (Gr w W) := Lib.hid (Below.trans HG7.out (hu9.below HG7.out.size HFar.out))
        clear hd9 hu9 h5 HD7 HA7 HO7 HG7 HFar
        rename_i K2 hK2
        refine hK2 _ _ ?_
        go_wp2_with fail
        refine (Read_yes W HD9.out 1 (by decide)).mono ?_
        rintro e w10 ⟨rfl, g10⟩
        have hv : ({ f2 with dead := true } : St).nw 1 = Sec.zero := rfl
        rw [hv]
        have HD10 := Lib.hid (HD9.out.gr (Gr.trans g10 (below_setRow ((Gr.refl w10).alloc (Nat.le_refl _) (.cells (sec Sec.zero) TS)) (Nat.le_refl _) (sec Sec.zero))))
        have HG10 := Lib.hid (Gr.trans (Gr.trans HG9.out g10) (below_setRow ((Gr.refl w10).alloc (Nat.le_refl _) (.cells (sec Sec.zero) TS)) (Nat.le_refl _) (sec Sec.zero)))
        have HZ := Lib.hid (Blk.new w10 TS (sec Sec.zero))
        have HX := Lib.hid (HZ.out.row (sec Sec.zero))
        have hz := zero_sec
        clear g10 HD9 HG9 hv
        go_wp2_with (refine wpList_store_sec rfl (.tmp 13) (.tmp 81) rfl HZ.out rfl rfl ?_)
        refine wp_load_sec (.tmp 13) rfl HX.out.one rfl ?_
        have hq := eqi_sec
        have hbz := run_build_zero
        go_wp2_with fail
        refine (Dead_any _ HD10.out).mono ?_
        rintro e w11 ⟨rfl, rfl⟩
        go_wp2_with fail
        go_ret
        exact ⟨rfl, HG10.out⟩
      case steps =>
        refine Flow.StepsS.cons (fun l a W hfr hun hup hdn hinv hdep K hK => ?_) ?_
        · have s10 : a.tmps.getD 10 undef = f := hfr.at 10 (by kernel_rfl)
          have t10 : a.tmps[10]?.getD undef = f := by simpa using s10
          rw [if_pos (Flow.wanted_none rfl)]
          clear hfr hdep hun hup hdn
          go_simp
          exact hK _ _ True.intro (Ink.on hinv (by decide) (by decide)) (fun d hd => by cases hd; rfl)
        refine Flow.StepsS.cons (fun l a W hfr hun hup hdn hinv hdep K hK => ?_) ?_
        · have s3 : a.tmps.getD 3 undef = .pointer (some ⟨n, 0, none⟩) := hfr.at 3 (by kernel_rfl)
          have t3 : a.tmps[3]?.getD undef = .pointer (some ⟨n, 0, none⟩) := by simpa using s3
          rw [if_pos (Flow.wanted_none rfl)]
          clear hfr hdep
          refine wp_load_sec (.tmp 3) rfl (hinv.blk HA7.out HO7.out).one (by simpa [Act.eval] using s3) ?_
          exact hK _ _ True.intro (Ink.on hinv (by decide) (by decide)) (fun d hd => by cases hd; rfl)
        refine Flow.StepsS.cons (fun l a W hfr hun hup hdn hinv hdep K hK => ?_) ?_
        · have s72 : a.tmps.getD 72 undef = f := hdep 72 (by kernel_rfl)
          have t72 : a.tmps[72]?.getD undef = f := by simpa using s72
          have s73 : a.tmps.getD 73 undef = .agg (sec Sec.some1) := hdep 73 (by kernel_rfl)
          have t73 : a.tmps[73]?.getD undef = .agg (sec Sec.some1) := by simpa using s73
          rw [if_pos (Flow.wanted_none rfl)]
          clear hfr hdep
          have e5 : l 5 = false := hup 5 (by decide) (by kernel_rfl)
          clear hup hdn
          have hinv2 : StA W7 W := by unfold Ink at hinv; rw [e5, hun] at hinv; exact hinv
          go_simp
          refine (Write_yes W (HD7.out.gr hinv2) 0 (by decide) Sec.some1 f1_ok (by decide)).mono ?_
          rintro e W' ⟨F', rfl, hd, hu⟩
          exact hK _ _ True.intro (by unfold Ink; rw [Flow.upd_other l (by decide), e5, Flow.upd_same]; exact ⟨F', hd, (Upd.of_gr hinv2).trans hu⟩) (fun d hd => by cases hd; rfl)
        refine Flow.StepsS.cons (fun l a W hfr hun hup hdn hinv hdep K hK => ?_) ?_
        · have s10 : a.tmps.getD 10 undef = f := hfr.at 10 (by kernel_rfl)
          have t10 : a.tmps[10]?.getD undef = f := by simpa using s10
          rw [if_pos (Flow.wanted_none rfl)]
          clear hfr hdep hun hup hdn
          go_simp
          exact hK _ _ True.intro (Ink.on hinv (by decide) (by decide)) (fun d hd => by cases hd; rfl)
        refine Flow.StepsS.cons (fun l a W hfr hun hup hdn hinv hdep K hK => ?_) ?_
        · have s3 : a.tmps.getD 3 undef = .pointer (some ⟨n, 0, none⟩) := hfr.at 3 (by kernel_rfl)
          have t3 : a.tmps[3]?.getD undef = .pointer (some ⟨n, 0, none⟩) := by simpa using s3
          rw [if_pos (Flow.wanted_none rfl)]
          clear hfr hdep
          refine wp_load_sec (.tmp 3) rfl (hinv.blk HA7.out HO7.out).one (by simpa [Act.eval] using s3) ?_
          exact hK _ _ True.intro (Ink.on hinv (by decide) (by decide)) (fun d hd => by cases hd; rfl)
        refine Flow.StepsS.cons (fun l a W hfr hun hup hdn hinv hdep K hK => ?_) ?_
        · have s75 : a.tmps.getD 75 undef = f := hdep 75 (by kernel_rfl)
          have t75 : a.tmps[75]?.getD undef = f := by simpa using s75
          have s76 : a.tmps.getD 76 undef = .agg (sec Sec.some1) := hdep 76 (by kernel_rfl)
          have t76 : a.tmps[76]?.getD undef = .agg (sec Sec.some1) := by simpa using s76
          rw [if_pos (Flow.wanted_none rfl)]
          clear hfr hdep
          have e2 : l 2 = true := hdn 2 (by decide) (by kernel_rfl)
          clear hup hdn
          have hinv2 : StB W7 F7 f f2 W := by unfold Ink at hinv; rw [e2, hun] at hinv; exact hinv
          obtain ⟨F8, hd8, hu8⟩ := hinv2
          go_simp
          refine (Write_dead W hd8 1 (by decide) Sec.some1 f2_no).mono ?_
          rintro e W' ⟨rfl, hd, hu⟩
          exact hK _ _ True.intro (by unfold Ink; rw [Flow.upd_same]; exact ⟨F8, hd, hu8.trans hu⟩) (fun d hd => by cases hd; rfl)
        refine Flow.StepsS.cons (fun l a W hfr hun hup hdn hinv hdep K hK => ?_) ?_
        · have s74 : a.tmps.getD 74 undef = .int .i64 0 := hdep 74 (by kernel_rfl)
          have t74 : a.tmps[74]?.getD undef = .int .i64 0 := by simpa using s74
          rw [if_pos (Flow.wanted_none rfl)]
          clear hfr hdep hun hup hdn
          go_simp
          exact hK _ _ True.intro (Ink.on hinv (by decide) (by decide)) (fun d hd => by cases hd; rfl)
        refine Flow.StepsS.cons (fun l a W hfr hun hup hdn hinv hdep K hK => ?_) ?_
        · have s77 : a.tmps.getD 77 undef = .int .i64 8 := hdep 77 (by kernel_rfl)
          have t77 : a.tmps[77]?.getD undef = .int .i64 8 := by simpa using s77
          rw [if_pos (Flow.wanted_none rfl)]
          clear hfr hdep hun hup hdn
          go_simp
          exact hK _ _ True.intro (Ink.on hinv (by decide) (by decide)) (fun d hd => by cases hd; rfl)
        exact True.intro

end Go.Proofs.Ytkoalabacfjgbaa
