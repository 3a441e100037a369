/-
  Texts on locks, put together: Lk33 Lk34 Lk35.
-/
import Derived.Test.YtbmcdlcoojmppaaA26
/-
  The code's table of locks: a nil or zero table.
-/
namespace Go.Proofs.Ytbmcdlcoojmppaa
open Go.RowKit Go.Maps

/-- A nil table, or a zero one. -/
def TGone (w : World) (v : Value) : Prop := v = .pointer none ∨ ∃ z, v = .pointer (some ⟨z, 0, none⟩) ∧ Blk w z TTb #[.map none, .map none, .int .i64 0]
section
variable {w w' : World} {v : Value}
theorem TGone.gr (h : TGone w v) (g : Gr w w') : TGone w' v := by
  rcases h with h | ⟨z, h, hb⟩
  · exact .inl h
  · exact .inr ⟨z, h, hb.gr g⟩
set_option maxRecDepth 100000 in
theorem missing_gone10 (h : TGone w v) : Calls Try.prog 22 #[v] w fun e w' => e = .returned (.bool true) ∧ w = w' := by
  rcases h with rfl | ⟨z, rfl, hb⟩
  · go_enter Try.func22, Try.ntmps22
    go_wp2
    go_ret
    exact ⟨rfl, rfl⟩
  · have c0 := hb.cell 0
    simp at c0
    have he : (binOp .eql TMk (.map none) (.map none)).run Try.prog w = .ok (.bool true) w := by
      unfold binOp
      rfl
    go_enter Try.func22, Try.ntmps22
    go_wp2_with fail
    go_ret
    exact ⟨rfl, rfl⟩
theorem Len_gone (h : TGone w v) : Calls Try.prog 16 #[v] w fun e w' => e = .returned (.int .i64 0) ∧ w = w' := by
  have HM := Lib.hid (missing_gone10 h)
  clear h
  go_enter Try.func16, Try.ntmps16
  go_wp2_with fail
  refine HM.out.mono ?_
  rintro e w' ⟨rfl, rfl⟩
  go_wp2_with fail
  go_ret
  exact ⟨rfl, rfl⟩
theorem Copy_gone10 (h : TGone w v) : Calls Try.prog 34 #[v] w fun e w' => e = .returned (.pointer none) ∧ w = w' := by
  have HM := Lib.hid (missing_gone10 h)
  clear h
  go_enter Try.func34, Try.ntmps34
  go_wp2_with fail
  refine HM.out.mono ?_
  rintro e w' ⟨rfl, rfl⟩
  go_wp2_with fail
  go_ret
  exact ⟨rfl, rfl⟩
theorem Free_gone (h : TGone w v) (o : Int) : Calls Try.prog 9 #[v, .int .u64 o] w fun e w' => e = .returned (.slice none 0 0) ∧ w = w' := by
  have HM := Lib.hid (missing_gone10 h)
  clear h
  go_enter Try.func9, Try.ntmps9
  go_wp2_with fail
  refine HM.out.mono ?_
  rintro e w' ⟨rfl, rfl⟩
  go_wp2_with fail
  go_ret
  exact ⟨rfl, rfl⟩
theorem Ask_gone (h : TGone w v) (o k1 k2 m : Int) : Calls Try.prog 10 #[v, .int .u64 o, .agg #[.int .i64 k1, .int .i64 k2], .int .i64 m] w fun e w' => e = .returned (.int .i64 1) ∧ Gr w w' := by
  have g1 : Gr w (w.alloc (.cells #[.int .i64 k1, .int .i64 k2] TKey)) := (Gr.refl w).alloc (Nat.le_refl _) _
  have HM := Lib.hid (missing_gone10 (h.gr g1))
  have HG := Lib.hid g1
  clear h g1
  go_enter Try.func10, Try.ntmps10
  go_wp2_with fail
  refine HM.out.mono ?_
  rintro e w' ⟨rfl, rfl⟩
  go_wp2_with fail
  go_ret
  exact ⟨rfl, HG.out⟩
set_option maxRecDepth 100000 in
theorem of_gone (h : TGone w v) (o : Int) : Calls Try.prog 25 #[v, .int .u64 o] w fun e w' => e = .returned (.agg #[.map none, .int .i64 0, .int .i64 0, .int .i64 0]) ∧ Gr w w' := by
  have g1 : Gr w (w.alloc (.cells #[.map none, .int .i64 0, .int .i64 0, .int .i64 0] TPy)) := (Gr.refl w).alloc (Nat.le_refl _) _
  have HB := Lib.hid (Blk.new w TPy #[.map none, .int .i64 0, .int .i64 0, .int .i64 0])
  have HM := Lib.hid (missing_gone10 (h.gr g1))
  have HG := Lib.hid g1
  clear h g1
  go_enter Try.func25, Try.ntmps25
  go_wp2_with fail
  refine HM.out.mono ?_
  rintro e w2 ⟨rfl, rfl⟩
  go_wp2_with fail
  exact bodyPost_ret (results_py rfl _ _ w.heap.size rfl HB.out) rfl ⟨rfl, HG.out⟩
set_option maxRecDepth 100000 in
theorem For_gone (h : TGone w v) (o : Int) : Calls Try.prog 14 #[v, .int .u64 o] w fun e w' => e = .returned (.slice none 0 0) ∧ Gr w w' := by
  have HO := Lib.hid (of_gone h o)
  clear h
  go_enter Try.func14, Try.ntmps14
  go_wp2_with fail
  refine HO.out.mono ?_
  rintro e w2 ⟨rfl, g2⟩
  have HG := Lib.hid (show Gr w (w2.alloc (.cells #[.map none, .int .i64 0, .int .i64 0, .int .i64 0] TPy)) from g2.alloc g2.size _)
  clear g2
  go_wp2_with fail
  go_ret
  exact ⟨rfl, HG.out⟩
set_option maxRecDepth 100000 in
theorem Line_gone (h : TGone w v) (k1 k2 : Int) : Calls Try.prog 20 #[v, .agg #[.int .i64 k1, .int .i64 k2]] w fun e w' => e = .returned (.slice none 0 0) ∧ Gr w w' := by
  have g1 : Gr w (w.alloc (.cells #[.int .i64 k1, .int .i64 k2] TKey)) := (Gr.refl w).alloc (Nat.le_refl _) _
  obtain ⟨W0, hW0⟩ : ∃ W0, W0 = w.alloc (.cells #[.int .i64 k1, .int .i64 k2] TKey) := ⟨_, rfl⟩
  rw [← hW0] at g1
  have HM := Lib.hid (fun q => missing_gone10 (h.gr (grD (q := q) g1)))
  have HG := Lib.hid g1
  have HW := Lib.hid hW0
  clear h g1 hW0
  go_enter Try.func20, Try.ntmps20
  go_upto_region 1 with fail
  rw [show (w.alloc (.cells #[.int .i64 k1, .int .i64 k2] 29)) = W0 from HW.out.symm]
  go_quiet (exact Calls.quiet_of ((HM.out _).mono fun _ _ h => ⟨h.1, 0, h.2.symm⟩))
  go_wp2_with fail
  go_ret
  exact ⟨rfl, grD HG.out⟩
end
end Go.Proofs.Ytbmcdlcoojmppaa

/-
  The code's table of locks: Holds and Waits of a nil or zero table.
-/
namespace Go.Proofs.Ytbmcdlcoojmppaa
open Go.RowKit Go.Maps

def SlHoldsG (tv : Value) (_ : Nat) (o : Nat) (k1 : Int) (k2 : Int) (slot : Nat) (v : Value) (_ : World) : Prop :=
  match slot with
  | 7 => v = tv
  | 8 => v = .int .u64 (o : Int)
  | 9 => v = .agg #[.map none, .int .i64 0, .int .i64 0, .int .i64 0]
  | 10 => v = .agg #[.int .i64 k1, .int .i64 k2]
  | 11 => v = .bool false
  | 12 => v = .bool true
  | _ => True


section
variable {w : World} {tv : Value}
set_option maxRecDepth 100000 in
set_option maxHeartbeats 2000000 in
theorem Holds_gone (h : TGone w tv) (o : Nat) {k : Key} (hk : KL.dom k) : Calls Try.prog 12 #[tv, .int .u64 (o : Int), kv k] w fun e w' => e = .returned (.int .i64 0) ∧ Gr w w' := by
  have g1 : Gr w (w.alloc (.cells #[.int .i64 k.1, .int .i64 k.2] TKey)) := (Gr.refl w).alloc (Nat.le_refl _) _
  have b6 := (Blk.new w TKey #[.int .i64 k.1, .int .i64 k.2])
  obtain ⟨k1, hk1⟩ : ∃ x, x = k.1 := ⟨_, rfl⟩
  obtain ⟨k2, hk2⟩ : ∃ x, x = k.2 := ⟨_, rfl⟩
  have hkv : kv k = .agg #[.int .i64 k1, .int .i64 k2] := by rw [hk1, hk2]; rfl
  rw [hkv]
  rw [← hk1, ← hk2] at g1 b6
  obtain ⟨W0, hW0⟩ : ∃ W0, W0 = w.alloc (.cells #[.int .i64 k1, .int .i64 k2] TKey) := ⟨_, rfl⟩
  rw [← hW0] at g1 b6
  have HO := Lib.hid (fun W (g : Gr W0 W) => of_gone (h.gr (Gr.trans g1 g)) (o : Int))
  have HA := Lib.hid (fun W (_ : Gr W0 W) => has_any W (h := none) (ks := []) (a := .int .i64 0) (b := .int .i64 0) (m := .int .i64 0) rfl rfl rfl (.inl ⟨rfl, rfl⟩) hk)
  rw [hkv, show decide (k ∈ ([] : List Key)) = false from rfl] at HA
  obtain ⟨kb, hkb⟩ : ∃ kb, kb = w.heap.size := ⟨_, rfl⟩
  rw [← hkb] at b6
  have HB := Lib.hid (fun W (g : Gr W0 W) => b6.gr g)
  have HW := Lib.hid (And.intro hW0 (And.intro hkb g1))
  have x0 := b6.cell 0
  have x1 := b6.cell 1
  simp at x0 x1
  clear h g1 b6 hkv hW0 hkb hk1 hk2
  go_enter Try.func12, Try.ntmps12
  go_upto_region 1 with fail
  rw [show (w.alloc (.cells #[.int .i64 k1, .int .i64 k2] 29)) = W0 from HW.out.1.symm, ← HW.out.2.1]
  refine Flow.region (SlHoldsG tv kb o k1 k2) (Gr W0) (fun _ _ => True) (by kernel_rfl) (by kernel_rfl) (fun _ _ _ _ h _ => h) ⟨rfl, rfl, rfl, Nat.le_refl _, fun _ _ => rfl⟩ ?steps ?fin
  case steps =>
    refine Flow.Steps.cons (fun a W hfr hinv hdep K hK => ?_) ?_
    · have s0 : a.tmps.getD 0 undef = tv := hfr.at 0 (by kernel_rfl)
      have t0 : a.tmps[0]?.getD undef = tv := by simpa using s0
      rw [if_pos (Flow.wanted_none rfl)]
      clear hfr hdep
      go_simp
      exact hK _ _ True.intro hinv (fun d hd => by cases hd; trivial)
    refine Flow.Steps.cons (fun a W hfr hinv hdep K hK => ?_) ?_
    · have s1 : a.tmps.getD 1 undef = .int .u64 (o : Int) := hfr.at 1 (by kernel_rfl)
      have t1 : a.tmps[1]?.getD undef = .int .u64 (o : Int) := by simpa using s1
      rw [if_pos (Flow.wanted_none rfl)]
      clear hfr hdep
      go_simp
      exact hK _ _ True.intro hinv (fun d hd => by cases hd; trivial)
    refine Flow.Steps.cons (fun a W hfr hinv hdep K hK => ?_) ?_
    · have s7 : a.tmps.getD 7 undef = tv := hdep 7 (by kernel_rfl)
      have t7 : a.tmps[7]?.getD undef = tv := by simpa using s7
      have s8 : a.tmps.getD 8 undef = .int .u64 (o : Int) := hdep 8 (by kernel_rfl)
      have t8 : a.tmps[8]?.getD undef = .int .u64 (o : Int) := by simpa using s8
      rw [if_pos (Flow.wanted_none rfl)]
      clear hfr hdep
      go_simp
      refine (HO.out W hinv).mono ?_
      rintro e W' ⟨rfl, g1⟩
      exact hK _ _ True.intro (Gr.trans hinv g1) (fun d hd => by cases hd; trivial)
    refine Flow.Steps.cons (fun a W hfr hinv hdep K hK => ?_) ?_
    · have s5 : a.tmps.getD 5 undef = .pointer (some ⟨kb, 0, none⟩) := hfr.at 5 (by kernel_rfl)
      have t5 : a.tmps[5]?.getD undef = .pointer (some ⟨kb, 0, none⟩) := by simpa using s5
      have kc := (HB.out W hinv).cell 0; have kd := (HB.out W hinv).cell 1; simp at kc kd
      rw [if_pos (Flow.wanted_none rfl)]
      clear hfr hdep
      go_simp
      exact hK _ _ True.intro hinv (fun d hd => by cases hd; trivial)
    refine Flow.Steps.cons (fun a W hfr hinv hdep K hK => ?_) ?_
    · have s9 : a.tmps.getD 9 undef = .agg #[.map none, .int .i64 0, .int .i64 0, .int .i64 0] := hdep 9 (by kernel_rfl)
      have t9 : a.tmps[9]?.getD undef = .agg #[.map none, .int .i64 0, .int .i64 0, .int .i64 0] := by simpa using s9
      have s10 : a.tmps.getD 10 undef = .agg #[.int .i64 k1, .int .i64 k2] := hdep 10 (by kernel_rfl)
      have t10 : a.tmps[10]?.getD undef = .agg #[.int .i64 k1, .int .i64 k2] := by simpa using s10
      rw [if_pos (Flow.wanted_none rfl)]
      clear hfr hdep
      go_simp
      refine (HA.out W hinv).mono ?_
      rintro e W' ⟨rfl, g1⟩
      exact hK _ _ True.intro (Gr.trans hinv g1) (fun d hd => by cases hd; trivial)
    refine Flow.Steps.cons (fun a W hfr hinv hdep K hK => ?_) ?_
    · have s11 : a.tmps.getD 11 undef = .bool false := hdep 11 (by kernel_rfl)
      have t11 : a.tmps[11]?.getD undef = .bool false := by simpa using s11
      rw [if_pos (Flow.wanted_none rfl)]
      clear hfr hdep
      go_simp
      exact hK _ _ True.intro hinv (fun d hd => by cases hd; trivial)
    exact True.intro
  case fin =>
    intro a W hfr hfin hsl
    have s12 : a.tmps.getD 12 undef = .bool true := hsl 5 _ 12 rfl rfl
    have t12 : a.tmps[12]?.getD undef = .bool true := by simpa using s12
    have e := Flow.frame hfr [7, 8, 9, 10, 11, 12] (List.range 22) (by kernel_rfl) (by kernel_rfl)
    simp [List.range, List.range.loop] at e
    rw [t12] at e
    rw [e]
    clear e hfr hsl s12 t12
    rename_i K2 hK2
    refine hK2 _ _ ?_
    have HG := Lib.hid hfin
    clear hfin
    go_wp2_with fail
    go_ret
    exact ⟨rfl, Gr.trans HW.out.2.2 HG.out⟩
end
end Go.Proofs.Ytbmcdlcoojmppaa

/-
  The code's table of locks: Waits of a nil or zero table.
-/
namespace Go.Proofs.Ytbmcdlcoojmppaa
open Go.RowKit Go.Maps

theorem results_kmb {fn : Func} {p q r : Tmp} (h : fn.results = #[.cell p TKey, .tmp q, .tmp r]) (tmps : Array Value) (w : World) (g : Nat) (a b x y : Value)
    (hp : tmps.getD p undef = .pointer (some ⟨g, 0, none⟩)) (hx : tmps.getD q undef = x) (hy : tmps.getD r undef = y) (hb : Blk w g TKey #[a, b]) : (results fn tmps).run Try.prog w = .ok (.tuple #[.agg #[a, b], x, y]) w := by
  have hp' : tmps[p]?.getD undef = .pointer (some ⟨g, 0, none⟩) := by simpa using hp
  have hx' : tmps[q]?.getD undef = x := by simpa using hx
  have hy' : tmps[r]?.getD undef = y := by simpa using hy
  have hz : (Try.prog.info? TKey).map (·.size) = some 2 := by kernel_rfl
  have hl := run_loadVar_row (P := Try.prog) w g TKey TKey #[a, b] (0, 0) _ hb Try.underlying29 rfl hz
  simp [results, h, hp', hx', hy', asAddr, hl]
section
variable {w : World} {tv : Value}
set_option maxRecDepth 100000 in
set_option maxHeartbeats 2000000 in
theorem Waits_gone (h : TGone w tv) (o : Int) : Calls Try.prog 13 #[tv, .int .u64 o] w fun e w' => e = .returned (.tuple #[.agg #[.int .i64 0, .int .i64 0], .int .i64 0, .bool false]) ∧ Gr w w' := by
  have g1 : Gr w (w.alloc (.cells #[.int .i64 0, .int .i64 0] TKey)) := (Gr.refl w).alloc (Nat.le_refl _) _
  have b1 := Blk.new w TKey #[.int .i64 0, .int .i64 0]
  obtain ⟨W0, hW0⟩ : ∃ W0, W0 = w.alloc (.cells #[.int .i64 0, .int .i64 0] TKey) := ⟨_, rfl⟩
  rw [← hW0] at g1 b1
  have HO := Lib.hid (of_gone (h.gr g1) o)
  obtain ⟨rb, hrb⟩ : ∃ rb, rb = w.heap.size := ⟨_, rfl⟩
  rw [← hrb] at b1
  have HW := Lib.hid (And.intro hW0 (And.intro hrb (And.intro g1 b1)))
  clear h hW0 hrb g1 b1
  go_enter Try.func13, Try.ntmps13
  go_upto_region 1 with fail
  rw [show (w.alloc (.cells #[.int .i64 0, .int .i64 0] 29)) = W0 from HW.out.1.symm, ← HW.out.2.1]
  go_wp2_with fail
  refine HO.out.mono ?_
  rintro e W2 ⟨rfl, g2⟩
  have g3 : Gr W2 (W2.alloc (.cells #[.map none, .int .i64 0, .int .i64 0, .int .i64 0] TPy)) := (Gr.refl _).alloc (Nat.le_refl _) _
  have b3 := Blk.new W2 TPy #[.map none, .int .i64 0, .int .i64 0, .int .i64 0]
  obtain ⟨W3, hW3⟩ : ∃ W3, W3 = W2.alloc (.cells #[.map none, .int .i64 0, .int .i64 0, .int .i64 0] TPy) := ⟨_, rfl⟩
  rw [← hW3] at g3 b3
  obtain ⟨pb, hpb⟩ : ∃ pb, pb = W2.heap.size := ⟨_, rfl⟩
  rw [← hpb] at b3
  have r3 := HW.out.2.2.2.gr (Gr.trans g2 g3)
  have hne : pb ≠ rb := by
    have := HW.out.2.2.2.lt
    have := g2.size
    omega
  have b4 := (b3.far (p := ⟨rb, 0, none⟩) hne (.int .i64 0)).far (p := ⟨rb, 1, none⟩) hne (.int .i64 0)
  have r4 := (r3.set 0 (.int .i64 0)).set 1 (.int .i64 0)
  have z1 := b3.cell 1
  have z2 := b3.cell 2
  have z3 := b3.cell 3
  have y1 := b4.cell 1
  have y2 := b4.cell 2
  have y3 := b4.cell 3
  have c0 := r3.cell 0
  have c1 := r3.cell 1
  have f0 := r3.frozen 0
  have f1 := r3.frozen 1
  simp at z1 z2 z3 y1 y2 y3 c0 c1 r4
  have G3 := Lib.hid (And.intro (Gr.trans HW.out.2.2.1 (Gr.trans g2 g3)) (And.intro r4 (And.intro hW3 hpb)))
  clear g2 g3 b3 hW3 hpb r3 hne b4 r4
  go_upto_region 2 with fail
  rw [show (W2.alloc (.cells #[.map none, .int .i64 0, .int .i64 0, .int .i64 0] 61)) = W3 from G3.out.2.2.1.symm, ← G3.out.2.2.2]
  go_region_held3 (fun V => V.cell? ⟨pb, 1, none⟩ = some (.int .i64 0) ∧ V.cell? ⟨pb, 2, none⟩ = some (.int .i64 0) ∧ V.cell? ⟨pb, 3, none⟩ = some (.int .i64 0)) (first | exact ⟨z1, z2, z3⟩ | exact ⟨y1, y2, y3⟩) (fail)
  have gW : Gr w (((W3.setCell ⟨rb, 0, none⟩ (.int .i64 0)).setCell ⟨rb, 1, none⟩ (.int .i64 0)).drew) := by
    obtain ⟨-, hrb, -, -⟩ := HW.out
    have g := G3.out.1
    refine ⟨g.os, g.tape, g.output, by have := g.size; simpa using this, fun n hn => ?_⟩
    have h0 : n ≠ rb := by omega
    exact (Below.heap_setCell _ _ _ _ h0).trans ((Below.heap_setCell _ _ _ _ h0).trans (g.block n hn))
  have GW := Lib.hid gW
  clear gW
  go_wp2_with fail
  exact bodyPost_ret (results_kmb rfl _ _ rb _ _ _ _ rfl rfl rfl G3.out.2.1) rfl ⟨rfl, GW.out⟩
end
end Go.Proofs.Ytbmcdlcoojmppaa

