
import Derived.Test.YtanajjfcnedaiaaRefBytes
import Derived.Test.YtanajjfcnedaiaaKnown4
import Derived.Test.YtanajjfcnedaiaaFlowBy
import Derived.Deep.DeepCutAuto
import Derived.Deep.CutBlock
namespace Go.Proofs.Ytanajjfcnedaiaa
open Go.RowKit Cr

def SlS1 (n : Int) (l : Int) (g : Int) (X : Sec) (slot : Nat) (v : Value) (_ : World) : Prop :=
  match slot with
  | 17 | 19 => v = .agg (sec X)
  | 18 => v = .agg #[.int .i64 n, .int .i64 l, .int .i64 g]
  | 22 | 23 => v = .int .i64 0
  | 20 | 21 | 24 | 25 => v = .bool false
  | _ => True

def SlS2 (n : Int) (l : Int) (g : Int) (e1 : Nat) (s1 : Nat) (t1 : Nat) (e2 : Nat) (s2 : Nat) (t2 : Nat) (Y : Sec) (NB : Bool) (Q : Int) (slot : Nat) (v : Value) (_ : World) : Prop :=
  match slot with
  | 39 | 41 | 45 | 48 => v = .agg #[.int .u64 (e1 : Int), .int .u64 (s1 : Int), .int .u64 (t1 : Int)]
  | 46 | 49 => v = .agg #[.int .u64 (e2 : Int), .int .u64 (s2 : Int), .int .u64 (t2 : Int)]
  | 40 | 42 => v = .agg (sec Y)
  | 47 | 50 => v = .bool NB
  | 54 => v = .agg #[.int .i64 n, .int .i64 l, .int .i64 g]
  | 55 | 56 => v = .int .i64 Q
  | 43 | 44 | 51 | 52 | 53 | 57 | 58 | 59 | 60 | 61 | 6 => v = .bool true
  | _ => True

theorem Blk.manyT {w W : World} {g : Nat} {t : TypeId} {a b c : Value} (h : Blk w g t #[a, b, c]) (k : Gr w W) : W.cell? ⟨g, 0, none⟩ = some a ∧ W.cell? ⟨g, 1, none⟩ = some b ∧ W.cell? ⟨g, 2, none⟩ = some c := (h.below k h.lt).c3.1

theorem refBytes_may (n l g : Int) (hm : mayL n l g = true) (w : World) : Calls Try.prog 25 #[.agg #[.int .i64 n, .int .i64 l, .int .i64 g]] w (RetSec (lyB n l g) w) := by
  obtain ⟨i0, i1, i2, i3, i4, i5, _, _⟩ := may_in hm
  obtain ⟨n, rfl⟩ := Int.eq_ofNat_of_zero_le (show 0 ≤ n by omega)
  obtain ⟨l, rfl⟩ := Int.eq_ofNat_of_zero_le (show 0 ≤ l by omega)
  obtain ⟨g, rfl⟩ := Int.eq_ofNat_of_zero_le (show 0 ≤ g by omega)
  exact refBytes_any n l g w (by omega) (by omega) (by omega)

set_option maxRecDepth 100000 in
set_option maxHeartbeats 4000000 in
theorem superBytes_walk (n l g : Int) (e1 s1 t1 e2 s2 t2 : Nat) (w : World) (b1 : e1 ≤ 18446744073709551615) (b2 : s1 ≤ 18446744073709551615) (b3 : t1 ≤ 18446744073709551615) (_ : e2 ≤ 18446744073709551615) (_ : s2 ≤ 18446744073709551615) (_ : t2 ≤ 18446744073709551615) :
    Calls Try.prog 5 #[.agg #[.int .i64 n, .int .i64 l, .int .i64 g], .agg #[.int .u64 e1, .int .u64 s1, .int .u64 t1], .agg #[.int .u64 e2, .int .u64 s2, .int .u64 t2]] w (RetB true w) := by
  have HBY := Lib.hid (bytes_any n l g)
  have HRM := Lib.hid (refMayS_any n l g)
  have HRB : Hid (mayL n l g = true → (0 ≤ g ∧ g ≤ 60) ∧ (∀ W, Calls Try.prog 25 #[.agg #[.int .i64 n, .int .i64 l, .int .i64 g]] W (RetSec (bytesR n l g) W))) := Lib.hid fun h => ⟨by have := may_in h; omega, fun W => by
    have h1 := refBytes_may n l g h W
    unfold bytesR
    rw [if_pos h]
    exact h1⟩
  have HZR : Hid (mayL n l g = false → Sx (bytesR n l g) = Sx (List.replicate 256 0)) := Lib.hid fun h => by unfold bytesR; rw [h]; rfl
  have HI := Lib.hid (inodes_any n l g)
  have HMA := Lib.hid (fun W => maBytes_any e1 s1 t1 W b1 b2 b3)
  have HMB := Lib.hid (fun W => refMaBytes_any e1 s1 t1 W b1 b2 b3)
  have HNA := Lib.hid (newer_any e1 s1 t1 e2 s2 t2)
  have HNB := Lib.hid (refNewer_any e1 s1 t1 e2 s2 t2)
  have HK := Lib.hid known_any
  unfold RetSec at HMA HMB HRB
  unfold RetSecE at HBY
  obtain ⟨X, hX⟩ : ∃ X, X = Sx (bytesR n l g) := ⟨_, rfl⟩
  obtain ⟨Y, hY⟩ : ∃ Y, Y = Sx (maB e1 s1 t1) := ⟨_, rfl⟩
  obtain ⟨NB, hNB⟩ : ∃ b, b = newB e1 s1 e2 s2 := ⟨_, rfl⟩
  obtain ⟨M, hM⟩ : ∃ M, M = mayL n l g := ⟨_, rfl⟩
  obtain ⟨Z, hZ⟩ : ∃ Z, Z = List.replicate 256 (0 : Int) := ⟨_, rfl⟩
  have hz := zero_sec
  rw [← Sx_zero, ← hZ] at hz
  rw [← hX, ← hM] at HBY HRB HZR
  rw [← hZ] at HZR
  rw [← hM] at HRM HI
  rw [← hY] at HMA HMB
  rw [← hNB] at HNA HNB
  have HZZ := Lib.hid hZ
  clear hX hY hNB hM hZ b1 b2 b3
  have hA := (((Blk.new w TY #[.int .i64 n, .int .i64 l, .int .i64 g]).alloc (.cells #[.int .u64 e1, .int .u64 s1, .int .u64 t1] TMa)).alloc (.cells #[.int .u64 e2, .int .u64 s2, .int .u64 t2] TMa))
  have hB := ((Blk.new (w.alloc (.cells #[.int .i64 n, .int .i64 l, .int .i64 g] TY)) TMa #[.int .u64 e1, .int .u64 s1, .int .u64 t1]).alloc (.cells #[.int .u64 e2, .int .u64 s2, .int .u64 t2] TMa))
  have hC := (Blk.new ((w.alloc (.cells #[.int .i64 n, .int .i64 l, .int .i64 g] TY)).alloc (.cells #[.int .u64 e1, .int .u64 s1, .int .u64 t1] TMa)) TMa #[.int .u64 e2, .int .u64 s2, .int .u64 t2])
  have hG := ((((Gr.refl w).alloc (Nat.le_refl _) (.cells #[.int .i64 n, .int .i64 l, .int .i64 g] TY)).alloc (by simp) (.cells #[.int .u64 e1, .int .u64 s1, .int .u64 t1] TMa)).alloc (by simp; omega) (.cells #[.int .u64 e2, .int .u64 s2, .int .u64 t2] TMa))
  simp only [World.size_alloc] at hB hC
  have HA0 := Lib.hid hA
  have HB0 := Lib.hid hB
  have HC0 := Lib.hid hC
  have HG0 := Lib.hid hG
  clear hA hB hC hG
  go_enter Try.func5, Try.ntmps5
  go_upto_if 16 with fail
  refine (HBY.out _).mono ?_
  rintro e w1 ⟨rfl, g1⟩
  have HA1 := Lib.hid (((HA0.out.below g1 HA0.out.lt).alloc (.cells (sec (Sx Z)) TS)).other (r := w1.heap.size) (cs' := sec X) (by have h1 := HA0.out.lt; have h2 := g1.size; simp only [World.size_alloc] at h1 h2; omega))
  have HB1 := Lib.hid (((HB0.out.below g1 HB0.out.lt).alloc (.cells (sec (Sx Z)) TS)).other (r := w1.heap.size) (cs' := sec X) (by have h1 := HB0.out.lt; have h2 := g1.size; simp only [World.size_alloc] at h1 h2; omega))
  have HC1 := Lib.hid (((HC0.out.below g1 HC0.out.lt).alloc (.cells (sec (Sx Z)) TS)).other (r := w1.heap.size) (cs' := sec X) (by have h1 := HC0.out.lt; have h2 := g1.size; simp only [World.size_alloc] at h1 h2; omega))
  have HX1 := Lib.hid ((Blk.new w1 TS (sec (Sx Z))).row (sec X))
  have hX0 := Blk.new w1 TS (sec (Sx Z))
  have HX0 := Lib.hid hX0
  have HG1 := Lib.hid (below_setRow ((Below.trans HG0.out (g1.mono HG0.out.size)).alloc (by have h2 := (Below.trans HG0.out (g1.mono HG0.out.size)).size; exact h2) (.cells (sec (Sx Z)) TS)) (by have h2 := (Below.trans HG0.out (g1.mono HG0.out.size)).size; exact h2) (sec X))
  clear g1 HA0 HB0 HC0 HG0 hX0 HBY
  obtain ⟨V, hV⟩ : ∃ V, V = (w1.alloc (.cells (sec (Sx Z)) TS)).setRow w1.heap.size (sec X) := ⟨_, rfl⟩
  rw [← hV] at HA1 HB1 HC1 HX1 HG1
  have HV := Lib.hid hV
  clear hV
  obtain ⟨⟨c0, c1, c2⟩, _⟩ := HA1.out.c3
  go_upto_if 16 with (refine wpList_store_x rfl _ _ rfl HX0.out rfl rfl ?_; rw [← HV.out])
  refine (HRM.out _).mono ?_
  rintro e w2 ⟨rfl, g2⟩
  have HA2 := Lib.hid (HA1.out.below g2 HA1.out.lt)
  have HB2 := Lib.hid (HB1.out.below g2 HB1.out.lt)
  have HC2 := Lib.hid (HC1.out.below g2 HC1.out.lt)
  have HX2 := Lib.hid (HX1.out.below g2 HX1.out.lt)
  have HG2 : Hid (Gr w w2) := Lib.hid (Gr.trans HG1.out g2)
  obtain ⟨g7, hg7⟩ : ∃ g7, g7 = w1.heap.size := ⟨_, rfl⟩
  rw [← hg7] at HX2
  rw [← hg7]
  clear g2 c0 c1 c2 HA1 HB1 HC1 HX1 HG1 hz hg7 HX0 HV
  go_upto_if 16 with fail
  go_cut [] (fun wx => Hid (Gr w2 wx))
  case first =>
    cases M
    · have e3 : err false = 2 := rfl
      rw [e3]
      clear e3 HRB
      have hXZ := HZR.out (by first | rfl | trivial)
      rw [hXZ] at HX2
      have hq := eqi_sec
      clear hXZ HZR
      go_wp2_with (first | (refine wpList_load_x rfl _ rfl HX2.out rfl ?_) | (refine wpList_build_x rfl rfl ?_; rw [← HZZ.out]) | (refine (num_any _ _).mono ?_; rintro e w' ⟨rfl, rfl⟩))
      go_meet
      exact Lib.hid (Gr.refl _)
    · have e3 : err true = 0 := rfl
      rw [e3]
      clear e3 HZR
      have HR2 := Lib.hid (HRB.out (by first | rfl | trivial)).2
      go_wp2_with fail
      refine Flow.region (SlS1 n l g X) (Gr w2) (fun _ _ => True) (by kernel_rfl) (by kernel_rfl) (fun _ _ _ _ h _ => h) ⟨rfl, rfl, rfl, Nat.le_refl _, fun _ _ => rfl⟩ ?steps ?fin
      case steps =>
        refine Flow.Steps.cons (fun a W hfr hinv hdep K hK => ?_) ?_
        · have s7 : a.tmps.getD 7 undef = .pointer (some ⟨g7, 0, none⟩) := hfr.at 7 (by kernel_rfl)
          have t7 : a.tmps[7]?.getD undef = .pointer (some ⟨g7, 0, none⟩) := by simpa using s7
          rw [if_pos (Flow.wanted_none rfl)]
          clear hfr hdep
          refine wp_load_x (.tmp 7) rfl (HX2.out.below hinv HX2.out.lt) (by simpa [Act.eval] using s7) ?_
          exact hK _ _ True.intro hinv (fun d hd => by cases hd; trivial)
        refine Flow.Steps.cons (fun a W hfr hinv hdep K hK => ?_) ?_
        · have s3 : a.tmps.getD 3 undef = .pointer (some ⟨w.heap.size, 0, none⟩) := hfr.at 3 (by kernel_rfl)
          have t3 : a.tmps[3]?.getD undef = .pointer (some ⟨w.heap.size, 0, none⟩) := by simpa using s3
          obtain ⟨b0, b1, b2⟩ := HA2.out.manyT hinv
          rw [if_pos (Flow.wanted_none rfl)]
          clear hfr hdep
          go_simp
          exact hK _ _ True.intro hinv (fun d hd => by cases hd; trivial)
        refine Flow.Steps.cons (fun a W hfr hinv hdep K hK => ?_) ?_
        · have s18 : a.tmps.getD 18 undef = .agg #[.int .i64 n, .int .i64 l, .int .i64 g] := hdep 18 (by kernel_rfl)
          have t18 : a.tmps[18]?.getD undef = .agg #[.int .i64 n, .int .i64 l, .int .i64 g] := by simpa using s18
          rw [if_pos (Flow.wanted_none rfl)]
          clear hfr hdep
          go_simp
          refine (HR2.out W).mono ?_
          rintro e W' ⟨rfl, g1⟩
          exact hK _ _ True.intro (Gr.trans hinv g1) (fun d hd => by cases hd; trivial)
        refine Flow.Steps.cons (fun a W hfr hinv hdep K hK => ?_) ?_
        · have s17 : a.tmps.getD 17 undef = .agg (sec X) := hdep 17 (by kernel_rfl)
          have t17 : a.tmps[17]?.getD undef = .agg (sec X) := by simpa using s17
          have s19 : a.tmps.getD 19 undef = .agg (sec X) := hdep 19 (by kernel_rfl)
          have t19 : a.tmps[19]?.getD undef = .agg (sec X) := by simpa using s19
          have hq := eqi_sec
          rw [if_pos (Flow.wanted_none rfl)]
          clear hfr hdep
          go_simp
          exact hK _ _ True.intro hinv (fun d hd => by cases hd; trivial)
        refine Flow.Steps.cons (fun a W hfr hinv hdep K hK => ?_) ?_
        · have s20 : a.tmps.getD 20 undef = .bool false := hdep 20 (by kernel_rfl)
          have t20 : a.tmps[20]?.getD undef = .bool false := by simpa using s20
          rw [if_pos (Flow.wanted_none rfl)]
          clear hfr hdep
          go_simp
          exact hK _ _ True.intro hinv (fun d hd => by cases hd; trivial)
        refine Flow.Steps.cons (fun a W hfr hinv hdep K hK => ?_) ?_
        · have sg : a.tmps.getD 21 undef = .bool false := hdep 21 (by kernel_rfl)
          have s8 : a.tmps.getD 8 undef = .int .i64 0 := hfr.at 8 (by kernel_rfl)
          have t8 : a.tmps[8]?.getD undef = .int .i64 0 := by simpa using s8
          rw [if_pos (Flow.wanted_yes 4 false 21 rfl (by kernel_rfl) sg)]
          clear hfr hdep
          go_simp
          exact hK _ _ True.intro hinv (fun d hd => by cases hd; trivial)
        refine Flow.Steps.cons (fun a W hfr hinv hdep K hK => ?_) ?_
        · have sg : a.tmps.getD 21 undef = .bool false := hdep 21 (by kernel_rfl)
          have s22 : a.tmps.getD 22 undef = .int .i64 0 := hdep 22 (by kernel_rfl)
          have t22 : a.tmps[22]?.getD undef = .int .i64 0 := by simpa using s22
          rw [if_pos (Flow.wanted_yes 4 false 21 rfl (by kernel_rfl) sg)]
          clear hfr hdep
          go_simp
          refine (num_any _ _).mono ?_
          rintro e W' ⟨rfl, rfl⟩
          exact hK _ _ True.intro hinv (fun d hd => by cases hd; trivial)
        refine Flow.Steps.cons (fun a W hfr hinv hdep K hK => ?_) ?_
        · have sg : a.tmps.getD 21 undef = .bool false := hdep 21 (by kernel_rfl)
          have s23 : a.tmps.getD 23 undef = .int .i64 0 := hdep 23 (by kernel_rfl)
          have t23 : a.tmps[23]?.getD undef = .int .i64 0 := by simpa using s23
          rw [if_pos (Flow.wanted_yes 4 false 21 rfl (by kernel_rfl) sg)]
          clear hfr hdep
          go_simp
          exact hK _ _ True.intro hinv (fun d hd => by cases hd; trivial)
        refine Flow.Steps.cons (fun a W hfr hinv hdep K hK => ?_) ?_
        · have s21 : a.tmps.getD 21 undef = .bool false := hdep 21 (by kernel_rfl)
          have t21 : a.tmps[21]?.getD undef = .bool false := by simpa using s21
          have s24 : a.tmps.getD 24 undef = .bool false := hdep 24 (by kernel_rfl)
          have t24 : a.tmps[24]?.getD undef = .bool false := by simpa using s24
          rw [if_pos (Flow.wanted_none rfl)]
          clear hfr hdep
          go_simp
          exact hK _ _ True.intro hinv (fun d hd => by cases hd; trivial)
        exact True.intro
      case fin =>
        intro a W hfr hfin hsl
        have s25 : a.tmps.getD 25 undef = .bool false := hsl 8 _ 25 rfl rfl
        have t25 : a.tmps[25]?.getD undef = .bool false := by simpa using s25
        have e := Flow.frame hfr [17, 18, 19, 20, 21, 22, 23, 24, 25] (List.range 62) (by kernel_rfl) (by kernel_rfl)
        simp [List.range, List.range.loop] at e
        rw [t25] at e
        rw [e]
        clear e hfr hsl s25 t25
        rename_i K2 hK2
        refine hK2 _ _ ?_
        go_wp2_with fail
        go_meet
        exact Lib.hid hfin
  case rest =>
    have HA3 := Lib.hid (HA2.out.below hcut.out HA2.out.lt)
    have HB3 := Lib.hid (HB2.out.below hcut.out HB2.out.lt)
    have HC3 := Lib.hid (HC2.out.below hcut.out HC2.out.lt)
    have HG3 : Hid (Gr w wc) := Lib.hid (Gr.trans HG2.out hcut.out)
    have HGB : Hid (M = true → 0 ≤ g ∧ g ≤ 60) := Lib.hid fun h => (HRB.out h).1
    clear hcut HA2 HB2 HC2 HG2 HX2 HRB HZR HZZ
    obtain ⟨⟨c0, c1, c2⟩, _⟩ := HA3.out.c3
    go_upto_if 35 with fail
    refine (HRM.out _).mono ?_
    rintro e w3 ⟨rfl, g3⟩
    have HA4 := Lib.hid (HA3.out.below g3 HA3.out.lt)
    have HB4 := Lib.hid (HB3.out.below g3 HB3.out.lt)
    have HC4 := Lib.hid (HC3.out.below g3 HC3.out.lt)
    have HG4 : Hid (Gr w w3) := Lib.hid (Gr.trans HG3.out g3)
    clear g3 c0 c1 c2 HA3 HB3 HC3 HG3 HRM
    go_upto_if 35 with fail
    go_cut [9] (fun s9 wx => s9 = .int .i64 (only M (g * 16)) ∧ w3 = wx)
    case first =>
      obtain ⟨⟨c0, c1, c2⟩, _⟩ := HA4.out.c3
      cases M
      · go_wp2_with fail
        go_meet
        exact ⟨rfl, rfl⟩
      · obtain ⟨b0, b1⟩ := HGB.out (by first | rfl | trivial)
        go_wp2_with fail
        go_meet
        exact ⟨congrArg (Value.int .i64) (by show _ = g * 16; omega), rfl⟩
    case rest =>
      obtain ⟨rfl, rfl⟩ := hcut
      obtain ⟨Q, hQ⟩ : ∃ Q, Q = only M (g * 16) := ⟨_, rfl⟩
      rw [← hQ] at HI ⊢
      clear hQ HGB
      go_wp2_with fail
      refine Flow.region (SlS2 n l g e1 s1 t1 e2 s2 t2 Y NB Q) (Gr w3) (fun _ _ => True) (by kernel_rfl) (by kernel_rfl) (fun _ _ _ _ h _ => h) ⟨rfl, rfl, rfl, Nat.le_refl _, fun _ _ => rfl⟩ ?steps ?fin
      case steps =>
        refine Flow.Steps.cons (fun a W hfr hinv hdep K hK => ?_) ?_
        · have s4 : a.tmps.getD 4 undef = .pointer (some ⟨w.heap.size + 1, 0, none⟩) := hfr.at 4 (by kernel_rfl)
          have t4 : a.tmps[4]?.getD undef = .pointer (some ⟨w.heap.size + 1, 0, none⟩) := by simpa using s4
          obtain ⟨a0, a1, a2⟩ := HA4.out.manyT hinv
          obtain ⟨b0, b1, b2⟩ := HB4.out.manyT hinv
          obtain ⟨d0, d1, d2⟩ := HC4.out.manyT hinv
          rw [if_pos (Flow.wanted_none rfl)]
          clear hfr hdep
          go_simp
          exact hK _ _ True.intro hinv (fun d hd => by cases hd; trivial)
        refine Flow.Steps.cons (fun a W hfr hinv hdep K hK => ?_) ?_
        · have s39 : a.tmps.getD 39 undef = .agg #[.int .u64 (e1 : Int), .int .u64 (s1 : Int), .int .u64 (t1 : Int)] := hdep 39 (by kernel_rfl)
          have t39 : a.tmps[39]?.getD undef = .agg #[.int .u64 (e1 : Int), .int .u64 (s1 : Int), .int .u64 (t1 : Int)] := by simpa using s39
          rw [if_pos (Flow.wanted_none rfl)]
          clear hfr hdep
          go_simp
          refine (HMA.out W).mono ?_
          rintro e W' ⟨rfl, g1⟩
          exact hK _ _ True.intro (Gr.trans hinv g1) (fun d hd => by cases hd; trivial)
        refine Flow.Steps.cons (fun a W hfr hinv hdep K hK => ?_) ?_
        · have s4 : a.tmps.getD 4 undef = .pointer (some ⟨w.heap.size + 1, 0, none⟩) := hfr.at 4 (by kernel_rfl)
          have t4 : a.tmps[4]?.getD undef = .pointer (some ⟨w.heap.size + 1, 0, none⟩) := by simpa using s4
          obtain ⟨a0, a1, a2⟩ := HA4.out.manyT hinv
          obtain ⟨b0, b1, b2⟩ := HB4.out.manyT hinv
          obtain ⟨d0, d1, d2⟩ := HC4.out.manyT hinv
          rw [if_pos (Flow.wanted_none rfl)]
          clear hfr hdep
          go_simp
          exact hK _ _ True.intro hinv (fun d hd => by cases hd; trivial)
        refine Flow.Steps.cons (fun a W hfr hinv hdep K hK => ?_) ?_
        · have s41 : a.tmps.getD 41 undef = .agg #[.int .u64 (e1 : Int), .int .u64 (s1 : Int), .int .u64 (t1 : Int)] := hdep 41 (by kernel_rfl)
          have t41 : a.tmps[41]?.getD undef = .agg #[.int .u64 (e1 : Int), .int .u64 (s1 : Int), .int .u64 (t1 : Int)] := by simpa using s41
          rw [if_pos (Flow.wanted_none rfl)]
          clear hfr hdep
          go_simp
          refine (HMB.out W).mono ?_
          rintro e W' ⟨rfl, g1⟩
          exact hK _ _ True.intro (Gr.trans hinv g1) (fun d hd => by cases hd; trivial)
        refine Flow.Steps.cons (fun a W hfr hinv hdep K hK => ?_) ?_
        · have s40 : a.tmps.getD 40 undef = .agg (sec Y) := hdep 40 (by kernel_rfl)
          have t40 : a.tmps[40]?.getD undef = .agg (sec Y) := by simpa using s40
          have s42 : a.tmps.getD 42 undef = .agg (sec Y) := hdep 42 (by kernel_rfl)
          have t42 : a.tmps[42]?.getD undef = .agg (sec Y) := by simpa using s42
          have hq := eqi_sec
          rw [if_pos (Flow.wanted_none rfl)]
          clear hfr hdep
          go_simp
          exact hK _ _ True.intro hinv (fun d hd => by cases hd; trivial)
        refine Flow.Steps.cons (fun a W hfr hinv hdep K hK => ?_) ?_
        · have s43 : a.tmps.getD 43 undef = .bool true := hdep 43 (by kernel_rfl)
          have t43 : a.tmps[43]?.getD undef = .bool true := by simpa using s43
          rw [if_pos (Flow.wanted_none rfl)]
          clear hfr hdep
          go_simp
          exact hK _ _ True.intro hinv (fun d hd => by cases hd; trivial)
        refine Flow.Steps.cons (fun a W hfr hinv hdep K hK => ?_) ?_
        · have sg : a.tmps.getD 44 undef = .bool true := hdep 44 (by kernel_rfl)
          have s4 : a.tmps.getD 4 undef = .pointer (some ⟨w.heap.size + 1, 0, none⟩) := hfr.at 4 (by kernel_rfl)
          have t4 : a.tmps[4]?.getD undef = .pointer (some ⟨w.heap.size + 1, 0, none⟩) := by simpa using s4
          obtain ⟨a0, a1, a2⟩ := HA4.out.manyT hinv
          obtain ⟨b0, b1, b2⟩ := HB4.out.manyT hinv
          obtain ⟨d0, d1, d2⟩ := HC4.out.manyT hinv
          rw [if_pos (Flow.wanted_yes 5 true 44 rfl (by kernel_rfl) sg)]
          clear hfr hdep
          go_simp
          exact hK _ _ True.intro hinv (fun d hd => by cases hd; trivial)
        refine Flow.Steps.cons (fun a W hfr hinv hdep K hK => ?_) ?_
        · have sg : a.tmps.getD 44 undef = .bool true := hdep 44 (by kernel_rfl)
          have s5 : a.tmps.getD 5 undef = .pointer (some ⟨w.heap.size + 1 + 1, 0, none⟩) := hfr.at 5 (by kernel_rfl)
          have t5 : a.tmps[5]?.getD undef = .pointer (some ⟨w.heap.size + 1 + 1, 0, none⟩) := by simpa using s5
          obtain ⟨a0, a1, a2⟩ := HA4.out.manyT hinv
          obtain ⟨b0, b1, b2⟩ := HB4.out.manyT hinv
          obtain ⟨d0, d1, d2⟩ := HC4.out.manyT hinv
          rw [if_pos (Flow.wanted_yes 5 true 44 rfl (by kernel_rfl) sg)]
          clear hfr hdep
          go_simp
          exact hK _ _ True.intro hinv (fun d hd => by cases hd; trivial)
        refine Flow.Steps.cons (fun a W hfr hinv hdep K hK => ?_) ?_
        · have sg : a.tmps.getD 44 undef = .bool true := hdep 44 (by kernel_rfl)
          have s45 : a.tmps.getD 45 undef = .agg #[.int .u64 (e1 : Int), .int .u64 (s1 : Int), .int .u64 (t1 : Int)] := hdep 45 (by kernel_rfl)
          have t45 : a.tmps[45]?.getD undef = .agg #[.int .u64 (e1 : Int), .int .u64 (s1 : Int), .int .u64 (t1 : Int)] := by simpa using s45
          have s46 : a.tmps.getD 46 undef = .agg #[.int .u64 (e2 : Int), .int .u64 (s2 : Int), .int .u64 (t2 : Int)] := hdep 46 (by kernel_rfl)
          have t46 : a.tmps[46]?.getD undef = .agg #[.int .u64 (e2 : Int), .int .u64 (s2 : Int), .int .u64 (t2 : Int)] := by simpa using s46
          rw [if_pos (Flow.wanted_yes 5 true 44 rfl (by kernel_rfl) sg)]
          clear hfr hdep
          go_simp
          refine (HNA.out W).mono ?_
          rintro e W' ⟨rfl, g1⟩
          exact hK _ _ True.intro (Gr.trans hinv g1) (fun d hd => by cases hd; trivial)
        refine Flow.Steps.cons (fun a W hfr hinv hdep K hK => ?_) ?_
        · have sg : a.tmps.getD 44 undef = .bool true := hdep 44 (by kernel_rfl)
          have s4 : a.tmps.getD 4 undef = .pointer (some ⟨w.heap.size + 1, 0, none⟩) := hfr.at 4 (by kernel_rfl)
          have t4 : a.tmps[4]?.getD undef = .pointer (some ⟨w.heap.size + 1, 0, none⟩) := by simpa using s4
          obtain ⟨a0, a1, a2⟩ := HA4.out.manyT hinv
          obtain ⟨b0, b1, b2⟩ := HB4.out.manyT hinv
          obtain ⟨d0, d1, d2⟩ := HC4.out.manyT hinv
          rw [if_pos (Flow.wanted_yes 5 true 44 rfl (by kernel_rfl) sg)]
          clear hfr hdep
          go_simp
          exact hK _ _ True.intro hinv (fun d hd => by cases hd; trivial)
        refine Flow.Steps.cons (fun a W hfr hinv hdep K hK => ?_) ?_
        · have sg : a.tmps.getD 44 undef = .bool true := hdep 44 (by kernel_rfl)
          have s5 : a.tmps.getD 5 undef = .pointer (some ⟨w.heap.size + 1 + 1, 0, none⟩) := hfr.at 5 (by kernel_rfl)
          have t5 : a.tmps[5]?.getD undef = .pointer (some ⟨w.heap.size + 1 + 1, 0, none⟩) := by simpa using s5
          obtain ⟨a0, a1, a2⟩ := HA4.out.manyT hinv
          obtain ⟨b0, b1, b2⟩ := HB4.out.manyT hinv
          obtain ⟨d0, d1, d2⟩ := HC4.out.manyT hinv
          rw [if_pos (Flow.wanted_yes 5 true 44 rfl (by kernel_rfl) sg)]
          clear hfr hdep
          go_simp
          exact hK _ _ True.intro hinv (fun d hd => by cases hd; trivial)
        refine Flow.Steps.cons (fun a W hfr hinv hdep K hK => ?_) ?_
        · have sg : a.tmps.getD 44 undef = .bool true := hdep 44 (by kernel_rfl)
          have s48 : a.tmps.getD 48 undef = .agg #[.int .u64 (e1 : Int), .int .u64 (s1 : Int), .int .u64 (t1 : Int)] := hdep 48 (by kernel_rfl)
          have t48 : a.tmps[48]?.getD undef = .agg #[.int .u64 (e1 : Int), .int .u64 (s1 : Int), .int .u64 (t1 : Int)] := by simpa using s48
          have s49 : a.tmps.getD 49 undef = .agg #[.int .u64 (e2 : Int), .int .u64 (s2 : Int), .int .u64 (t2 : Int)] := hdep 49 (by kernel_rfl)
          have t49 : a.tmps[49]?.getD undef = .agg #[.int .u64 (e2 : Int), .int .u64 (s2 : Int), .int .u64 (t2 : Int)] := by simpa using s49
          rw [if_pos (Flow.wanted_yes 5 true 44 rfl (by kernel_rfl) sg)]
          clear hfr hdep
          go_simp
          refine (HNB.out W).mono ?_
          rintro e W' ⟨rfl, g1⟩
          exact hK _ _ True.intro (Gr.trans hinv g1) (fun d hd => by cases hd; trivial)
        refine Flow.Steps.cons (fun a W hfr hinv hdep K hK => ?_) ?_
        · have sg : a.tmps.getD 44 undef = .bool true := hdep 44 (by kernel_rfl)
          have s47 : a.tmps.getD 47 undef = .bool NB := hdep 47 (by kernel_rfl)
          have t47 : a.tmps[47]?.getD undef = .bool NB := by simpa using s47
          have s50 : a.tmps.getD 50 undef = .bool NB := hdep 50 (by kernel_rfl)
          have t50 : a.tmps[50]?.getD undef = .bool NB := by simpa using s50
          rw [if_pos (Flow.wanted_yes 5 true 44 rfl (by kernel_rfl) sg)]
          clear hfr hdep
          have hMM : (NB == NB) = true := by cases NB <;> rfl
          go_simp
          exact hK _ _ True.intro hinv (fun d hd => by cases hd; trivial)
        refine Flow.Steps.cons (fun a W hfr hinv hdep K hK => ?_) ?_
        · have s44 : a.tmps.getD 44 undef = .bool true := hdep 44 (by kernel_rfl)
          have t44 : a.tmps[44]?.getD undef = .bool true := by simpa using s44
          have s51 : a.tmps.getD 51 undef = .bool true := hdep 51 (by kernel_rfl)
          have t51 : a.tmps[51]?.getD undef = .bool true := by simpa using s51
          rw [if_pos (Flow.wanted_none rfl)]
          clear hfr hdep
          go_simp
          exact hK _ _ True.intro hinv (fun d hd => by cases hd; trivial)
        refine Flow.Steps.cons (fun a W hfr hinv hdep K hK => ?_) ?_
        · have s52 : a.tmps.getD 52 undef = .bool true := hdep 52 (by kernel_rfl)
          have t52 : a.tmps[52]?.getD undef = .bool true := by simpa using s52
          rw [if_pos (Flow.wanted_none rfl)]
          clear hfr hdep
          go_simp
          exact hK _ _ True.intro hinv (fun d hd => by cases hd; trivial)
        refine Flow.Steps.cons (fun a W hfr hinv hdep K hK => ?_) ?_
        · have sg : a.tmps.getD 53 undef = .bool true := hdep 53 (by kernel_rfl)
          have s3 : a.tmps.getD 3 undef = .pointer (some ⟨w.heap.size, 0, none⟩) := hfr.at 3 (by kernel_rfl)
          have t3 : a.tmps[3]?.getD undef = .pointer (some ⟨w.heap.size, 0, none⟩) := by simpa using s3
          obtain ⟨a0, a1, a2⟩ := HA4.out.manyT hinv
          obtain ⟨b0, b1, b2⟩ := HB4.out.manyT hinv
          obtain ⟨d0, d1, d2⟩ := HC4.out.manyT hinv
          rw [if_pos (Flow.wanted_yes 14 true 53 rfl (by kernel_rfl) sg)]
          clear hfr hdep
          go_simp
          exact hK _ _ True.intro hinv (fun d hd => by cases hd; trivial)
        refine Flow.Steps.cons (fun a W hfr hinv hdep K hK => ?_) ?_
        · have sg : a.tmps.getD 53 undef = .bool true := hdep 53 (by kernel_rfl)
          have s54 : a.tmps.getD 54 undef = .agg #[.int .i64 n, .int .i64 l, .int .i64 g] := hdep 54 (by kernel_rfl)
          have t54 : a.tmps[54]?.getD undef = .agg #[.int .i64 n, .int .i64 l, .int .i64 g] := by simpa using s54
          rw [if_pos (Flow.wanted_yes 14 true 53 rfl (by kernel_rfl) sg)]
          clear hfr hdep
          go_simp
          refine (HI.out W).mono ?_
          rintro e W' ⟨rfl, g1⟩
          exact hK _ _ True.intro (Gr.trans hinv g1) (fun d hd => by cases hd; trivial)
        refine Flow.Steps.cons (fun a W hfr hinv hdep K hK => ?_) ?_
        · have sg : a.tmps.getD 53 undef = .bool true := hdep 53 (by kernel_rfl)
          have s9 : a.tmps.getD 9 undef = .int .i64 Q := hfr.at 9 (by kernel_rfl)
          have t9 : a.tmps[9]?.getD undef = .int .i64 Q := by simpa using s9
          rw [if_pos (Flow.wanted_yes 14 true 53 rfl (by kernel_rfl) sg)]
          clear hfr hdep
          go_simp
          exact hK _ _ True.intro hinv (fun d hd => by cases hd; trivial)
        refine Flow.Steps.cons (fun a W hfr hinv hdep K hK => ?_) ?_
        · have sg : a.tmps.getD 53 undef = .bool true := hdep 53 (by kernel_rfl)
          have s55 : a.tmps.getD 55 undef = .int .i64 Q := hdep 55 (by kernel_rfl)
          have t55 : a.tmps[55]?.getD undef = .int .i64 Q := by simpa using s55
          have s56 : a.tmps.getD 56 undef = .int .i64 Q := hdep 56 (by kernel_rfl)
          have t56 : a.tmps[56]?.getD undef = .int .i64 Q := by simpa using s56
          rw [if_pos (Flow.wanted_yes 14 true 53 rfl (by kernel_rfl) sg)]
          clear hfr hdep
          go_simp
          exact hK _ _ True.intro hinv (fun d hd => by cases hd; trivial)
        refine Flow.Steps.cons (fun a W hfr hinv hdep K hK => ?_) ?_
        · have s53 : a.tmps.getD 53 undef = .bool true := hdep 53 (by kernel_rfl)
          have t53 : a.tmps[53]?.getD undef = .bool true := by simpa using s53
          have s57 : a.tmps.getD 57 undef = .bool true := hdep 57 (by kernel_rfl)
          have t57 : a.tmps[57]?.getD undef = .bool true := by simpa using s57
          rw [if_pos (Flow.wanted_none rfl)]
          clear hfr hdep
          go_simp
          exact hK _ _ True.intro hinv (fun d hd => by cases hd; trivial)
        refine Flow.Steps.cons (fun a W hfr hinv hdep K hK => ?_) ?_
        · have s58 : a.tmps.getD 58 undef = .bool true := hdep 58 (by kernel_rfl)
          have t58 : a.tmps[58]?.getD undef = .bool true := by simpa using s58
          rw [if_pos (Flow.wanted_none rfl)]
          clear hfr hdep
          go_simp
          exact hK _ _ True.intro hinv (fun d hd => by cases hd; trivial)
        refine Flow.Steps.cons (fun a W hfr hinv hdep K hK => ?_) ?_
        · have sg : a.tmps.getD 59 undef = .bool true := hdep 59 (by kernel_rfl)
          rw [if_pos (Flow.wanted_yes 20 true 59 rfl (by kernel_rfl) sg)]
          clear hfr hdep
          go_simp
          refine (HK.out W).mono ?_
          rintro e W' ⟨rfl, g1⟩
          exact hK _ _ True.intro (Gr.trans hinv g1) (fun d hd => by cases hd; trivial)
        refine Flow.Steps.cons (fun a W hfr hinv hdep K hK => ?_) ?_
        · have s59 : a.tmps.getD 59 undef = .bool true := hdep 59 (by kernel_rfl)
          have t59 : a.tmps[59]?.getD undef = .bool true := by simpa using s59
          have s60 : a.tmps.getD 60 undef = .bool true := hdep 60 (by kernel_rfl)
          have t60 : a.tmps[60]?.getD undef = .bool true := by simpa using s60
          rw [if_pos (Flow.wanted_none rfl)]
          clear hfr hdep
          go_simp
          exact hK _ _ True.intro hinv (fun d hd => by cases hd; trivial)
        refine Flow.Steps.cons (fun a W hfr hinv hdep K hK => ?_) ?_
        · have s61 : a.tmps.getD 61 undef = .bool true := hdep 61 (by kernel_rfl)
          have t61 : a.tmps[61]?.getD undef = .bool true := by simpa using s61
          rw [if_pos (Flow.wanted_none rfl)]
          clear hfr hdep
          go_simp
          exact hK _ _ True.intro hinv (fun d hd => by cases hd; trivial)
        exact True.intro
      case fin =>
        intro a W hfr hfin hsl
        have s6 : a.tmps.getD 6 undef = .bool true := hsl 23 _ 6 rfl rfl
        have t6 : a.tmps[6]?.getD undef = .bool true := by simpa using s6
        have e := Flow.frame hfr [39, 40, 41, 42, 43, 44, 45, 46, 47, 48, 49, 50, 51, 52, 53, 54, 55, 56, 57, 58, 59, 60, 61, 6] (List.range 62) (by kernel_rfl) (by kernel_rfl)
        simp [List.range, List.range.loop] at e
        rw [t6] at e
        rw [e]
        clear e hfr hsl s6 t6
        rename_i K2 hK2
        refine hK2 _ _ ?_
        go_wp2_with fail
        go_ret
        exact ⟨rfl, Gr.trans HG4.out hfin⟩

end Go.Proofs.Ytanajjfcnedaiaa
