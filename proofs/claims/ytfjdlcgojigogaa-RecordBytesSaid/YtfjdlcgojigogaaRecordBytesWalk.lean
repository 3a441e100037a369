
/-
  The law RecordBytes, walked.
-/
import Derived.Test.YtfjdlcgojigogaaRecRefMay
import Derived.Test.YtfjdlcgojigogaaRecKnown
namespace Go.Proofs.Ytfjdlcgojigogaa
open Go.RowKit Cr

theorem strOfNums_refl (xs : List Int) : ((strOfNums xs).toList == (strOfNums xs).toList) = true := by simp

def SlRB4 (k : Int) (t : Nat) (p : Nat) (x : Nat) (g : Int) (o : Int) (pb : Option Addr) (nb : Nat) (cb : Nat) (pa : Option Addr) (na : Nat) (ca : Nat) (_ : Nat) (M : Bool) (SZ : Nat) (slot : Nat) (v : Value) (_ : World) : Prop :=
  match slot with
  | 16 | 18 | 22 | 24 => v = .agg #[.int .i64 k, .int .u64 t, .int .u64 p, .int .u64 x, .int .i64 g, .int .i64 o, .slice pb nb cb, .slice pa na ca]
  | 17 | 19 => v = .bool M
  | 20 | 21 | 26 | 27 => v = .bool false
  | 23 | 25 => v = .int .i64 SZ
  | _ => True

def SlRB8 (k : Int) (t : Nat) (p : Nat) (x : Nat) (g : Int) (o : Int) (pb : Option Addr) (nb : Nat) (cb : Nat) (pa : Option Addr) (na : Nat) (ca : Nat) (d : Nat) (q : Option Addr) (SZ : Nat) (cc : Nat) (ST : ByteArray) (R : List Int) (at' : Nat) (slot : Nat) (v : Value) (w : World) : Prop :=
  match slot with
  | 4 => v = .bool true
  | 42 => v = .slice q SZ cc
  | 43 => v = .string ST
  | 44 => v = .agg #[.int .i64 k, .int .u64 t, .int .u64 p, .int .u64 x, .int .i64 g, .int .i64 o, .slice pb nb cb, .slice pa na ca]
  | 45 => v = .int .u64 at'
  | 47 => v = .string ST
  | 48 => v = .bool true
  | 49 => v = .bool true
  | 50 => v = .int .i64 0
  | 51 => v = .int .i64 0
  | 52 => v = .bool true
  | 53 => v = .bool true
  | 54 => v = .bool true
  | 55 => v = .slice q SZ cc
  | 56 => v = .int .i64 SZ
  | 57 => v = .agg #[.int .i64 k, .int .u64 t, .int .u64 p, .int .u64 x, .int .i64 g, .int .i64 o, .slice pb nb cb, .slice pa na ca]
  | 58 => v = .int .i64 SZ
  | 59 => v = .bool true
  | 60 => v = .bool true
  | 61 => v = .bool true
  | 62 => v = .slice q SZ cc
  | 63 => v = .int .i64 SZ
  | 64 => v = .bool true
  | 65 => v = .bool true
  | 66 => v = .bool true
  | 67 => v = .bool true
  | 68 => v = .bool true
  | 46 => IsB w v R
  | _ => True
theorem slRB8_gr {k : Int} {t p x : Nat} {g o : Int} {pb : Option Addr} {nb cb : Nat} {pa : Option Addr} {na ca d : Nat} {q : Option Addr} {SZ cc : Nat} {ST : ByteArray} {R : List Int} {at' : Nat} {s : Nat} {v : Value} {w w' : World} (h : SlRB8 k t p x g o pb nb cb pa na ca d q SZ cc ST R at' s v w) (gr : Gr w w') : SlRB8 k t p x g o pb nb cb pa na ca d q SZ cc ST R at' s v w' := by
  unfold SlRB8 at *
  split <;> simp_all
  exact IsB.kept (by assumption) gr

set_option maxRecDepth 100000 in
set_option maxHeartbeats 4000000 in
theorem recordBytes_walk (c : Rc) (pb : Option Addr) (nb cb : Nat) (pa : Option Addr) (na ca : Nat) (at' : Nat) (w : World) (hb : Byt w pb nb cb c.b) (ha : Byt w pa na ca c.a) (hi : c.In) (hat : at' ≤ 18446744073709551615) :
    Calls Try.prog 3 #[.agg #[.int .i64 c.k, .int .u64 c.t, .int .u64 c.p, .int .u64 c.x, .int .i64 c.g, .int .i64 c.o, .slice pb nb cb, .slice pa na ca], .int .u64 at'] w (RetB true w) := by
  have HB := Lib.hid (Blk.new w TR #[.int .i64 c.k, .int .u64 c.t, .int .u64 c.p, .int .u64 c.x, .int .i64 c.g, .int .i64 c.o, .slice pb nb cb, .slice pa na ca])
  have HG := Lib.hid ((Gr.refl w).alloc (Nat.le_refl _) (.cells #[.int .i64 c.k, .int .u64 c.t, .int .u64 c.p, .int .u64 c.x, .int .i64 c.g, .int .i64 c.o, .slice pb nb cb, .slice pa na ca] TR))
  have HMU := Lib.hid (fun W => refMuch_any c.k c.t c.p c.x c.g c.o pb nb cb pa na ca W)
  have HK := Lib.hid known_any
  have HBY : Hid (∀ W, Gr w W → Calls Try.prog 10 #[.agg #[.int .i64 c.k, .int .u64 c.t, .int .u64 c.p, .int .u64 c.x, .int .i64 c.g, .int .i64 c.o, .slice pb nb cb, .slice pa na ca], .int .u64 at'] W (RetBytes (bytesE c) (bytesL c at') W)) := Lib.hid fun W gr => bytes_any c pb nb cb pa na ca at' W hi (hb.kept gr) (ha.kept gr) hat
  have HM : Hid (∀ W, Gr w W → Calls Try.prog 11 #[.agg #[.int .i64 c.k, .int .u64 c.t, .int .u64 c.p, .int .u64 c.x, .int .i64 c.g, .int .i64 c.o, .slice pb nb cb, .slice pa na ca]] W (RetB (mayR c) W)) := Lib.hid fun W gr => mayR_any c pb nb cb pa na ca W (hb.kept gr) (ha.kept gr)
  have HRM : Hid (∀ W, Gr w W → Calls Try.prog 12 #[.agg #[.int .i64 c.k, .int .u64 c.t, .int .u64 c.p, .int .u64 c.x, .int .i64 c.g, .int .i64 c.o, .slice pb nb cb, .slice pa na ca]] W (RetB (mayR c) W)) := Lib.hid fun W gr => refMay_any c pb nb cb pa na ca W (hb.kept gr) (ha.kept gr)
  have HS : Hid (∀ W, Gr w W → Calls Try.prog 13 #[.agg #[.int .i64 c.k, .int .u64 c.t, .int .u64 c.p, .int .u64 c.x, .int .i64 c.g, .int .i64 c.o, .slice pb nb cb, .slice pa na ca]] W (RetI (sizeR c) W)) := Lib.hid fun W gr => size_any c pb nb cb pa na ca W (hb.kept gr) (ha.kept gr)
  have HRS : Hid (∀ W, Gr w W → Calls Try.prog 14 #[.agg #[.int .i64 c.k, .int .u64 c.t, .int .u64 c.p, .int .u64 c.x, .int .i64 c.g, .int .i64 c.o, .slice pb nb cb, .slice pa na ca]] W (RetI (sizeR c) W)) := Lib.hid fun W gr => refSize_any c pb nb cb pa na ca W (hb.kept gr) (ha.kept gr)
  have HRB : Hid (mayR c = true → ∀ W, Gr w W → Calls Try.prog 16 #[.agg #[.int .i64 c.k, .int .u64 c.t, .int .u64 c.p, .int .u64 c.x, .int .i64 c.g, .int .i64 c.o, .slice pb nb cb, .slice pa na ca], .int .u64 at'] W (RetByte (recL c at') W)) := Lib.hid fun hm W gr => refBytes_any c pb nb cb pa na ca at' W hm hi (hb.kept gr) (ha.kept gr) hat
  have HE : Hid (mayR c = false → bytesE c = 2 ∧ bytesL c at' = []) := Lib.hid fun h => by simp [bytesE, bytesL, h]
  have HE1 : Hid (mayR c = true → bytesE c = 0 ∧ bytesL c at' = recL c at' ∧ (recL c at').length = sizeR c ∧ sizeR c ≤ 531) := Lib.hid fun h => by
    have hf := mayR_fits h
    have h1 := hf.na
    have h2 := hf.nb1
    refine ⟨by simp [bytesE, h], by simp [bytesL, h], by rw [recL_len]; simp [sizeR, h], by simp [sizeR, h]; omega⟩
  clear hb ha hi hat
  obtain ⟨k, t, p, x, g, o, b, a⟩ := c
  simp only at HB HG HMU HBY HM HRM HS HRS HRB
  obtain ⟨M, hM⟩ : ∃ M, M = mayR ⟨k, t, p, x, g, o, b, a⟩ := ⟨_, rfl⟩
  obtain ⟨SZ, hSZ⟩ : ∃ S, S = sizeR ⟨k, t, p, x, g, o, b, a⟩ := ⟨_, rfl⟩
  obtain ⟨R, hR⟩ : ∃ R, R = recL ⟨k, t, p, x, g, o, b, a⟩ at' := ⟨_, rfl⟩
  obtain ⟨BE, hBE⟩ : ∃ R, R = bytesE ⟨k, t, p, x, g, o, b, a⟩ := ⟨_, rfl⟩
  obtain ⟨BL, hBL⟩ : ∃ R, R = bytesL ⟨k, t, p, x, g, o, b, a⟩ at' := ⟨_, rfl⟩
  rw [← hM] at HM HRM HRB HE HE1
  rw [← hSZ] at HS HRS HE1
  rw [← hR] at HRB HE1
  rw [← hBE] at HBY HE HE1
  rw [← hBL] at HBY HE HE1
  clear hM hSZ hR hBE hBL
  obtain ⟨c0, c1, c2, c3, c4, c5, c6, c7⟩ := HB.out.c8
  go_enter Try.func3, Try.ntmps3
  go_wp2_with fail
  refine (HMU.out _).mono ?_
  rintro e w1 ⟨rfl, g1⟩
  have HB1 := Lib.hid (HB.out.below g1 HB.out.lt)
  have HG1 := Lib.hid (Gr.trans HG.out g1)
  clear g1 HB HG HMU c0 c1 c2 c3 c4 c5 c6 c7
  obtain ⟨MU, hMU⟩ : ∃ M, M = muchR nb na := ⟨_, rfl⟩
  rw [← hMU]
  clear hMU
  obtain ⟨c0, c1, c2, c3, c4, c5, c6, c7⟩ := HB1.out.c8
  cases MU
  case true =>
    go_wp2_with fail
    refine (HK.out _).mono ?_
    rintro e w2 ⟨rfl, g2⟩
    have HG2 := Lib.hid (Gr.trans HG1.out g2)
    clear g2
    go_wp2_with fail
    go_ret
    exact ⟨rfl, HG2.out⟩
  case false =>
    go_wp2_with fail
    refine (HBY.out _ HG1.out).mono ?_
    rintro e w2 ⟨q, n, cc, rfl, hy, g2, _⟩
    have HB2 := Lib.hid (HB1.out.below g2 HB1.out.lt)
    have HG2 := Lib.hid (Gr.trans HG1.out g2)
    have HY := Lib.hid hy
    clear g2 hy HB1 HG1 c0 c1 c2 c3 c4 c5 c6 c7 HBY
    go_upto_region 4 with fail
    refine Flow.region (SlRB4 k t p x g o pb nb cb pa na ca w.heap.size M SZ) (Gr w2) (fun _ _ => True) (by kernel_rfl) (by kernel_rfl) (fun _ _ _ _ h _ => h) ⟨rfl, rfl, rfl, Nat.le_refl _, fun _ _ => rfl⟩ ?steps ?fin
    case steps =>
      refine Flow.Steps.cons (fun a W hfr hinv hdep K hK => ?_) ?_
      · have s2 : a.tmps.getD 2 undef = .pointer (some ⟨w.heap.size, 0, none⟩) := hfr.at 2 (by kernel_rfl)
        have t2 : a.tmps[2]?.getD undef = .pointer (some ⟨w.heap.size, 0, none⟩) := by simpa using s2
        obtain ⟨c0, c1, c2, c3, c4, c5, c6, c7⟩ := (HB2.out.below hinv HB2.out.lt).c8
        rw [if_pos (Flow.wanted_none rfl)]
        clear hfr hdep
        go_simp
        exact hK _ _ True.intro hinv (fun d hd => by cases hd; trivial)
      refine Flow.Steps.cons (fun a W hfr hinv hdep K hK => ?_) ?_
      · have s16 : a.tmps.getD 16 undef = .agg #[.int .i64 k, .int .u64 t, .int .u64 p, .int .u64 x, .int .i64 g, .int .i64 o, .slice pb nb cb, .slice pa na ca] := hdep 16 (by kernel_rfl)
        have t16 : a.tmps[16]?.getD undef = .agg #[.int .i64 k, .int .u64 t, .int .u64 p, .int .u64 x, .int .i64 g, .int .i64 o, .slice pb nb cb, .slice pa na ca] := by simpa using s16
        rw [if_pos (Flow.wanted_none rfl)]
        clear hfr hdep
        go_simp
        refine (HM.out W (Gr.trans HG2.out hinv)).mono ?_
        rintro e W' ⟨rfl, g1⟩
        exact hK _ _ True.intro (Gr.trans hinv g1) (fun d hd => by cases hd; trivial)
      refine Flow.Steps.cons (fun a W hfr hinv hdep K hK => ?_) ?_
      · have s2 : a.tmps.getD 2 undef = .pointer (some ⟨w.heap.size, 0, none⟩) := hfr.at 2 (by kernel_rfl)
        have t2 : a.tmps[2]?.getD undef = .pointer (some ⟨w.heap.size, 0, none⟩) := by simpa using s2
        obtain ⟨c0, c1, c2, c3, c4, c5, c6, c7⟩ := (HB2.out.below hinv HB2.out.lt).c8
        rw [if_pos (Flow.wanted_none rfl)]
        clear hfr hdep
        go_simp
        exact hK _ _ True.intro hinv (fun d hd => by cases hd; trivial)
      refine Flow.Steps.cons (fun a W hfr hinv hdep K hK => ?_) ?_
      · have s18 : a.tmps.getD 18 undef = .agg #[.int .i64 k, .int .u64 t, .int .u64 p, .int .u64 x, .int .i64 g, .int .i64 o, .slice pb nb cb, .slice pa na ca] := hdep 18 (by kernel_rfl)
        have t18 : a.tmps[18]?.getD undef = .agg #[.int .i64 k, .int .u64 t, .int .u64 p, .int .u64 x, .int .i64 g, .int .i64 o, .slice pb nb cb, .slice pa na ca] := by simpa using s18
        rw [if_pos (Flow.wanted_none rfl)]
        clear hfr hdep
        go_simp
        refine (HRM.out W (Gr.trans HG2.out hinv)).mono ?_
        rintro e W' ⟨rfl, g1⟩
        exact hK _ _ True.intro (Gr.trans hinv g1) (fun d hd => by cases hd; trivial)
      refine Flow.Steps.cons (fun a W hfr hinv hdep K hK => ?_) ?_
      · have s17 : a.tmps.getD 17 undef = .bool M := hdep 17 (by kernel_rfl)
        have t17 : a.tmps[17]?.getD undef = .bool M := by simpa using s17
        have s19 : a.tmps.getD 19 undef = .bool M := hdep 19 (by kernel_rfl)
        have t19 : a.tmps[19]?.getD undef = .bool M := by simpa using s19
        rw [if_pos (Flow.wanted_none rfl)]
        clear hfr hdep
        have hMM : (M == M) = true := by cases M <;> rfl
        go_simp
        first | exact hK _ _ True.intro hinv (fun d hd => by cases hd; trivial) | (cases M <;> exact hK _ _ True.intro hinv (fun d hd => by cases hd; trivial))
      refine Flow.Steps.cons (fun a W hfr hinv hdep K hK => ?_) ?_
      · have s20 : a.tmps.getD 20 undef = .bool false := hdep 20 (by kernel_rfl)
        have t20 : a.tmps[20]?.getD undef = .bool false := by simpa using s20
        rw [if_pos (Flow.wanted_none rfl)]
        clear hfr hdep
        go_simp
        exact hK _ _ True.intro hinv (fun d hd => by cases hd; trivial)
      refine Flow.Steps.cons (fun a W hfr hinv hdep K hK => ?_) ?_
      · have sg : a.tmps.getD 21 undef = .bool false := hdep 21 (by kernel_rfl)
        have s2 : a.tmps.getD 2 undef = .pointer (some ⟨w.heap.size, 0, none⟩) := hfr.at 2 (by kernel_rfl)
        have t2 : a.tmps[2]?.getD undef = .pointer (some ⟨w.heap.size, 0, none⟩) := by simpa using s2
        obtain ⟨c0, c1, c2, c3, c4, c5, c6, c7⟩ := (HB2.out.below hinv HB2.out.lt).c8
        rw [if_pos (Flow.wanted_yes 5 false 21 rfl (by kernel_rfl) sg)]
        clear hfr hdep
        go_simp
        exact hK _ _ True.intro hinv (fun d hd => by cases hd; trivial)
      refine Flow.Steps.cons (fun a W hfr hinv hdep K hK => ?_) ?_
      · have sg : a.tmps.getD 21 undef = .bool false := hdep 21 (by kernel_rfl)
        have s22 : a.tmps.getD 22 undef = .agg #[.int .i64 k, .int .u64 t, .int .u64 p, .int .u64 x, .int .i64 g, .int .i64 o, .slice pb nb cb, .slice pa na ca] := hdep 22 (by kernel_rfl)
        have t22 : a.tmps[22]?.getD undef = .agg #[.int .i64 k, .int .u64 t, .int .u64 p, .int .u64 x, .int .i64 g, .int .i64 o, .slice pb nb cb, .slice pa na ca] := by simpa using s22
        rw [if_pos (Flow.wanted_yes 5 false 21 rfl (by kernel_rfl) sg)]
        clear hfr hdep
        go_simp
        refine (HS.out W (Gr.trans HG2.out hinv)).mono ?_
        rintro e W' ⟨rfl, g1⟩
        exact hK _ _ True.intro (Gr.trans hinv g1) (fun d hd => by cases hd; trivial)
      refine Flow.Steps.cons (fun a W hfr hinv hdep K hK => ?_) ?_
      · have sg : a.tmps.getD 21 undef = .bool false := hdep 21 (by kernel_rfl)
        have s2 : a.tmps.getD 2 undef = .pointer (some ⟨w.heap.size, 0, none⟩) := hfr.at 2 (by kernel_rfl)
        have t2 : a.tmps[2]?.getD undef = .pointer (some ⟨w.heap.size, 0, none⟩) := by simpa using s2
        obtain ⟨c0, c1, c2, c3, c4, c5, c6, c7⟩ := (HB2.out.below hinv HB2.out.lt).c8
        rw [if_pos (Flow.wanted_yes 5 false 21 rfl (by kernel_rfl) sg)]
        clear hfr hdep
        go_simp
        exact hK _ _ True.intro hinv (fun d hd => by cases hd; trivial)
      refine Flow.Steps.cons (fun a W hfr hinv hdep K hK => ?_) ?_
      · have sg : a.tmps.getD 21 undef = .bool false := hdep 21 (by kernel_rfl)
        have s24 : a.tmps.getD 24 undef = .agg #[.int .i64 k, .int .u64 t, .int .u64 p, .int .u64 x, .int .i64 g, .int .i64 o, .slice pb nb cb, .slice pa na ca] := hdep 24 (by kernel_rfl)
        have t24 : a.tmps[24]?.getD undef = .agg #[.int .i64 k, .int .u64 t, .int .u64 p, .int .u64 x, .int .i64 g, .int .i64 o, .slice pb nb cb, .slice pa na ca] := by simpa using s24
        rw [if_pos (Flow.wanted_yes 5 false 21 rfl (by kernel_rfl) sg)]
        clear hfr hdep
        go_simp
        refine (HRS.out W (Gr.trans HG2.out hinv)).mono ?_
        rintro e W' ⟨rfl, g1⟩
        exact hK _ _ True.intro (Gr.trans hinv g1) (fun d hd => by cases hd; trivial)
      refine Flow.Steps.cons (fun a W hfr hinv hdep K hK => ?_) ?_
      · have sg : a.tmps.getD 21 undef = .bool false := hdep 21 (by kernel_rfl)
        have s23 : a.tmps.getD 23 undef = .int .i64 SZ := hdep 23 (by kernel_rfl)
        have t23 : a.tmps[23]?.getD undef = .int .i64 SZ := by simpa using s23
        have s25 : a.tmps.getD 25 undef = .int .i64 SZ := hdep 25 (by kernel_rfl)
        have t25 : a.tmps[25]?.getD undef = .int .i64 SZ := by simpa using s25
        rw [if_pos (Flow.wanted_yes 5 false 21 rfl (by kernel_rfl) sg)]
        clear hfr hdep
        go_simp
        exact hK _ _ True.intro hinv (fun d hd => by cases hd; trivial)
      refine Flow.Steps.cons (fun a W hfr hinv hdep K hK => ?_) ?_
      · have s21 : a.tmps.getD 21 undef = .bool false := hdep 21 (by kernel_rfl)
        have t21 : a.tmps[21]?.getD undef = .bool false := by simpa using s21
        have s26 : a.tmps.getD 26 undef = .bool false := hdep 26 (by kernel_rfl)
        have t26 : a.tmps[26]?.getD undef = .bool false := by simpa using s26
        rw [if_pos (Flow.wanted_none rfl)]
        clear hfr hdep
        go_simp
        exact hK _ _ True.intro hinv (fun d hd => by cases hd; trivial)
      exact True.intro
    case fin =>
      intro a W hfr hfin hsl
      have s27 : a.tmps.getD 27 undef = .bool false := hsl 11 _ 27 rfl rfl
      have t27 : a.tmps[27]?.getD undef = .bool false := by simpa using s27
      have e := Flow.frame hfr [16, 17, 18, 19, 20, 21, 22, 23, 24, 25, 26, 27] (List.range 69) (by kernel_rfl) (by kernel_rfl)
      simp [List.range, List.range.loop] at e
      rw [t27] at e
      rw [e]
      clear e hfr hsl s27 t27
      rename_i K2 hK2
      refine hK2 _ _ ?_
      have HB3 := Lib.hid (HB2.out.below hfin HB2.out.lt)
      have HG3 := Lib.hid (Gr.trans HG2.out hfin)
      have HY3 := Lib.hid (HY.out.kept hfin)
      clear hfin HB2 HG2 HY
      obtain ⟨c0, c1, c2, c3, c4, c5, c6, c7⟩ := HB3.out.c8
      go_wp2_with fail
      refine (HRM.out _ HG3.out).mono ?_
      rintro e w4 ⟨rfl, g4⟩
      have HB4 := Lib.hid (HB3.out.below g4 HB3.out.lt)
      have HG4 := Lib.hid (Gr.trans HG3.out g4)
      have HY4 := Lib.hid (HY3.out.kept g4)
      clear g4 HB3 HG3 HY3 c0 c1 c2 c3 c4 c5 c6 c7
      cases M
      · obtain ⟨e1, e2⟩ := HE.out rfl
        have hn := HY4.out.len
        rw [e2] at hn
        have hn2 : n = 0 := hn.symm
        subst e1
        subst hn2
        clear hn e2 HE HE1
        go_wp2_with (refine (num_any _ _).mono ?_; rintro e w' ⟨rfl, rfl⟩)
        refine (HK.out _).mono ?_
        rintro e w5 ⟨rfl, g5⟩
        have HG5 := Lib.hid (Gr.trans HG4.out g5)
        clear g5
        go_wp2_with fail
        go_ret
        exact ⟨rfl, HG5.out⟩
      · obtain ⟨e1, e2, e3, e4⟩ := HE1.out rfl
        have hn := HY4.out.len
        rw [e2, e3] at hn
        subst e1
        subst hn
        have hle : (SZ : Int) ≤ 531 := by omega
        have hy5 := HY4.out
        rw [e2] at hy5
        have HY5 := Lib.hid hy5
        clear hy5 e2 e3 HE HE1 HY4
        have HST := Lib.hid (strOfNums_refl R)
        obtain ⟨ST, hST⟩ : ∃ s, s = strOfNums R := ⟨_, rfl⟩
        rw [← hST] at HST
        have HST2 := Lib.hid hST
        clear hST
        have HRB1 := Lib.hid (HRB.out rfl)
        clear HRB e4
        go_upto_region 8 with fail
        refine Flow.region (SlRB8 k t p x g o pb nb cb pa na ca w.heap.size q SZ cc ST R at') (Gr w4) Gr (by kernel_rfl) (by kernel_rfl) (fun _ _ _ _ h g => slRB8_gr h g) ⟨rfl, rfl, rfl, Nat.le_refl _, fun _ _ => rfl⟩ ?steps ?fin
        case steps =>
          refine Flow.Steps.cons (fun A W hfr hinv hdep K hK => ?_) ?_
          · have s5 : A.tmps.getD 5 undef = .slice q SZ cc := hfr.at 5 (by kernel_rfl)
            have t5 : A.tmps[5]?.getD undef = .slice q SZ cc := by simpa using s5
            rw [if_pos (Flow.wanted_none rfl)]
            clear hfr hdep
            go_simp
            exact hK _ _ (Gr.refl _) hinv (fun d hd => by cases hd; trivial)
          refine Flow.Steps.cons (fun A W hfr hinv hdep K hK => ?_) ?_
          · have s42 : A.tmps.getD 42 undef = .slice q SZ cc := hdep 42 (by kernel_rfl)
            have t42 : A.tmps[42]?.getD undef = .slice q SZ cc := by simpa using s42
            rw [if_pos (Flow.wanted_none rfl)]
            clear hfr hdep
            have hcv := (HY5.out.kept hinv).lies.convert (HY5.out.kept hinv).len cc 24 5 9 Try.underlying24 Try.underlying5 Try.underlying9
            rw [← HST2.out] at hcv
            go_simp
            exact hK _ _ (Gr.refl _) hinv (fun d hd => by cases hd; trivial)
          refine Flow.Steps.cons (fun A W hfr hinv hdep K hK => ?_) ?_
          · have s2 : A.tmps.getD 2 undef = .pointer (some ⟨w.heap.size, 0, none⟩) := hfr.at 2 (by kernel_rfl)
            have t2 : A.tmps[2]?.getD undef = .pointer (some ⟨w.heap.size, 0, none⟩) := by simpa using s2
            rw [if_pos (Flow.wanted_none rfl)]
            clear hfr hdep
            obtain ⟨c0, c1, c2, c3, c4, c5, c6, c7⟩ := (HB4.out.below hinv HB4.out.lt).c8
            go_simp
            exact hK _ _ (Gr.refl _) hinv (fun d hd => by cases hd; trivial)
          refine Flow.Steps.cons (fun A W hfr hinv hdep K hK => ?_) ?_
          · have s1 : A.tmps.getD 1 undef = .int .u64 at' := hfr.at 1 (by kernel_rfl)
            have t1 : A.tmps[1]?.getD undef = .int .u64 at' := by simpa using s1
            rw [if_pos (Flow.wanted_none rfl)]
            clear hfr hdep
            go_simp
            exact hK _ _ (Gr.refl _) hinv (fun d hd => by cases hd; trivial)
          refine Flow.Steps.cons (fun A W hfr hinv hdep K hK => ?_) ?_
          · have s44 : A.tmps.getD 44 undef = .agg #[.int .i64 k, .int .u64 t, .int .u64 p, .int .u64 x, .int .i64 g, .int .i64 o, .slice pb nb cb, .slice pa na ca] := hdep 44 (by kernel_rfl)
            have t44 : A.tmps[44]?.getD undef = .agg #[.int .i64 k, .int .u64 t, .int .u64 p, .int .u64 x, .int .i64 g, .int .i64 o, .slice pb nb cb, .slice pa na ca] := by simpa using s44
            have s45 : A.tmps.getD 45 undef = .int .u64 at' := hdep 45 (by kernel_rfl)
            have t45 : A.tmps[45]?.getD undef = .int .u64 at' := by simpa using s45
            rw [if_pos (Flow.wanted_none rfl)]
            clear hfr hdep
            go_simp
            refine (HRB1.out W (Gr.trans HG4.out hinv)).mono ?_
            rintro e W' ⟨q2, m2, d2, rfl, hy2, g1, _⟩
            exact hK _ _ g1 (Gr.trans hinv g1) (fun d hd => by cases hd; exact ⟨_, _, _, rfl, hy2⟩)
          refine Flow.Steps.cons (fun A W hfr hinv hdep K hK => ?_) ?_
          · have s46 : IsB W (A.tmps.getD 46 undef) R := hdep 46 (by kernel_rfl)
            rw [if_pos (Flow.wanted_none rfl)]
            clear hfr hdep
            obtain ⟨q2, m2, d2, s46, hy2⟩ := s46
            have t46 : A.tmps[46]?.getD undef = .slice q2 m2 d2 := by simpa using s46
            have hcv := hy2.lies.convert hy2.len d2 24 5 9 Try.underlying24 Try.underlying5 Try.underlying9
            rw [← HST2.out] at hcv
            go_simp
            exact hK _ _ (Gr.refl _) hinv (fun d hd => by cases hd; trivial)
          refine Flow.Steps.cons (fun A W hfr hinv hdep K hK => ?_) ?_
          · have s43 : A.tmps.getD 43 undef = .string ST := hdep 43 (by kernel_rfl)
            have t43 : A.tmps[43]?.getD undef = .string ST := by simpa using s43
            have s47 : A.tmps.getD 47 undef = .string ST := hdep 47 (by kernel_rfl)
            have t47 : A.tmps[47]?.getD undef = .string ST := by simpa using s47
            rw [if_pos (Flow.wanted_none rfl)]
            clear hfr hdep
            have hst := HST.out
            go_simp
            exact hK _ _ (Gr.refl _) hinv (fun d hd => by cases hd; trivial)
          refine Flow.Steps.cons (fun A W hfr hinv hdep K hK => ?_) ?_
          · have s48 : A.tmps.getD 48 undef = .bool true := hdep 48 (by kernel_rfl)
            have t48 : A.tmps[48]?.getD undef = .bool true := by simpa using s48
            rw [if_pos (Flow.wanted_none rfl)]
            clear hfr hdep
            go_simp
            exact hK _ _ (Gr.refl _) hinv (fun d hd => by cases hd; trivial)
          refine Flow.Steps.cons (fun A W hfr hinv hdep K hK => ?_) ?_
          · have sg : A.tmps.getD 49 undef = .bool true := hdep 49 (by kernel_rfl)
            have s6 : A.tmps.getD 6 undef = .int .i64 0 := hfr.at 6 (by kernel_rfl)
            have t6 : A.tmps[6]?.getD undef = .int .i64 0 := by simpa using s6
            rw [if_pos (Flow.wanted_yes 7 true 49 rfl (by kernel_rfl) sg)]
            clear hfr hdep
            go_simp
            exact hK _ _ (Gr.refl _) hinv (fun d hd => by cases hd; trivial)
          refine Flow.Steps.cons (fun A W hfr hinv hdep K hK => ?_) ?_
          · have sg : A.tmps.getD 49 undef = .bool true := hdep 49 (by kernel_rfl)
            have s50 : A.tmps.getD 50 undef = .int .i64 0 := hdep 50 (by kernel_rfl)
            have t50 : A.tmps[50]?.getD undef = .int .i64 0 := by simpa using s50
            rw [if_pos (Flow.wanted_yes 7 true 49 rfl (by kernel_rfl) sg)]
            clear hfr hdep
            go_simp
            refine (num_any _ _).mono ?_
            rintro e W' ⟨rfl, rfl⟩
            exact hK _ _ (Gr.refl _) hinv (fun d hd => by cases hd; trivial)
          refine Flow.Steps.cons (fun A W hfr hinv hdep K hK => ?_) ?_
          · have sg : A.tmps.getD 49 undef = .bool true := hdep 49 (by kernel_rfl)
            have s51 : A.tmps.getD 51 undef = .int .i64 0 := hdep 51 (by kernel_rfl)
            have t51 : A.tmps[51]?.getD undef = .int .i64 0 := by simpa using s51
            rw [if_pos (Flow.wanted_yes 7 true 49 rfl (by kernel_rfl) sg)]
            clear hfr hdep
            go_simp
            exact hK _ _ (Gr.refl _) hinv (fun d hd => by cases hd; trivial)
          refine Flow.Steps.cons (fun A W hfr hinv hdep K hK => ?_) ?_
          · have s49 : A.tmps.getD 49 undef = .bool true := hdep 49 (by kernel_rfl)
            have t49 : A.tmps[49]?.getD undef = .bool true := by simpa using s49
            have s52 : A.tmps.getD 52 undef = .bool true := hdep 52 (by kernel_rfl)
            have t52 : A.tmps[52]?.getD undef = .bool true := by simpa using s52
            rw [if_pos (Flow.wanted_none rfl)]
            clear hfr hdep
            go_simp
            exact hK _ _ (Gr.refl _) hinv (fun d hd => by cases hd; trivial)
          refine Flow.Steps.cons (fun A W hfr hinv hdep K hK => ?_) ?_
          · have s53 : A.tmps.getD 53 undef = .bool true := hdep 53 (by kernel_rfl)
            have t53 : A.tmps[53]?.getD undef = .bool true := by simpa using s53
            rw [if_pos (Flow.wanted_none rfl)]
            clear hfr hdep
            go_simp
            exact hK _ _ (Gr.refl _) hinv (fun d hd => by cases hd; trivial)
          refine Flow.Steps.cons (fun A W hfr hinv hdep K hK => ?_) ?_
          · have sg : A.tmps.getD 54 undef = .bool true := hdep 54 (by kernel_rfl)
            have s5 : A.tmps.getD 5 undef = .slice q SZ cc := hfr.at 5 (by kernel_rfl)
            have t5 : A.tmps[5]?.getD undef = .slice q SZ cc := by simpa using s5
            rw [if_pos (Flow.wanted_yes 12 true 54 rfl (by kernel_rfl) sg)]
            clear hfr hdep
            go_simp
            exact hK _ _ (Gr.refl _) hinv (fun d hd => by cases hd; trivial)
          refine Flow.Steps.cons (fun A W hfr hinv hdep K hK => ?_) ?_
          · have sg : A.tmps.getD 54 undef = .bool true := hdep 54 (by kernel_rfl)
            have s55 : A.tmps.getD 55 undef = .slice q SZ cc := hdep 55 (by kernel_rfl)
            have t55 : A.tmps[55]?.getD undef = .slice q SZ cc := by simpa using s55
            rw [if_pos (Flow.wanted_yes 12 true 54 rfl (by kernel_rfl) sg)]
            clear hfr hdep
            go_simp
            exact hK _ _ (Gr.refl _) hinv (fun d hd => by cases hd; trivial)
          refine Flow.Steps.cons (fun A W hfr hinv hdep K hK => ?_) ?_
          · have sg : A.tmps.getD 54 undef = .bool true := hdep 54 (by kernel_rfl)
            have s2 : A.tmps.getD 2 undef = .pointer (some ⟨w.heap.size, 0, none⟩) := hfr.at 2 (by kernel_rfl)
            have t2 : A.tmps[2]?.getD undef = .pointer (some ⟨w.heap.size, 0, none⟩) := by simpa using s2
            rw [if_pos (Flow.wanted_yes 12 true 54 rfl (by kernel_rfl) sg)]
            clear hfr hdep
            obtain ⟨c0, c1, c2, c3, c4, c5, c6, c7⟩ := (HB4.out.below hinv HB4.out.lt).c8
            go_simp
            exact hK _ _ (Gr.refl _) hinv (fun d hd => by cases hd; trivial)
          refine Flow.Steps.cons (fun A W hfr hinv hdep K hK => ?_) ?_
          · have sg : A.tmps.getD 54 undef = .bool true := hdep 54 (by kernel_rfl)
            have s57 : A.tmps.getD 57 undef = .agg #[.int .i64 k, .int .u64 t, .int .u64 p, .int .u64 x, .int .i64 g, .int .i64 o, .slice pb nb cb, .slice pa na ca] := hdep 57 (by kernel_rfl)
            have t57 : A.tmps[57]?.getD undef = .agg #[.int .i64 k, .int .u64 t, .int .u64 p, .int .u64 x, .int .i64 g, .int .i64 o, .slice pb nb cb, .slice pa na ca] := by simpa using s57
            rw [if_pos (Flow.wanted_yes 12 true 54 rfl (by kernel_rfl) sg)]
            clear hfr hdep
            go_simp
            refine (HS.out W (Gr.trans HG4.out hinv)).mono ?_
            rintro e W' ⟨rfl, g1⟩
            exact hK _ _ g1 (Gr.trans hinv g1) (fun d hd => by cases hd; trivial)
          refine Flow.Steps.cons (fun A W hfr hinv hdep K hK => ?_) ?_
          · have sg : A.tmps.getD 54 undef = .bool true := hdep 54 (by kernel_rfl)
            have s56 : A.tmps.getD 56 undef = .int .i64 SZ := hdep 56 (by kernel_rfl)
            have t56 : A.tmps[56]?.getD undef = .int .i64 SZ := by simpa using s56
            have s58 : A.tmps.getD 58 undef = .int .i64 SZ := hdep 58 (by kernel_rfl)
            have t58 : A.tmps[58]?.getD undef = .int .i64 SZ := by simpa using s58
            rw [if_pos (Flow.wanted_yes 12 true 54 rfl (by kernel_rfl) sg)]
            clear hfr hdep
            go_simp
            exact hK _ _ (Gr.refl _) hinv (fun d hd => by cases hd; trivial)
          refine Flow.Steps.cons (fun A W hfr hinv hdep K hK => ?_) ?_
          · have s54 : A.tmps.getD 54 undef = .bool true := hdep 54 (by kernel_rfl)
            have t54 : A.tmps[54]?.getD undef = .bool true := by simpa using s54
            have s59 : A.tmps.getD 59 undef = .bool true := hdep 59 (by kernel_rfl)
            have t59 : A.tmps[59]?.getD undef = .bool true := by simpa using s59
            rw [if_pos (Flow.wanted_none rfl)]
            clear hfr hdep
            go_simp
            exact hK _ _ (Gr.refl _) hinv (fun d hd => by cases hd; trivial)
          refine Flow.Steps.cons (fun A W hfr hinv hdep K hK => ?_) ?_
          · have s60 : A.tmps.getD 60 undef = .bool true := hdep 60 (by kernel_rfl)
            have t60 : A.tmps[60]?.getD undef = .bool true := by simpa using s60
            rw [if_pos (Flow.wanted_none rfl)]
            clear hfr hdep
            go_simp
            exact hK _ _ (Gr.refl _) hinv (fun d hd => by cases hd; trivial)
          refine Flow.Steps.cons (fun A W hfr hinv hdep K hK => ?_) ?_
          · have sg : A.tmps.getD 61 undef = .bool true := hdep 61 (by kernel_rfl)
            have s5 : A.tmps.getD 5 undef = .slice q SZ cc := hfr.at 5 (by kernel_rfl)
            have t5 : A.tmps[5]?.getD undef = .slice q SZ cc := by simpa using s5
            rw [if_pos (Flow.wanted_yes 19 true 61 rfl (by kernel_rfl) sg)]
            clear hfr hdep
            go_simp
            exact hK _ _ (Gr.refl _) hinv (fun d hd => by cases hd; trivial)
          refine Flow.Steps.cons (fun A W hfr hinv hdep K hK => ?_) ?_
          · have sg : A.tmps.getD 61 undef = .bool true := hdep 61 (by kernel_rfl)
            have s62 : A.tmps.getD 62 undef = .slice q SZ cc := hdep 62 (by kernel_rfl)
            have t62 : A.tmps[62]?.getD undef = .slice q SZ cc := by simpa using s62
            rw [if_pos (Flow.wanted_yes 19 true 61 rfl (by kernel_rfl) sg)]
            clear hfr hdep
            go_simp
            exact hK _ _ (Gr.refl _) hinv (fun d hd => by cases hd; trivial)
          refine Flow.Steps.cons (fun A W hfr hinv hdep K hK => ?_) ?_
          · have sg : A.tmps.getD 61 undef = .bool true := hdep 61 (by kernel_rfl)
            have s63 : A.tmps.getD 63 undef = .int .i64 SZ := hdep 63 (by kernel_rfl)
            have t63 : A.tmps[63]?.getD undef = .int .i64 SZ := by simpa using s63
            rw [if_pos (Flow.wanted_yes 19 true 61 rfl (by kernel_rfl) sg)]
            clear hfr hdep
            go_simp
            exact hK _ _ (Gr.refl _) hinv (fun d hd => by cases hd; trivial)
          refine Flow.Steps.cons (fun A W hfr hinv hdep K hK => ?_) ?_
          · have s61 : A.tmps.getD 61 undef = .bool true := hdep 61 (by kernel_rfl)
            have t61 : A.tmps[61]?.getD undef = .bool true := by simpa using s61
            have s64 : A.tmps.getD 64 undef = .bool true := hdep 64 (by kernel_rfl)
            have t64 : A.tmps[64]?.getD undef = .bool true := by simpa using s64
            rw [if_pos (Flow.wanted_none rfl)]
            clear hfr hdep
            go_simp
            exact hK _ _ (Gr.refl _) hinv (fun d hd => by cases hd; trivial)
          refine Flow.Steps.cons (fun A W hfr hinv hdep K hK => ?_) ?_
          · have s65 : A.tmps.getD 65 undef = .bool true := hdep 65 (by kernel_rfl)
            have t65 : A.tmps[65]?.getD undef = .bool true := by simpa using s65
            rw [if_pos (Flow.wanted_none rfl)]
            clear hfr hdep
            go_simp
            exact hK _ _ (Gr.refl _) hinv (fun d hd => by cases hd; trivial)
          refine Flow.Steps.cons (fun A W hfr hinv hdep K hK => ?_) ?_
          · have sg : A.tmps.getD 66 undef = .bool true := hdep 66 (by kernel_rfl)
            rw [if_pos (Flow.wanted_yes 24 true 66 rfl (by kernel_rfl) sg)]
            clear hfr hdep
            go_simp
            refine (HK.out W).mono ?_
            rintro e W' ⟨rfl, g1⟩
            exact hK _ _ g1 (Gr.trans hinv g1) (fun d hd => by cases hd; trivial)
          refine Flow.Steps.cons (fun A W hfr hinv hdep K hK => ?_) ?_
          · have s66 : A.tmps.getD 66 undef = .bool true := hdep 66 (by kernel_rfl)
            have t66 : A.tmps[66]?.getD undef = .bool true := by simpa using s66
            have s67 : A.tmps.getD 67 undef = .bool true := hdep 67 (by kernel_rfl)
            have t67 : A.tmps[67]?.getD undef = .bool true := by simpa using s67
            rw [if_pos (Flow.wanted_none rfl)]
            clear hfr hdep
            go_simp
            exact hK _ _ (Gr.refl _) hinv (fun d hd => by cases hd; trivial)
          refine Flow.Steps.cons (fun A W hfr hinv hdep K hK => ?_) ?_
          · have s68 : A.tmps.getD 68 undef = .bool true := hdep 68 (by kernel_rfl)
            have t68 : A.tmps[68]?.getD undef = .bool true := by simpa using s68
            rw [if_pos (Flow.wanted_none rfl)]
            clear hfr hdep
            go_simp
            exact hK _ _ (Gr.refl _) hinv (fun d hd => by cases hd; trivial)
          exact True.intro
        case fin =>
          intro A W hfr hfin hsl
          have s4 : A.tmps.getD 4 undef = .bool true := hsl 27 _ 4 rfl rfl
          have t4 : A.tmps[4]?.getD undef = .bool true := by simpa using s4
          have e := Flow.frame hfr [42, 43, 44, 45, 46, 47, 48, 49, 50, 51, 52, 53, 54, 55, 56, 57, 58, 59, 60, 61, 62, 63, 64, 65, 66, 67, 68, 4] (List.range 69) (by kernel_rfl) (by kernel_rfl)
          simp [List.range, List.range.loop] at e
          rw [t4] at e
          rw [e]
          clear e hfr hsl s4 t4
          first
          | (rename_i hB; refine hB _ _ ?_)
          | (rename_i hB y0; refine hB _ _ ?_)
          | (rename_i hB y0 y1; refine hB _ _ ?_)
          | (rename_i hB y0 y1 y2; refine hB _ _ ?_)
          | (rename_i hB y0 y1 y2 y3; refine hB _ _ ?_)
          | (rename_i hB y0 y1 y2 y3 y4; refine hB _ _ ?_)
          | (rename_i hB y0 y1 y2 y3 y4 y5; refine hB _ _ ?_)
          | (rename_i hB y0 y1 y2 y3 y4 y5 y6; refine hB _ _ ?_)
          | (rename_i hB y0 y1 y2 y3 y4 y5 y6 y7; refine hB _ _ ?_)
          | (rename_i hB y0 y1 y2 y3 y4 y5 y6 y7 y8; refine hB _ _ ?_)
          | (rename_i hB y0 y1 y2 y3 y4 y5 y6 y7 y8 y9; refine hB _ _ ?_)
          | (rename_i hB y0 y1 y2 y3 y4 y5 y6 y7 y8 y9 y10; refine hB _ _ ?_)
          | (rename_i hB y0 y1 y2 y3 y4 y5 y6 y7 y8 y9 y10 y11; refine hB _ _ ?_)
          | (rename_i hB y0 y1 y2 y3 y4 y5 y6 y7 y8 y9 y10 y11 y12; refine hB _ _ ?_)
          go_wp2_with fail
          go_ret
          exact ⟨rfl, Gr.trans HG4.out hfin⟩

end Go.Proofs.Ytfjdlcgojigogaa
