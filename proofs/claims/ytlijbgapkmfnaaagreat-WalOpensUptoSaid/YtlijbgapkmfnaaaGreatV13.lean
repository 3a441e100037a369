/-
  Part 13 of what the laws of stage 6 rest on: contracts of the functions that they call, and what these rest on.
-/
import Derived.Test.YtlijbgapkmfnaaaGreatV1
import Derived.Test.YtlijbgapkmfnaaaGreatV2
import Derived.Test.YtlijbgapkmfnaaaGreatV12
set_option linter.unusedVariables false
set_option linter.unusedSimpArgs false
namespace Go.Proofs.YtlijbgapkmfnaaaGreat
open Go.RowKit Go.Maps
def SlOpA (b : Nat) (p : Value) (n : Int) (l : Int) (g : Int) (N : Nat) (slot : Nat) (v : Value) (_ : World) : Prop :=
 match slot with
 | 14 => v = .agg #[.int .i64 n, .int .i64 l, .int .i64 g]
 | 15 => v = .bool true
 | 16 => v = .bool false
 | 17 => v = .bool false
 | 18 => v = p
 | 19 => v = .int .i64 (N : Int)
 | 20 => v = .pointer (some ⟨b, 0, none⟩)
 | 21 => v = .int .i64 n
 | 22 => v = .bool true
 | 23 => v = .bool true
 | 24 => v = .bool true
 | 27 => v = .bool true
 | 28 => v = .bool true
 | 31 => v = .bool true
 | 32 => v = .bool true
 | 35 => v = .bool true
 | _ => True
theorem slOpA_gr {b : Nat} {p : Value} {n : Int} {l : Int} {g : Int} {N : Nat} {s : Nat} {v : Value} {w w' : World} (h : SlOpA b p n l g N s v w) (_ : Gr w w') : SlOpA b p n l g N s v w' := h
def SlOpB (b : Nat) (p : Value) (n : Int) (l : Int) (g : Int) (ep : Nat) (N : Nat) (slot : Nat) (v : Value) (_ : World) : Prop :=
 match slot with
 | 14 => v = .agg #[.int .i64 n, .int .i64 l, .int .i64 g]
 | 15 => v = .bool true
 | 16 => v = .bool false
 | 17 => v = .bool false
 | 18 => v = p
 | 19 => v = .int .i64 (N : Int)
 | 20 => v = .pointer (some ⟨b, 0, none⟩)
 | 21 => v = .int .i64 n
 | 22 => v = .bool false
 | 23 => v = .bool false
 | 24 => v = .bool false
 | 25 => v = .int .u64 (ep : Int)
 | 26 => v = .bool true
 | 27 => v = .bool true
 | 28 => v = .bool true
 | 31 => v = .bool true
 | 32 => v = .bool true
 | 35 => v = .bool true
 | _ => True
theorem slOpB_gr {b : Nat} {p : Value} {n : Int} {l : Int} {g : Int} {ep : Nat} {N : Nat} {s : Nat} {v : Value} {w w' : World} (h : SlOpB b p n l g ep N s v w) (_ : Gr w w') : SlOpB b p n l g ep N s v w' := h
def SlOpC (b : Nat) (p : Value) (n : Int) (l : Int) (g : Int) (ep : Nat) (N : Nat) (slot : Nat) (v : Value) (_ : World) : Prop :=
 match slot with
 | 14 => v = .agg #[.int .i64 n, .int .i64 l, .int .i64 g]
 | 15 => v = .bool true
 | 16 => v = .bool false
 | 17 => v = .bool false
 | 18 => v = p
 | 19 => v = .int .i64 (N : Int)
 | 20 => v = .pointer (some ⟨b, 0, none⟩)
 | 21 => v = .int .i64 n
 | 22 => v = .bool false
 | 23 => v = .bool false
 | 24 => v = .bool false
 | 25 => v = .int .u64 (ep : Int)
 | 26 => v = .bool false
 | 27 => v = .bool false
 | 28 => v = .bool false
 | 29 => v = .int .u64 (ep : Int)
 | 30 => v = .bool true
 | 31 => v = .bool true
 | 32 => v = .bool true
 | 35 => v = .bool true
 | _ => True
theorem slOpC_gr {b : Nat} {p : Value} {n : Int} {l : Int} {g : Int} {ep : Nat} {N : Nat} {s : Nat} {v : Value} {w w' : World} (h : SlOpC b p n l g ep N s v w) (_ : Gr w w') : SlOpC b p n l g ep N s v w' := h
def SlOpD (b : Nat) (p : Value) (n : Int) (l : Int) (g : Int) (ep : Nat) (tl : Nat) (N : Nat) (slot : Nat) (v : Value) (_ : World) : Prop :=
 match slot with
 | 14 => v = .agg #[.int .i64 n, .int .i64 l, .int .i64 g]
 | 15 => v = .bool true
 | 16 => v = .bool false
 | 17 => v = .bool false
 | 18 => v = p
 | 19 => v = .int .i64 (N : Int)
 | 20 => v = .pointer (some ⟨b, 0, none⟩)
 | 21 => v = .int .i64 n
 | 22 => v = .bool false
 | 23 => v = .bool false
 | 24 => v = .bool false
 | 25 => v = .int .u64 (ep : Int)
 | 26 => v = .bool false
 | 27 => v = .bool false
 | 28 => v = .bool false
 | 29 => v = .int .u64 (ep : Int)
 | 30 => v = .bool false
 | 31 => v = .bool false
 | 32 => v = .bool false
 | 33 => v = .int .u64 (tl : Int)
 | 34 => v = .bool true
 | 35 => v = .bool true
 | _ => True
theorem slOpD_gr {b : Nat} {p : Value} {n : Int} {l : Int} {g : Int} {ep : Nat} {tl : Nat} {N : Nat} {s : Nat} {v : Value} {w w' : World} (h : SlOpD b p n l g ep tl N s v w) (_ : Gr w w') : SlOpD b p n l g ep tl N s v w' := h
def SlOpE (b : Nat) (p : Value) (n : Int) (l : Int) (g : Int) (ep : Nat) (tl : Nat) (N : Nat) (slot : Nat) (v : Value) (_ : World) : Prop :=
 match slot with
 | 14 => v = .agg #[.int .i64 n, .int .i64 l, .int .i64 g]
 | 15 => v = .bool true
 | 16 => v = .bool false
 | 17 => v = .bool false
 | 18 => v = p
 | 19 => v = .int .i64 (N : Int)
 | 20 => v = .pointer (some ⟨b, 0, none⟩)
 | 21 => v = .int .i64 n
 | 22 => v = .bool false
 | 23 => v = .bool false
 | 24 => v = .bool false
 | 25 => v = .int .u64 (ep : Int)
 | 26 => v = .bool false
 | 27 => v = .bool false
 | 28 => v = .bool false
 | 29 => v = .int .u64 (ep : Int)
 | 30 => v = .bool false
 | 31 => v = .bool false
 | 32 => v = .bool false
 | 33 => v = .int .u64 (tl : Int)
 | 34 => v = .bool false
 | 35 => v = .bool false
 | _ => True
theorem slOpE_gr {b : Nat} {p : Value} {n : Int} {l : Int} {g : Int} {ep : Nat} {tl : Nat} {N : Nat} {s : Nat} {v : Value} {w w' : World} (h : SlOpE b p n l g ep tl N s v w) (_ : Gr w w') : SlOpE b p n l g ep tl N s v w' := h
def RetOpE (x : Int) (w : World) (e : Ending) (w' : World) : Prop := e = .returned (.tuple #[.pointer none, .slice none 0 0, .int .i64 x]) ∧ Gr w w'
set_option maxRecDepth 100000 in
set_option maxHeartbeats 1000000 in
theorem wOpen_no (p : Value) (n l g : Int) (ep tl N : Nat) (w : World) (hm : mayL n l g = true) (hS : ∀ W, Gr w W → Calls Tryz.prog 72 #[p] W fun e w' => e = .returned (.int .i64 (N : Int)) ∧ W = w') (hbad : (N : Int) < n ∨ ep = 0 ∨ 4611686018427387904 < ep ∨ 4611686018427387904 < tl) :
  Calls Tryz.prog 52 #[p, .agg #[.int .i64 n, .int .i64 l, .int .i64 g], .int .u64 (tl : Int), .int .u64 (ep : Int)] w (RetOpE 2 w) := by
 obtain ⟨W1, hW1⟩ : ∃ W1, W1 = w.alloc (.cells #[.int .i64 n, .int .i64 l, .int .i64 g] 97) := ⟨_, rfl⟩; have HB : Hid (Blk W1 w.heap.size 97 #[.int .i64 n, .int .i64 l, .int .i64 g]) := Lib.hid (by rw [hW1]; exact Blk.new _ _ _); have HG1 : Hid (Gr w W1) := Lib.hid (by rw [hW1]; exact Gr.new _ _); have HW1 := Lib.hid hW1.symm; have HMay := Lib.hid (fun W => mayS_any n l g W)
 rw [hm] at HMay
 have HSec := Lib.hid (fun W (gr : Gr W1 W) => hS W (Gr.trans HG1.out gr)); clear hW1 hm hS
 by_cases h1 : (N : Int) < n
 ·
  have HQ1 := Lib.hid h1; clear hbad h1
  go_enter Tryz.func52, Tryz.ntmps52
  go_wp2_with fail; rw [HW1.out]; refine Flow.region (SlOpA w.heap.size p n l g N) (Gr W1) Gr (by kernel_rfl) (by kernel_rfl) (fun _ _ _ _ h g => slOpA_gr h g) ⟨rfl, rfl, rfl, Nat.le_refl _, fun _ _ => rfl⟩ ?steps ?fin
  case steps =>
   refine .cons (fun a W hfr hinv hdep K hK => ?_) ?_
   · have t5 := tAt (.pointer (some ⟨w.heap.size, 0, none⟩)) (hfr.at 5 (by kernel_rfl)); obtain ⟨⟨c0, c1, c2⟩, _⟩ := (HB.out.gr hinv).c3; refine fW0 rfl ?_; clear hfr hdep; go_simp; exact hK _ _ (Gr.refl _) hinv (dsT (by trivial))
   refine .cons (fun a W hfr hinv hdep K hK => ?_) ?_
   · have t14 := tAt (.agg #[.int .i64 n, .int .i64 l, .int .i64 g]) (hdep 14 (by kernel_rfl)); refine fW0 rfl ?_; clear hfr hdep; go_simp; refine (HMay.out W).mono ?_; rintro e W' ⟨rfl, g1⟩; exact hK _ _ g1 (Gr.trans hinv g1) (dsT (by trivial))
   refine .cons (fun a W hfr hinv hdep K hK => ?_) ?_
   · have t15 := tAt (.bool true) (hdep 15 (by kernel_rfl)); refine fW0 rfl ?_; clear hfr hdep; go_simp; exact hK _ _ (Gr.refl _) hinv (dsT (by trivial))
   refine .cons (fun a W hfr hinv hdep K hK => ?_) ?_
   · have t16 := tAt (.bool false) (hdep 16 (by kernel_rfl)); refine fW0 rfl ?_; clear hfr hdep; go_simp; exact hK _ _ (Gr.refl _) hinv (dsT (by trivial))
   refine .cons (fun a W hfr hinv hdep K hK => ?_) ?_
   · have sg : a.tmps.getD 17 undef = .bool false := hdep 17 (by kernel_rfl); have t0 := tAt (p) (hfr.at 0 (by kernel_rfl)); rw [if_pos (Flow.wanted_yes 3 false 17 rfl (by kernel_rfl) sg)]; clear hfr hdep; go_simp; exact hK _ _ (Gr.refl _) hinv (dsT (by trivial))
   refine .cons (fun a W hfr hinv hdep K hK => ?_) ?_
   · have sg : a.tmps.getD 17 undef = .bool false := hdep 17 (by kernel_rfl); have t18 := tAt (p) (hdep 18 (by kernel_rfl)); rw [if_pos (Flow.wanted_yes 3 false 17 rfl (by kernel_rfl) sg)]; clear hfr hdep; go_simp; refine (HSec.out W hinv).mono ?_; rintro e W' ⟨rfl, rfl⟩; exact hK _ _ (Gr.refl _) hinv (dsT (by trivial))
   refine .cons (fun a W hfr hinv hdep K hK => ?_) ?_
   · have sg : a.tmps.getD 17 undef = .bool false := hdep 17 (by kernel_rfl); have t5 := tAt (.pointer (some ⟨w.heap.size, 0, none⟩)) (hfr.at 5 (by kernel_rfl)); rw [if_pos (Flow.wanted_yes 3 false 17 rfl (by kernel_rfl) sg)]; clear hfr hdep; go_simp; exact hK _ _ (Gr.refl _) hinv (dsT (by trivial))
   refine .cons (fun a W hfr hinv hdep K hK => ?_) ?_
   · have sg : a.tmps.getD 17 undef = .bool false := hdep 17 (by kernel_rfl); have t20 := tAt (.pointer (some ⟨w.heap.size, 0, none⟩)) (hdep 20 (by kernel_rfl)); obtain ⟨⟨c0, c1, c2⟩, _⟩ := (HB.out.gr hinv).c3; rw [if_pos (Flow.wanted_yes 3 false 17 rfl (by kernel_rfl) sg)]; clear hfr hdep; go_simp; exact hK _ _ (Gr.refl _) hinv (dsT (by trivial))
   refine .cons (fun a W hfr hinv hdep K hK => ?_) ?_
   · have sg : a.tmps.getD 17 undef = .bool false := hdep 17 (by kernel_rfl); have t19 := tAt (.int .i64 (N : Int)) (hdep 19 (by kernel_rfl)); have t21 := tAt (.int .i64 n) (hdep 21 (by kernel_rfl)); have hq : (N : Int) < n := HQ1.out; rw [if_pos (Flow.wanted_yes 3 false 17 rfl (by kernel_rfl) sg)]; clear hfr hdep; go_simp; exact hK _ _ (Gr.refl _) hinv (dsT (by trivial))
   refine .cons (fun a W hfr hinv hdep K hK => ?_) ?_
   · have t17 := tAt (.bool false) (hdep 17 (by kernel_rfl)); have t22 := tAt (.bool true) (hdep 22 (by kernel_rfl)); refine fW0 rfl ?_; clear hfr hdep; go_simp; exact hK _ _ (Gr.refl _) hinv (dsT (by trivial))
   refine .cons (fun a W hfr hinv hdep K hK => ?_) ?_
   · have t23 := tAt (.bool true) (hdep 23 (by kernel_rfl)); refine fW0 rfl ?_; clear hfr hdep; go_simp; exact hK _ _ (Gr.refl _) hinv (dsT (by trivial))
   refine .cons (fun a W hfr hinv hdep K hK => ?_) ?_
   · have sg : a.tmps.getD 24 undef = .bool !false := hdep 24 (by kernel_rfl); have t3 := tAt (.int .u64 (ep : Int)) (hfr.at 3 (by kernel_rfl)); rw [if_neg (Flow.wanted_no 10 false 24 rfl (by kernel_rfl) sg)]; clear hfr hdep; exact hK _ _ (Gr.refl _) hinv (dsT (by trivial))
   refine .cons (fun a W hfr hinv hdep K hK => ?_) ?_
   · have sg : a.tmps.getD 24 undef = .bool !false := hdep 24 (by kernel_rfl); rw [if_neg (Flow.wanted_no 10 false 24 rfl (by kernel_rfl) sg)]; clear hfr hdep; exact hK _ _ (Gr.refl _) hinv (dsT (by trivial))
   refine .cons (fun a W hfr hinv hdep K hK => ?_) ?_
   · have t24 := tAt (.bool true) (hdep 24 (by kernel_rfl)); refine fW0 rfl ?_; clear hfr hdep; go_simp; exact hK _ _ (Gr.refl _) hinv (dsT (by trivial))
   refine .cons (fun a W hfr hinv hdep K hK => ?_) ?_
   · have t27 := tAt (.bool true) (hdep 27 (by kernel_rfl)); refine fW0 rfl ?_; clear hfr hdep; go_simp; exact hK _ _ (Gr.refl _) hinv (dsT (by trivial))
   refine .cons (fun a W hfr hinv hdep K hK => ?_) ?_
   · have sg : a.tmps.getD 28 undef = .bool !false := hdep 28 (by kernel_rfl); have t3 := tAt (.int .u64 (ep : Int)) (hfr.at 3 (by kernel_rfl)); rw [if_neg (Flow.wanted_no 14 false 28 rfl (by kernel_rfl) sg)]; clear hfr hdep; exact hK _ _ (Gr.refl _) hinv (dsT (by trivial))
   refine .cons (fun a W hfr hinv hdep K hK => ?_) ?_
   · have sg : a.tmps.getD 28 undef = .bool !false := hdep 28 (by kernel_rfl); rw [if_neg (Flow.wanted_no 14 false 28 rfl (by kernel_rfl) sg)]; clear hfr hdep; exact hK _ _ (Gr.refl _) hinv (dsT (by trivial))
   refine .cons (fun a W hfr hinv hdep K hK => ?_) ?_
   · have t28 := tAt (.bool true) (hdep 28 (by kernel_rfl)); refine fW0 rfl ?_; clear hfr hdep; go_simp; exact hK _ _ (Gr.refl _) hinv (dsT (by trivial))
   refine .cons (fun a W hfr hinv hdep K hK => ?_) ?_
   · have t31 := tAt (.bool true) (hdep 31 (by kernel_rfl)); refine fW0 rfl ?_; clear hfr hdep; go_simp; exact hK _ _ (Gr.refl _) hinv (dsT (by trivial))
   refine .cons (fun a W hfr hinv hdep K hK => ?_) ?_
   · have sg : a.tmps.getD 32 undef = .bool !false := hdep 32 (by kernel_rfl); have t2 := tAt (.int .u64 (tl : Int)) (hfr.at 2 (by kernel_rfl)); rw [if_neg (Flow.wanted_no 18 false 32 rfl (by kernel_rfl) sg)]; clear hfr hdep; exact hK _ _ (Gr.refl _) hinv (dsT (by trivial))
   refine .cons (fun a W hfr hinv hdep K hK => ?_) ?_
   · have sg : a.tmps.getD 32 undef = .bool !false := hdep 32 (by kernel_rfl); rw [if_neg (Flow.wanted_no 18 false 32 rfl (by kernel_rfl) sg)]; clear hfr hdep; exact hK _ _ (Gr.refl _) hinv (dsT (by trivial))
   refine .cons (fun a W hfr hinv hdep K hK => ?_) ?_
   · have t32 := tAt (.bool true) (hdep 32 (by kernel_rfl)); refine fW0 rfl ?_; clear hfr hdep; go_simp; exact hK _ _ (Gr.refl _) hinv (dsT (by trivial))
   exact True.intro
  case fin =>
   intro a W hfr hfin hsl
   have s35 : a.tmps.getD 35 undef = .bool true := hsl 21 _ 35 rfl rfl; have t35 := tmpAt s35; have e := Flow.frame hfr [14, 15, 16, 17, 18, 19, 20, 21, 22, 23, 24, 25, 26, 27, 28, 29, 30, 31, 32, 33, 34, 35] (List.range 52) (by kernel_rfl) (by kernel_rfl)
   simp [List.range, List.range.loop] at e
   rw [t35] at e
   rw [e]; clear e hfr hsl s35 t35
   first
    | (rename_i hB; refine hB _ _ ?_)
    | (rename_i hB y0; refine hB _ _ ?_)
    | (rename_i hB y0 y1; refine hB _ _ ?_)
    | (rename_i hB y0 y1 y2; refine hB _ _ ?_)
    | (rename_i hB y0 y1 y2 y3; refine hB _ _ ?_)
    | (rename_i hB y0 y1 y2 y3 y4; refine hB _ _ ?_)
    | (rename_i hB y0 y1 y2 y3 y4 y5; refine hB _ _ ?_)
    | (rename_i hB y0 y1 y2 y3 y4 y5 y6; refine hB _ _ ?_)
   have HFin := Lib.hid hfin; clear hfin; go_wp2_with fail; refine bodyPost_ret_by (P := Tryz.prog) (v := .tuple #[.pointer none, .slice none 0 0, .int .i64 2]) (by simp [results, Tryz.results52]) rfl ?_; exact ⟨rfl, Gr.trans HG1.out HFin.out⟩
 ·
  have HQ1 := Lib.hid h1
  by_cases h2 : ep = 0
  ·
   have HQ2 : Hid ((ep : Int) = 0) := Lib.hid (by omega); clear hbad h1 h2
   go_enter Tryz.func52, Tryz.ntmps52
   go_wp2_with fail; rw [HW1.out]; refine Flow.region (SlOpB w.heap.size p n l g ep N) (Gr W1) Gr (by kernel_rfl) (by kernel_rfl) (fun _ _ _ _ h g => slOpB_gr h g) ⟨rfl, rfl, rfl, Nat.le_refl _, fun _ _ => rfl⟩ ?steps ?fin
   case steps =>
    refine .cons (fun a W hfr hinv hdep K hK => ?_) ?_
    · have t5 := tAt (.pointer (some ⟨w.heap.size, 0, none⟩)) (hfr.at 5 (by kernel_rfl)); obtain ⟨⟨c0, c1, c2⟩, _⟩ := (HB.out.gr hinv).c3; refine fW0 rfl ?_; clear hfr hdep; go_simp; exact hK _ _ (Gr.refl _) hinv (dsT (by trivial))
    refine .cons (fun a W hfr hinv hdep K hK => ?_) ?_
    · have t14 := tAt (.agg #[.int .i64 n, .int .i64 l, .int .i64 g]) (hdep 14 (by kernel_rfl)); refine fW0 rfl ?_; clear hfr hdep; go_simp; refine (HMay.out W).mono ?_; rintro e W' ⟨rfl, g1⟩; exact hK _ _ g1 (Gr.trans hinv g1) (dsT (by trivial))
    refine .cons (fun a W hfr hinv hdep K hK => ?_) ?_
    · have t15 := tAt (.bool true) (hdep 15 (by kernel_rfl)); refine fW0 rfl ?_; clear hfr hdep; go_simp; exact hK _ _ (Gr.refl _) hinv (dsT (by trivial))
    refine .cons (fun a W hfr hinv hdep K hK => ?_) ?_
    · have t16 := tAt (.bool false) (hdep 16 (by kernel_rfl)); refine fW0 rfl ?_; clear hfr hdep; go_simp; exact hK _ _ (Gr.refl _) hinv (dsT (by trivial))
    refine .cons (fun a W hfr hinv hdep K hK => ?_) ?_
    · have sg : a.tmps.getD 17 undef = .bool false := hdep 17 (by kernel_rfl); have t0 := tAt (p) (hfr.at 0 (by kernel_rfl)); rw [if_pos (Flow.wanted_yes 3 false 17 rfl (by kernel_rfl) sg)]; clear hfr hdep; go_simp; exact hK _ _ (Gr.refl _) hinv (dsT (by trivial))
    refine .cons (fun a W hfr hinv hdep K hK => ?_) ?_
    · have sg : a.tmps.getD 17 undef = .bool false := hdep 17 (by kernel_rfl); have t18 := tAt (p) (hdep 18 (by kernel_rfl)); rw [if_pos (Flow.wanted_yes 3 false 17 rfl (by kernel_rfl) sg)]; clear hfr hdep; go_simp; refine (HSec.out W hinv).mono ?_; rintro e W' ⟨rfl, rfl⟩; exact hK _ _ (Gr.refl _) hinv (dsT (by trivial))
    refine .cons (fun a W hfr hinv hdep K hK => ?_) ?_
    · have sg : a.tmps.getD 17 undef = .bool false := hdep 17 (by kernel_rfl); have t5 := tAt (.pointer (some ⟨w.heap.size, 0, none⟩)) (hfr.at 5 (by kernel_rfl)); rw [if_pos (Flow.wanted_yes 3 false 17 rfl (by kernel_rfl) sg)]; clear hfr hdep; go_simp; exact hK _ _ (Gr.refl _) hinv (dsT (by trivial))
    refine .cons (fun a W hfr hinv hdep K hK => ?_) ?_
    · have sg : a.tmps.getD 17 undef = .bool false := hdep 17 (by kernel_rfl); have t20 := tAt (.pointer (some ⟨w.heap.size, 0, none⟩)) (hdep 20 (by kernel_rfl)); obtain ⟨⟨c0, c1, c2⟩, _⟩ := (HB.out.gr hinv).c3; rw [if_pos (Flow.wanted_yes 3 false 17 rfl (by kernel_rfl) sg)]; clear hfr hdep; go_simp; exact hK _ _ (Gr.refl _) hinv (dsT (by trivial))
    refine .cons (fun a W hfr hinv hdep K hK => ?_) ?_
    ·
     have sg : a.tmps.getD 17 undef = .bool false := hdep 17 (by kernel_rfl); have t19 := tAt (.int .i64 (N : Int)) (hdep 19 (by kernel_rfl)); have t21 := tAt (.int .i64 n) (hdep 21 (by kernel_rfl))
     have hq : ¬ (N : Int) < n := by have := HQ1.out; omega
     rw [if_pos (Flow.wanted_yes 3 false 17 rfl (by kernel_rfl) sg)]; clear hfr hdep; go_simp; exact hK _ _ (Gr.refl _) hinv (dsT (by trivial))
    refine .cons (fun a W hfr hinv hdep K hK => ?_) ?_
    · have t17 := tAt (.bool false) (hdep 17 (by kernel_rfl)); have t22 := tAt (.bool false) (hdep 22 (by kernel_rfl)); refine fW0 rfl ?_; clear hfr hdep; go_simp; exact hK _ _ (Gr.refl _) hinv (dsT (by trivial))
    refine .cons (fun a W hfr hinv hdep K hK => ?_) ?_
    · have t23 := tAt (.bool false) (hdep 23 (by kernel_rfl)); refine fW0 rfl ?_; clear hfr hdep; go_simp; exact hK _ _ (Gr.refl _) hinv (dsT (by trivial))
    refine .cons (fun a W hfr hinv hdep K hK => ?_) ?_
    · have sg : a.tmps.getD 24 undef = .bool false := hdep 24 (by kernel_rfl); have t3 := tAt (.int .u64 (ep : Int)) (hfr.at 3 (by kernel_rfl)); rw [if_pos (Flow.wanted_yes 10 false 24 rfl (by kernel_rfl) sg)]; clear hfr hdep; go_simp; exact hK _ _ (Gr.refl _) hinv (dsT (by trivial))
    refine .cons (fun a W hfr hinv hdep K hK => ?_) ?_
    · have sg : a.tmps.getD 24 undef = .bool false := hdep 24 (by kernel_rfl); have t25 := tAt (.int .u64 (ep : Int)) (hdep 25 (by kernel_rfl)); have hq := HQ2.out; rw [if_pos (Flow.wanted_yes 10 false 24 rfl (by kernel_rfl) sg)]; clear hfr hdep; go_simp; exact hK _ _ (Gr.refl _) hinv (dsT (by trivial))
    refine .cons (fun a W hfr hinv hdep K hK => ?_) ?_
    · have t24 := tAt (.bool false) (hdep 24 (by kernel_rfl)); have t26 := tAt (.bool true) (hdep 26 (by kernel_rfl)); refine fW0 rfl ?_; clear hfr hdep; go_simp; exact hK _ _ (Gr.refl _) hinv (dsT (by trivial))
    refine .cons (fun a W hfr hinv hdep K hK => ?_) ?_
    · have t27 := tAt (.bool true) (hdep 27 (by kernel_rfl)); refine fW0 rfl ?_; clear hfr hdep; go_simp; exact hK _ _ (Gr.refl _) hinv (dsT (by trivial))
    refine .cons (fun a W hfr hinv hdep K hK => ?_) ?_
    · have sg : a.tmps.getD 28 undef = .bool !false := hdep 28 (by kernel_rfl); have t3 := tAt (.int .u64 (ep : Int)) (hfr.at 3 (by kernel_rfl)); rw [if_neg (Flow.wanted_no 14 false 28 rfl (by kernel_rfl) sg)]; clear hfr hdep; exact hK _ _ (Gr.refl _) hinv (dsT (by trivial))
    refine .cons (fun a W hfr hinv hdep K hK => ?_) ?_
    · have sg : a.tmps.getD 28 undef = .bool !false := hdep 28 (by kernel_rfl); rw [if_neg (Flow.wanted_no 14 false 28 rfl (by kernel_rfl) sg)]; clear hfr hdep; exact hK _ _ (Gr.refl _) hinv (dsT (by trivial))
    refine .cons (fun a W hfr hinv hdep K hK => ?_) ?_
    · have t28 := tAt (.bool true) (hdep 28 (by kernel_rfl)); refine fW0 rfl ?_; clear hfr hdep; go_simp; exact hK _ _ (Gr.refl _) hinv (dsT (by trivial))
    refine .cons (fun a W hfr hinv hdep K hK => ?_) ?_
    · have t31 := tAt (.bool true) (hdep 31 (by kernel_rfl)); refine fW0 rfl ?_; clear hfr hdep; go_simp; exact hK _ _ (Gr.refl _) hinv (dsT (by trivial))
    refine .cons (fun a W hfr hinv hdep K hK => ?_) ?_
    · have sg : a.tmps.getD 32 undef = .bool !false := hdep 32 (by kernel_rfl); have t2 := tAt (.int .u64 (tl : Int)) (hfr.at 2 (by kernel_rfl)); rw [if_neg (Flow.wanted_no 18 false 32 rfl (by kernel_rfl) sg)]; clear hfr hdep; exact hK _ _ (Gr.refl _) hinv (dsT (by trivial))
    refine .cons (fun a W hfr hinv hdep K hK => ?_) ?_
    · have sg : a.tmps.getD 32 undef = .bool !false := hdep 32 (by kernel_rfl); rw [if_neg (Flow.wanted_no 18 false 32 rfl (by kernel_rfl) sg)]; clear hfr hdep; exact hK _ _ (Gr.refl _) hinv (dsT (by trivial))
    refine .cons (fun a W hfr hinv hdep K hK => ?_) ?_
    · have t32 := tAt (.bool true) (hdep 32 (by kernel_rfl)); refine fW0 rfl ?_; clear hfr hdep; go_simp; exact hK _ _ (Gr.refl _) hinv (dsT (by trivial))
    exact True.intro
   case fin =>
    intro a W hfr hfin hsl
    have s35 : a.tmps.getD 35 undef = .bool true := hsl 21 _ 35 rfl rfl; have t35 := tmpAt s35; have e := Flow.frame hfr [14, 15, 16, 17, 18, 19, 20, 21, 22, 23, 24, 25, 26, 27, 28, 29, 30, 31, 32, 33, 34, 35] (List.range 52) (by kernel_rfl) (by kernel_rfl)
    simp [List.range, List.range.loop] at e
    rw [t35] at e
    rw [e]; clear e hfr hsl s35 t35
    first
     | (rename_i hB; refine hB _ _ ?_)
     | (rename_i hB y0; refine hB _ _ ?_)
     | (rename_i hB y0 y1; refine hB _ _ ?_)
     | (rename_i hB y0 y1 y2; refine hB _ _ ?_)
     | (rename_i hB y0 y1 y2 y3; refine hB _ _ ?_)
     | (rename_i hB y0 y1 y2 y3 y4; refine hB _ _ ?_)
     | (rename_i hB y0 y1 y2 y3 y4 y5; refine hB _ _ ?_)
     | (rename_i hB y0 y1 y2 y3 y4 y5 y6; refine hB _ _ ?_)
    have HFin := Lib.hid hfin; clear hfin; go_wp2_with fail; refine bodyPost_ret_by (P := Tryz.prog) (v := .tuple #[.pointer none, .slice none 0 0, .int .i64 2]) (by simp [results, Tryz.results52]) rfl ?_; exact ⟨rfl, Gr.trans HG1.out HFin.out⟩
  ·
   have HQ2 : Hid (((ep : Int) == 0) = false) := Lib.hid (by simp; omega)
   by_cases h3 : 4611686018427387904 < ep
   ·
    have HQ3 : Hid (4611686018427387904 < (ep : Int)) := Lib.hid (by omega); clear hbad h1 h2 h3
    go_enter Tryz.func52, Tryz.ntmps52
    go_wp2_with fail; rw [HW1.out]; refine Flow.region (SlOpC w.heap.size p n l g ep N) (Gr W1) Gr (by kernel_rfl) (by kernel_rfl) (fun _ _ _ _ h g => slOpC_gr h g) ⟨rfl, rfl, rfl, Nat.le_refl _, fun _ _ => rfl⟩ ?steps ?fin
    case steps =>
     refine .cons (fun a W hfr hinv hdep K hK => ?_) ?_
     · have t5 := tAt (.pointer (some ⟨w.heap.size, 0, none⟩)) (hfr.at 5 (by kernel_rfl)); obtain ⟨⟨c0, c1, c2⟩, _⟩ := (HB.out.gr hinv).c3; refine fW0 rfl ?_; clear hfr hdep; go_simp; exact hK _ _ (Gr.refl _) hinv (dsT (by trivial))
     refine .cons (fun a W hfr hinv hdep K hK => ?_) ?_
     · have t14 := tAt (.agg #[.int .i64 n, .int .i64 l, .int .i64 g]) (hdep 14 (by kernel_rfl)); refine fW0 rfl ?_; clear hfr hdep; go_simp; refine (HMay.out W).mono ?_; rintro e W' ⟨rfl, g1⟩; exact hK _ _ g1 (Gr.trans hinv g1) (dsT (by trivial))
     refine .cons (fun a W hfr hinv hdep K hK => ?_) ?_
     · have t15 := tAt (.bool true) (hdep 15 (by kernel_rfl)); refine fW0 rfl ?_; clear hfr hdep; go_simp; exact hK _ _ (Gr.refl _) hinv (dsT (by trivial))
     refine .cons (fun a W hfr hinv hdep K hK => ?_) ?_
     · have t16 := tAt (.bool false) (hdep 16 (by kernel_rfl)); refine fW0 rfl ?_; clear hfr hdep; go_simp; exact hK _ _ (Gr.refl _) hinv (dsT (by trivial))
     refine .cons (fun a W hfr hinv hdep K hK => ?_) ?_
     · have sg : a.tmps.getD 17 undef = .bool false := hdep 17 (by kernel_rfl); have t0 := tAt (p) (hfr.at 0 (by kernel_rfl)); rw [if_pos (Flow.wanted_yes 3 false 17 rfl (by kernel_rfl) sg)]; clear hfr hdep; go_simp; exact hK _ _ (Gr.refl _) hinv (dsT (by trivial))
     refine .cons (fun a W hfr hinv hdep K hK => ?_) ?_
     · have sg : a.tmps.getD 17 undef = .bool false := hdep 17 (by kernel_rfl); have t18 := tAt (p) (hdep 18 (by kernel_rfl)); rw [if_pos (Flow.wanted_yes 3 false 17 rfl (by kernel_rfl) sg)]; clear hfr hdep; go_simp; refine (HSec.out W hinv).mono ?_; rintro e W' ⟨rfl, rfl⟩; exact hK _ _ (Gr.refl _) hinv (dsT (by trivial))
     refine .cons (fun a W hfr hinv hdep K hK => ?_) ?_
     · have sg : a.tmps.getD 17 undef = .bool false := hdep 17 (by kernel_rfl); have t5 := tAt (.pointer (some ⟨w.heap.size, 0, none⟩)) (hfr.at 5 (by kernel_rfl)); rw [if_pos (Flow.wanted_yes 3 false 17 rfl (by kernel_rfl) sg)]; clear hfr hdep; go_simp; exact hK _ _ (Gr.refl _) hinv (dsT (by trivial))
     refine .cons (fun a W hfr hinv hdep K hK => ?_) ?_
     · have sg : a.tmps.getD 17 undef = .bool false := hdep 17 (by kernel_rfl); have t20 := tAt (.pointer (some ⟨w.heap.size, 0, none⟩)) (hdep 20 (by kernel_rfl)); obtain ⟨⟨c0, c1, c2⟩, _⟩ := (HB.out.gr hinv).c3; rw [if_pos (Flow.wanted_yes 3 false 17 rfl (by kernel_rfl) sg)]; clear hfr hdep; go_simp; exact hK _ _ (Gr.refl _) hinv (dsT (by trivial))
     refine .cons (fun a W hfr hinv hdep K hK => ?_) ?_
     ·
      have sg : a.tmps.getD 17 undef = .bool false := hdep 17 (by kernel_rfl); have t19 := tAt (.int .i64 (N : Int)) (hdep 19 (by kernel_rfl)); have t21 := tAt (.int .i64 n) (hdep 21 (by kernel_rfl))
      have hq : ¬ (N : Int) < n := by have := HQ1.out; omega
      rw [if_pos (Flow.wanted_yes 3 false 17 rfl (by kernel_rfl) sg)]; clear hfr hdep; go_simp; exact hK _ _ (Gr.refl _) hinv (dsT (by trivial))
     refine .cons (fun a W hfr hinv hdep K hK => ?_) ?_
     · have t17 := tAt (.bool false) (hdep 17 (by kernel_rfl)); have t22 := tAt (.bool false) (hdep 22 (by kernel_rfl)); refine fW0 rfl ?_; clear hfr hdep; go_simp; exact hK _ _ (Gr.refl _) hinv (dsT (by trivial))
     refine .cons (fun a W hfr hinv hdep K hK => ?_) ?_
     · have t23 := tAt (.bool false) (hdep 23 (by kernel_rfl)); refine fW0 rfl ?_; clear hfr hdep; go_simp; exact hK _ _ (Gr.refl _) hinv (dsT (by trivial))
     refine .cons (fun a W hfr hinv hdep K hK => ?_) ?_
     · have sg : a.tmps.getD 24 undef = .bool false := hdep 24 (by kernel_rfl); have t3 := tAt (.int .u64 (ep : Int)) (hfr.at 3 (by kernel_rfl)); rw [if_pos (Flow.wanted_yes 10 false 24 rfl (by kernel_rfl) sg)]; clear hfr hdep; go_simp; exact hK _ _ (Gr.refl _) hinv (dsT (by trivial))
     refine .cons (fun a W hfr hinv hdep K hK => ?_) ?_
     · have sg : a.tmps.getD 24 undef = .bool false := hdep 24 (by kernel_rfl); have t25 := tAt (.int .u64 (ep : Int)) (hdep 25 (by kernel_rfl)); have hq := HQ2.out; rw [if_pos (Flow.wanted_yes 10 false 24 rfl (by kernel_rfl) sg)]; clear hfr hdep; go_simp; exact hK _ _ (Gr.refl _) hinv (dsT (by trivial))
     refine .cons (fun a W hfr hinv hdep K hK => ?_) ?_
     · have t24 := tAt (.bool false) (hdep 24 (by kernel_rfl)); have t26 := tAt (.bool false) (hdep 26 (by kernel_rfl)); refine fW0 rfl ?_; clear hfr hdep; go_simp; exact hK _ _ (Gr.refl _) hinv (dsT (by trivial))
     refine .cons (fun a W hfr hinv hdep K hK => ?_) ?_
     · have t27 := tAt (.bool false) (hdep 27 (by kernel_rfl)); refine fW0 rfl ?_; clear hfr hdep; go_simp; exact hK _ _ (Gr.refl _) hinv (dsT (by trivial))
     refine .cons (fun a W hfr hinv hdep K hK => ?_) ?_
     · have sg : a.tmps.getD 28 undef = .bool false := hdep 28 (by kernel_rfl); have t3 := tAt (.int .u64 (ep : Int)) (hfr.at 3 (by kernel_rfl)); rw [if_pos (Flow.wanted_yes 14 false 28 rfl (by kernel_rfl) sg)]; clear hfr hdep; go_simp; exact hK _ _ (Gr.refl _) hinv (dsT (by trivial))
     refine .cons (fun a W hfr hinv hdep K hK => ?_) ?_
     · have sg : a.tmps.getD 28 undef = .bool false := hdep 28 (by kernel_rfl); have t29 := tAt (.int .u64 (ep : Int)) (hdep 29 (by kernel_rfl)); have hq : 4611686018427387904 < (ep : Int) := HQ3.out; rw [if_pos (Flow.wanted_yes 14 false 28 rfl (by kernel_rfl) sg)]; clear hfr hdep; go_simp; exact hK _ _ (Gr.refl _) hinv (dsT (by trivial))
     refine .cons (fun a W hfr hinv hdep K hK => ?_) ?_
     · have t28 := tAt (.bool false) (hdep 28 (by kernel_rfl)); have t30 := tAt (.bool true) (hdep 30 (by kernel_rfl)); refine fW0 rfl ?_; clear hfr hdep; go_simp; exact hK _ _ (Gr.refl _) hinv (dsT (by trivial))
     refine .cons (fun a W hfr hinv hdep K hK => ?_) ?_
     · have t31 := tAt (.bool true) (hdep 31 (by kernel_rfl)); refine fW0 rfl ?_; clear hfr hdep; go_simp; exact hK _ _ (Gr.refl _) hinv (dsT (by trivial))
     refine .cons (fun a W hfr hinv hdep K hK => ?_) ?_
     · have sg : a.tmps.getD 32 undef = .bool !false := hdep 32 (by kernel_rfl); have t2 := tAt (.int .u64 (tl : Int)) (hfr.at 2 (by kernel_rfl)); rw [if_neg (Flow.wanted_no 18 false 32 rfl (by kernel_rfl) sg)]; clear hfr hdep; exact hK _ _ (Gr.refl _) hinv (dsT (by trivial))
     refine .cons (fun a W hfr hinv hdep K hK => ?_) ?_
     · have sg : a.tmps.getD 32 undef = .bool !false := hdep 32 (by kernel_rfl); rw [if_neg (Flow.wanted_no 18 false 32 rfl (by kernel_rfl) sg)]; clear hfr hdep; exact hK _ _ (Gr.refl _) hinv (dsT (by trivial))
     refine .cons (fun a W hfr hinv hdep K hK => ?_) ?_
     · have t32 := tAt (.bool true) (hdep 32 (by kernel_rfl)); refine fW0 rfl ?_; clear hfr hdep; go_simp; exact hK _ _ (Gr.refl _) hinv (dsT (by trivial))
     exact True.intro
    case fin =>
     intro a W hfr hfin hsl
     have s35 : a.tmps.getD 35 undef = .bool true := hsl 21 _ 35 rfl rfl; have t35 := tmpAt s35; have e := Flow.frame hfr [14, 15, 16, 17, 18, 19, 20, 21, 22, 23, 24, 25, 26, 27, 28, 29, 30, 31, 32, 33, 34, 35] (List.range 52) (by kernel_rfl) (by kernel_rfl)
     simp [List.range, List.range.loop] at e
     rw [t35] at e
     rw [e]; clear e hfr hsl s35 t35
     first
      | (rename_i hB; refine hB _ _ ?_)
      | (rename_i hB y0; refine hB _ _ ?_)
      | (rename_i hB y0 y1; refine hB _ _ ?_)
      | (rename_i hB y0 y1 y2; refine hB _ _ ?_)
      | (rename_i hB y0 y1 y2 y3; refine hB _ _ ?_)
      | (rename_i hB y0 y1 y2 y3 y4; refine hB _ _ ?_)
      | (rename_i hB y0 y1 y2 y3 y4 y5; refine hB _ _ ?_)
      | (rename_i hB y0 y1 y2 y3 y4 y5 y6; refine hB _ _ ?_)
     have HFin := Lib.hid hfin; clear hfin; go_wp2_with fail; refine bodyPost_ret_by (P := Tryz.prog) (v := .tuple #[.pointer none, .slice none 0 0, .int .i64 2]) (by simp [results, Tryz.results52]) rfl ?_; exact ⟨rfl, Gr.trans HG1.out HFin.out⟩
   ·
    have HQ3 : Hid (¬ 4611686018427387904 < (ep : Int)) := Lib.hid (by omega); have HQ4 : Hid (4611686018427387904 < (tl : Int)) := Lib.hid (by omega); clear hbad h1 h2 h3
    go_enter Tryz.func52, Tryz.ntmps52
    go_wp2_with fail; rw [HW1.out]; refine Flow.region (SlOpD w.heap.size p n l g ep tl N) (Gr W1) Gr (by kernel_rfl) (by kernel_rfl) (fun _ _ _ _ h g => slOpD_gr h g) ⟨rfl, rfl, rfl, Nat.le_refl _, fun _ _ => rfl⟩ ?steps ?fin
    case steps =>
     refine .cons (fun a W hfr hinv hdep K hK => ?_) ?_
     · have t5 := tAt (.pointer (some ⟨w.heap.size, 0, none⟩)) (hfr.at 5 (by kernel_rfl)); obtain ⟨⟨c0, c1, c2⟩, _⟩ := (HB.out.gr hinv).c3; refine fW0 rfl ?_; clear hfr hdep; go_simp; exact hK _ _ (Gr.refl _) hinv (dsT (by trivial))
     refine .cons (fun a W hfr hinv hdep K hK => ?_) ?_
     · have t14 := tAt (.agg #[.int .i64 n, .int .i64 l, .int .i64 g]) (hdep 14 (by kernel_rfl)); refine fW0 rfl ?_; clear hfr hdep; go_simp; refine (HMay.out W).mono ?_; rintro e W' ⟨rfl, g1⟩; exact hK _ _ g1 (Gr.trans hinv g1) (dsT (by trivial))
     refine .cons (fun a W hfr hinv hdep K hK => ?_) ?_
     · have t15 := tAt (.bool true) (hdep 15 (by kernel_rfl)); refine fW0 rfl ?_; clear hfr hdep; go_simp; exact hK _ _ (Gr.refl _) hinv (dsT (by trivial))
     refine .cons (fun a W hfr hinv hdep K hK => ?_) ?_
     · have t16 := tAt (.bool false) (hdep 16 (by kernel_rfl)); refine fW0 rfl ?_; clear hfr hdep; go_simp; exact hK _ _ (Gr.refl _) hinv (dsT (by trivial))
     refine .cons (fun a W hfr hinv hdep K hK => ?_) ?_
     · have sg : a.tmps.getD 17 undef = .bool false := hdep 17 (by kernel_rfl); have t0 := tAt (p) (hfr.at 0 (by kernel_rfl)); rw [if_pos (Flow.wanted_yes 3 false 17 rfl (by kernel_rfl) sg)]; clear hfr hdep; go_simp; exact hK _ _ (Gr.refl _) hinv (dsT (by trivial))
     refine .cons (fun a W hfr hinv hdep K hK => ?_) ?_
     · have sg : a.tmps.getD 17 undef = .bool false := hdep 17 (by kernel_rfl); have t18 := tAt (p) (hdep 18 (by kernel_rfl)); rw [if_pos (Flow.wanted_yes 3 false 17 rfl (by kernel_rfl) sg)]; clear hfr hdep; go_simp; refine (HSec.out W hinv).mono ?_; rintro e W' ⟨rfl, rfl⟩; exact hK _ _ (Gr.refl _) hinv (dsT (by trivial))
     refine .cons (fun a W hfr hinv hdep K hK => ?_) ?_
     · have sg : a.tmps.getD 17 undef = .bool false := hdep 17 (by kernel_rfl); have t5 := tAt (.pointer (some ⟨w.heap.size, 0, none⟩)) (hfr.at 5 (by kernel_rfl)); rw [if_pos (Flow.wanted_yes 3 false 17 rfl (by kernel_rfl) sg)]; clear hfr hdep; go_simp; exact hK _ _ (Gr.refl _) hinv (dsT (by trivial))
     refine .cons (fun a W hfr hinv hdep K hK => ?_) ?_
     · have sg : a.tmps.getD 17 undef = .bool false := hdep 17 (by kernel_rfl); have t20 := tAt (.pointer (some ⟨w.heap.size, 0, none⟩)) (hdep 20 (by kernel_rfl)); obtain ⟨⟨c0, c1, c2⟩, _⟩ := (HB.out.gr hinv).c3; rw [if_pos (Flow.wanted_yes 3 false 17 rfl (by kernel_rfl) sg)]; clear hfr hdep; go_simp; exact hK _ _ (Gr.refl _) hinv (dsT (by trivial))
     refine .cons (fun a W hfr hinv hdep K hK => ?_) ?_
     ·
      have sg : a.tmps.getD 17 undef = .bool false := hdep 17 (by kernel_rfl); have t19 := tAt (.int .i64 (N : Int)) (hdep 19 (by kernel_rfl)); have t21 := tAt (.int .i64 n) (hdep 21 (by kernel_rfl))
      have hq : ¬ (N : Int) < n := by have := HQ1.out; omega
      rw [if_pos (Flow.wanted_yes 3 false 17 rfl (by kernel_rfl) sg)]; clear hfr hdep; go_simp; exact hK _ _ (Gr.refl _) hinv (dsT (by trivial))
     refine .cons (fun a W hfr hinv hdep K hK => ?_) ?_
     · have t17 := tAt (.bool false) (hdep 17 (by kernel_rfl)); have t22 := tAt (.bool false) (hdep 22 (by kernel_rfl)); refine fW0 rfl ?_; clear hfr hdep; go_simp; exact hK _ _ (Gr.refl _) hinv (dsT (by trivial))
     refine .cons (fun a W hfr hinv hdep K hK => ?_) ?_
     · have t23 := tAt (.bool false) (hdep 23 (by kernel_rfl)); refine fW0 rfl ?_; clear hfr hdep; go_simp; exact hK _ _ (Gr.refl _) hinv (dsT (by trivial))
     refine .cons (fun a W hfr hinv hdep K hK => ?_) ?_
     · have sg : a.tmps.getD 24 undef = .bool false := hdep 24 (by kernel_rfl); have t3 := tAt (.int .u64 (ep : Int)) (hfr.at 3 (by kernel_rfl)); rw [if_pos (Flow.wanted_yes 10 false 24 rfl (by kernel_rfl) sg)]; clear hfr hdep; go_simp; exact hK _ _ (Gr.refl _) hinv (dsT (by trivial))
     refine .cons (fun a W hfr hinv hdep K hK => ?_) ?_
     · have sg : a.tmps.getD 24 undef = .bool false := hdep 24 (by kernel_rfl); have t25 := tAt (.int .u64 (ep : Int)) (hdep 25 (by kernel_rfl)); have hq := HQ2.out; rw [if_pos (Flow.wanted_yes 10 false 24 rfl (by kernel_rfl) sg)]; clear hfr hdep; go_simp; exact hK _ _ (Gr.refl _) hinv (dsT (by trivial))
     refine .cons (fun a W hfr hinv hdep K hK => ?_) ?_
     · have t24 := tAt (.bool false) (hdep 24 (by kernel_rfl)); have t26 := tAt (.bool false) (hdep 26 (by kernel_rfl)); refine fW0 rfl ?_; clear hfr hdep; go_simp; exact hK _ _ (Gr.refl _) hinv (dsT (by trivial))
     refine .cons (fun a W hfr hinv hdep K hK => ?_) ?_
     · have t27 := tAt (.bool false) (hdep 27 (by kernel_rfl)); refine fW0 rfl ?_; clear hfr hdep; go_simp; exact hK _ _ (Gr.refl _) hinv (dsT (by trivial))
     refine .cons (fun a W hfr hinv hdep K hK => ?_) ?_
     · have sg : a.tmps.getD 28 undef = .bool false := hdep 28 (by kernel_rfl); have t3 := tAt (.int .u64 (ep : Int)) (hfr.at 3 (by kernel_rfl)); rw [if_pos (Flow.wanted_yes 14 false 28 rfl (by kernel_rfl) sg)]; clear hfr hdep; go_simp; exact hK _ _ (Gr.refl _) hinv (dsT (by trivial))
     refine .cons (fun a W hfr hinv hdep K hK => ?_) ?_
     ·
      have sg : a.tmps.getD 28 undef = .bool false := hdep 28 (by kernel_rfl); have t29 := tAt (.int .u64 (ep : Int)) (hdep 29 (by kernel_rfl))
      have hq : ¬ 4611686018427387904 < (ep : Int) := by have := HQ3.out; omega
      rw [if_pos (Flow.wanted_yes 14 false 28 rfl (by kernel_rfl) sg)]; clear hfr hdep; go_simp; exact hK _ _ (Gr.refl _) hinv (dsT (by trivial))
     refine .cons (fun a W hfr hinv hdep K hK => ?_) ?_
     · have t28 := tAt (.bool false) (hdep 28 (by kernel_rfl)); have t30 := tAt (.bool false) (hdep 30 (by kernel_rfl)); refine fW0 rfl ?_; clear hfr hdep; go_simp; exact hK _ _ (Gr.refl _) hinv (dsT (by trivial))
     refine .cons (fun a W hfr hinv hdep K hK => ?_) ?_
     · have t31 := tAt (.bool false) (hdep 31 (by kernel_rfl)); refine fW0 rfl ?_; clear hfr hdep; go_simp; exact hK _ _ (Gr.refl _) hinv (dsT (by trivial))
     refine .cons (fun a W hfr hinv hdep K hK => ?_) ?_
     · have sg : a.tmps.getD 32 undef = .bool false := hdep 32 (by kernel_rfl); have t2 := tAt (.int .u64 (tl : Int)) (hfr.at 2 (by kernel_rfl)); rw [if_pos (Flow.wanted_yes 18 false 32 rfl (by kernel_rfl) sg)]; clear hfr hdep; go_simp; exact hK _ _ (Gr.refl _) hinv (dsT (by trivial))
     refine .cons (fun a W hfr hinv hdep K hK => ?_) ?_
     · have sg : a.tmps.getD 32 undef = .bool false := hdep 32 (by kernel_rfl); have t33 := tAt (.int .u64 (tl : Int)) (hdep 33 (by kernel_rfl)); have hq : 4611686018427387904 < (tl : Int) := HQ4.out; rw [if_pos (Flow.wanted_yes 18 false 32 rfl (by kernel_rfl) sg)]; clear hfr hdep; go_simp; exact hK _ _ (Gr.refl _) hinv (dsT (by trivial))
     refine .cons (fun a W hfr hinv hdep K hK => ?_) ?_
     · have t32 := tAt (.bool false) (hdep 32 (by kernel_rfl)); have t34 := tAt (.bool true) (hdep 34 (by kernel_rfl)); refine fW0 rfl ?_; clear hfr hdep; go_simp; exact hK _ _ (Gr.refl _) hinv (dsT (by trivial))
     exact True.intro
    case fin =>
     intro a W hfr hfin hsl
     have s35 : a.tmps.getD 35 undef = .bool true := hsl 21 _ 35 rfl rfl; have t35 := tmpAt s35; have e := Flow.frame hfr [14, 15, 16, 17, 18, 19, 20, 21, 22, 23, 24, 25, 26, 27, 28, 29, 30, 31, 32, 33, 34, 35] (List.range 52) (by kernel_rfl) (by kernel_rfl)
     simp [List.range, List.range.loop] at e
     rw [t35] at e
     rw [e]; clear e hfr hsl s35 t35
     first
      | (rename_i hB; refine hB _ _ ?_)
      | (rename_i hB y0; refine hB _ _ ?_)
      | (rename_i hB y0 y1; refine hB _ _ ?_)
      | (rename_i hB y0 y1 y2; refine hB _ _ ?_)
      | (rename_i hB y0 y1 y2 y3; refine hB _ _ ?_)
      | (rename_i hB y0 y1 y2 y3 y4; refine hB _ _ ?_)
      | (rename_i hB y0 y1 y2 y3 y4 y5; refine hB _ _ ?_)
      | (rename_i hB y0 y1 y2 y3 y4 y5 y6; refine hB _ _ ?_)
     have HFin := Lib.hid hfin; clear hfin; go_wp2_with fail; refine bodyPost_ret_by (P := Tryz.prog) (v := .tuple #[.pointer none, .slice none 0 0, .int .i64 2]) (by simp [results, Tryz.results52]) rfl ?_; exact ⟨rfl, Gr.trans HG1.out HFin.out⟩
def RetOp (p : Value) (s : St) (n l g : Int) (ep tl : Nat) (w : World) (e : Ending) (w' : World) : Prop :=
 (opOk s l.toNat ep tl = false ∧ RetOpE 4 w e w') ∨
 (opOk s l.toNat ep tl = true ∧ ∃ b v L q m, e = .returned (.tuple #[.pointer (some ⟨b, 0, none⟩), v, .int .i64 0]) ∧ OwnR ShL w' w.heap.size TLd v L ∧ L.map LX3 = logT tl (opX s l.toNat ep tl) ∧ LgAt w' b p q m m (opL s n l g ep tl) ∧ (∀ k, lgS b q k → w.heap.size ≤ k) ∧ Gr w w')
set_option maxRecDepth 100000 in
set_option maxHeartbeats 1000000 in
theorem wOpen_any {F : Nat → Prop} {s : St} (D : Nat) (p : Value) (n l g : Int) (ep tl : Nat) (w : World) (hp : p = .pointer (some ⟨D, 0, none⟩)) (hd : Dk w F p s) (hm : mayL n l g = true) (hl : l ≤ 80) (ht : tl ≤ 4611686018427387904) (he : 1 ≤ ep) (he2 : ep ≤ 4611686018427387904) (hn : n ≤ s.ls.length) (hn2 : 3 + l ≤ s.ls.length) :
  Calls Tryz.prog 52 #[p, .agg #[.int .i64 n, .int .i64 l, .int .i64 g], .int .u64 (tl : Int), .int .u64 (ep : Int)] w (RetOp p s n l g ep tl w) := by
 obtain ⟨W1, hW1⟩ : ∃ W1, W1 = w.alloc (.cells #[.int .i64 n, .int .i64 l, .int .i64 g] 97) := ⟨_, rfl⟩; have HB : Hid (Blk W1 w.heap.size 97 #[.int .i64 n, .int .i64 l, .int .i64 g]) := Lib.hid (by rw [hW1]; exact Blk.new _ _ _); have HG1 : Hid (Gr w W1) := Lib.hid (by rw [hW1]; exact Gr.new _ _); have HW1 := Lib.hid hW1.symm; have HMay := Lib.hid (fun W => mayS_any n l g W)
 rw [hm] at HMay
 obtain ⟨N, hN⟩ : ∃ N, N = s.ls.length := ⟨_, rfl⟩; have HSec := Lib.hid (fun W (gr : Gr W1 W) => Sectors_any W (hd.gr (Gr.trans HG1.out gr)))
 rw [← hN] at HSec hn
 have HQ1 : Hid (¬ (N : Int) < n) := Lib.hid (by omega); have HQ2 : Hid (((ep : Int) == 0) = false) := Lib.hid (by simp; omega); have HQ3 : Hid (¬ 4611686018427387904 < (ep : Int)) := Lib.hid (by omega); have HQ4 : Hid (¬ 4611686018427387904 < (tl : Int)) := Lib.hid (by omega); have HRd := Lib.hid (fun b W (gr : Gr w W) (hb : Blk W b TLg #[p, .int .i64 n, .int .i64 l, .int .i64 g, .int .u64 ep, .int .u64 tl, .int .u64 0, .slice none 0 0, .int .i64 0, .bool false]) => wread_any D b p n l g ep tl W hb hp (hd.gr gr) hm hl ht he he2 hn2); have HP := Lib.hid hp; clear hW1 hm hN hn hn2 hl he he2 ht hp hd
 go_enter Tryz.func52, Tryz.ntmps52
 go_wp2_with fail; rw [HW1.out]; refine Flow.region (SlOpE w.heap.size p n l g ep tl N) (Gr W1) Gr (by kernel_rfl) (by kernel_rfl) (fun _ _ _ _ h g => slOpE_gr h g) ⟨rfl, rfl, rfl, Nat.le_refl _, fun _ _ => rfl⟩ ?steps ?fin
 case steps =>
  refine .cons (fun a W hfr hinv hdep K hK => ?_) ?_
  · have t5 := tAt (.pointer (some ⟨w.heap.size, 0, none⟩)) (hfr.at 5 (by kernel_rfl)); obtain ⟨⟨c0, c1, c2⟩, _⟩ := (HB.out.gr hinv).c3; refine fW0 rfl ?_; clear hfr hdep; go_simp; exact hK _ _ (Gr.refl _) hinv (dsT (by trivial))
  refine .cons (fun a W hfr hinv hdep K hK => ?_) ?_
  · have t14 := tAt (.agg #[.int .i64 n, .int .i64 l, .int .i64 g]) (hdep 14 (by kernel_rfl)); refine fW0 rfl ?_; clear hfr hdep; go_simp; refine (HMay.out W).mono ?_; rintro e W' ⟨rfl, g1⟩; exact hK _ _ g1 (Gr.trans hinv g1) (dsT (by trivial))
  refine .cons (fun a W hfr hinv hdep K hK => ?_) ?_
  · have t15 := tAt (.bool true) (hdep 15 (by kernel_rfl)); refine fW0 rfl ?_; clear hfr hdep; go_simp; exact hK _ _ (Gr.refl _) hinv (dsT (by trivial))
  refine .cons (fun a W hfr hinv hdep K hK => ?_) ?_
  · have t16 := tAt (.bool false) (hdep 16 (by kernel_rfl)); refine fW0 rfl ?_; clear hfr hdep; go_simp; exact hK _ _ (Gr.refl _) hinv (dsT (by trivial))
  refine .cons (fun a W hfr hinv hdep K hK => ?_) ?_
  · have sg : a.tmps.getD 17 undef = .bool false := hdep 17 (by kernel_rfl); have t0 := tAt (p) (hfr.at 0 (by kernel_rfl)); rw [if_pos (Flow.wanted_yes 3 false 17 rfl (by kernel_rfl) sg)]; clear hfr hdep; go_simp; exact hK _ _ (Gr.refl _) hinv (dsT (by trivial))
  refine .cons (fun a W hfr hinv hdep K hK => ?_) ?_
  · have sg : a.tmps.getD 17 undef = .bool false := hdep 17 (by kernel_rfl); have t18 := tAt (p) (hdep 18 (by kernel_rfl)); rw [if_pos (Flow.wanted_yes 3 false 17 rfl (by kernel_rfl) sg)]; clear hfr hdep; go_simp; refine (HSec.out W hinv).mono ?_; rintro e W' ⟨rfl, rfl⟩; exact hK _ _ (Gr.refl _) hinv (dsT (by trivial))
  refine .cons (fun a W hfr hinv hdep K hK => ?_) ?_
  · have sg : a.tmps.getD 17 undef = .bool false := hdep 17 (by kernel_rfl); have t5 := tAt (.pointer (some ⟨w.heap.size, 0, none⟩)) (hfr.at 5 (by kernel_rfl)); rw [if_pos (Flow.wanted_yes 3 false 17 rfl (by kernel_rfl) sg)]; clear hfr hdep; go_simp; exact hK _ _ (Gr.refl _) hinv (dsT (by trivial))
  refine .cons (fun a W hfr hinv hdep K hK => ?_) ?_
  · have sg : a.tmps.getD 17 undef = .bool false := hdep 17 (by kernel_rfl); have t20 := tAt (.pointer (some ⟨w.heap.size, 0, none⟩)) (hdep 20 (by kernel_rfl)); obtain ⟨⟨c0, c1, c2⟩, _⟩ := (HB.out.gr hinv).c3; rw [if_pos (Flow.wanted_yes 3 false 17 rfl (by kernel_rfl) sg)]; clear hfr hdep; go_simp; exact hK _ _ (Gr.refl _) hinv (dsT (by trivial))
  refine .cons (fun a W hfr hinv hdep K hK => ?_) ?_
  ·
   have sg : a.tmps.getD 17 undef = .bool false := hdep 17 (by kernel_rfl); have t19 := tAt (.int .i64 (N : Int)) (hdep 19 (by kernel_rfl)); have t21 := tAt (.int .i64 n) (hdep 21 (by kernel_rfl))
   have hq : ¬ (N : Int) < n := by have := HQ1.out; omega
   rw [if_pos (Flow.wanted_yes 3 false 17 rfl (by kernel_rfl) sg)]; clear hfr hdep; go_simp; exact hK _ _ (Gr.refl _) hinv (dsT (by trivial))
  refine .cons (fun a W hfr hinv hdep K hK => ?_) ?_
  · have t17 := tAt (.bool false) (hdep 17 (by kernel_rfl)); have t22 := tAt (.bool false) (hdep 22 (by kernel_rfl)); refine fW0 rfl ?_; clear hfr hdep; go_simp; exact hK _ _ (Gr.refl _) hinv (dsT (by trivial))
  refine .cons (fun a W hfr hinv hdep K hK => ?_) ?_
  · have t23 := tAt (.bool false) (hdep 23 (by kernel_rfl)); refine fW0 rfl ?_; clear hfr hdep; go_simp; exact hK _ _ (Gr.refl _) hinv (dsT (by trivial))
  refine .cons (fun a W hfr hinv hdep K hK => ?_) ?_
  · have sg : a.tmps.getD 24 undef = .bool false := hdep 24 (by kernel_rfl); have t3 := tAt (.int .u64 (ep : Int)) (hfr.at 3 (by kernel_rfl)); rw [if_pos (Flow.wanted_yes 10 false 24 rfl (by kernel_rfl) sg)]; clear hfr hdep; go_simp; exact hK _ _ (Gr.refl _) hinv (dsT (by trivial))
  refine .cons (fun a W hfr hinv hdep K hK => ?_) ?_
  · have sg : a.tmps.getD 24 undef = .bool false := hdep 24 (by kernel_rfl); have t25 := tAt (.int .u64 (ep : Int)) (hdep 25 (by kernel_rfl)); have hq := HQ2.out; rw [if_pos (Flow.wanted_yes 10 false 24 rfl (by kernel_rfl) sg)]; clear hfr hdep; go_simp; exact hK _ _ (Gr.refl _) hinv (dsT (by trivial))
  refine .cons (fun a W hfr hinv hdep K hK => ?_) ?_
  · have t24 := tAt (.bool false) (hdep 24 (by kernel_rfl)); have t26 := tAt (.bool false) (hdep 26 (by kernel_rfl)); refine fW0 rfl ?_; clear hfr hdep; go_simp; exact hK _ _ (Gr.refl _) hinv (dsT (by trivial))
  refine .cons (fun a W hfr hinv hdep K hK => ?_) ?_
  · have t27 := tAt (.bool false) (hdep 27 (by kernel_rfl)); refine fW0 rfl ?_; clear hfr hdep; go_simp; exact hK _ _ (Gr.refl _) hinv (dsT (by trivial))
  refine .cons (fun a W hfr hinv hdep K hK => ?_) ?_
  · have sg : a.tmps.getD 28 undef = .bool false := hdep 28 (by kernel_rfl); have t3 := tAt (.int .u64 (ep : Int)) (hfr.at 3 (by kernel_rfl)); rw [if_pos (Flow.wanted_yes 14 false 28 rfl (by kernel_rfl) sg)]; clear hfr hdep; go_simp; exact hK _ _ (Gr.refl _) hinv (dsT (by trivial))
  refine .cons (fun a W hfr hinv hdep K hK => ?_) ?_
  ·
   have sg : a.tmps.getD 28 undef = .bool false := hdep 28 (by kernel_rfl); have t29 := tAt (.int .u64 (ep : Int)) (hdep 29 (by kernel_rfl))
   have hq : ¬ 4611686018427387904 < (ep : Int) := by have := HQ3.out; omega
   rw [if_pos (Flow.wanted_yes 14 false 28 rfl (by kernel_rfl) sg)]; clear hfr hdep; go_simp; exact hK _ _ (Gr.refl _) hinv (dsT (by trivial))
  refine .cons (fun a W hfr hinv hdep K hK => ?_) ?_
  · have t28 := tAt (.bool false) (hdep 28 (by kernel_rfl)); have t30 := tAt (.bool false) (hdep 30 (by kernel_rfl)); refine fW0 rfl ?_; clear hfr hdep; go_simp; exact hK _ _ (Gr.refl _) hinv (dsT (by trivial))
  refine .cons (fun a W hfr hinv hdep K hK => ?_) ?_
  · have t31 := tAt (.bool false) (hdep 31 (by kernel_rfl)); refine fW0 rfl ?_; clear hfr hdep; go_simp; exact hK _ _ (Gr.refl _) hinv (dsT (by trivial))
  refine .cons (fun a W hfr hinv hdep K hK => ?_) ?_
  · have sg : a.tmps.getD 32 undef = .bool false := hdep 32 (by kernel_rfl); have t2 := tAt (.int .u64 (tl : Int)) (hfr.at 2 (by kernel_rfl)); rw [if_pos (Flow.wanted_yes 18 false 32 rfl (by kernel_rfl) sg)]; clear hfr hdep; go_simp; exact hK _ _ (Gr.refl _) hinv (dsT (by trivial))
  refine .cons (fun a W hfr hinv hdep K hK => ?_) ?_
  ·
   have sg : a.tmps.getD 32 undef = .bool false := hdep 32 (by kernel_rfl); have t33 := tAt (.int .u64 (tl : Int)) (hdep 33 (by kernel_rfl))
   have hq : ¬ 4611686018427387904 < (tl : Int) := by have := HQ4.out; omega
   rw [if_pos (Flow.wanted_yes 18 false 32 rfl (by kernel_rfl) sg)]; clear hfr hdep; go_simp; exact hK _ _ (Gr.refl _) hinv (dsT (by trivial))
  refine .cons (fun a W hfr hinv hdep K hK => ?_) ?_
  · have t32 := tAt (.bool false) (hdep 32 (by kernel_rfl)); have t34 := tAt (.bool false) (hdep 34 (by kernel_rfl)); refine fW0 rfl ?_; clear hfr hdep; go_simp; exact hK _ _ (Gr.refl _) hinv (dsT (by trivial))
  exact True.intro
 case fin =>
  intro a W hfr hfin hsl
  have s35 : a.tmps.getD 35 undef = .bool false := hsl 21 _ 35 rfl rfl; have t35 := tmpAt s35; have e := Flow.frame hfr [14, 15, 16, 17, 18, 19, 20, 21, 22, 23, 24, 25, 26, 27, 28, 29, 30, 31, 32, 33, 34, 35] (List.range 52) (by kernel_rfl) (by kernel_rfl)
  simp [List.range, List.range.loop] at e
  rw [t35] at e
  rw [e]; clear e hfr hsl s35 t35
  first
   | (rename_i hB; refine hB _ _ ?_)
   | (rename_i hB y0; refine hB _ _ ?_)
   | (rename_i hB y0 y1; refine hB _ _ ?_)
   | (rename_i hB y0 y1 y2; refine hB _ _ ?_)
   | (rename_i hB y0 y1 y2 y3; refine hB _ _ ?_)
   | (rename_i hB y0 y1 y2 y3 y4; refine hB _ _ ?_)
   | (rename_i hB y0 y1 y2 y3 y4 y5; refine hB _ _ ?_)
   | (rename_i hB y0 y1 y2 y3 y4 y5 y6; refine hB _ _ ?_)
  have HFin := Lib.hid hfin; clear hfin; have hp := HP.out; subst hp; obtain ⟨⟨c0, c1, c2⟩, _⟩ := (HB.out.gr HFin.out).c3; have HGW : Hid (Gr w W) := Lib.hid (Gr.trans HG1.out HFin.out); obtain ⟨W2, hW2⟩ : ∃ W2, W2 = W.alloc (.cells #[.pointer (some ⟨D, 0, none⟩), .int .i64 n, .int .i64 l, .int .i64 g, .int .u64 ep, .int .u64 tl, .int .u64 0, .slice none 0 0, .int .i64 0, .bool false] TLg) := ⟨_, rfl⟩; have HB2 : Hid (Blk W2 W.heap.size TLg #[.pointer (some ⟨D, 0, none⟩), .int .i64 n, .int .i64 l, .int .i64 g, .int .u64 ep, .int .u64 tl, .int .u64 0, .slice none 0 0, .int .i64 0, .bool false]) := Lib.hid (by rw [hW2]; exact Blk.new _ _ _); have HG2 : Hid (Gr w W2 ∧ Gr W W2) := Lib.hid (by rw [hW2]; exact ⟨Gr.trans HGW.out (Gr.new _ _), Gr.new _ _⟩); have HW2 : Hid (W.alloc (.cells #[.pointer (some ⟨D, 0, none⟩), .int .i64 n, .int .i64 l, .int .i64 g, .int .u64 ep, .int .u64 tl, .int .u64 0, .slice none 0 0, .int .i64 0, .bool false] 107) = W2) := Lib.hid hW2.symm; have HR2 := Lib.hid (HRd.out W.heap.size W2 HG2.out.1 HB2.out); clear hW2; go_wp2_with fail; rw [HW2.out]; refine HR2.out.mono ?_; rintro e W3 (⟨ho, rfl, g3⟩ | ⟨ho, v, L, q, m, rfl, hown, hL, hlg, hu⟩)
  · have HO := Lib.hid ho; have HG3 := Lib.hid (Gr.trans HG2.out.1 g3); clear ho g3 c0 c1 c2; go_wp2_with fail; refine bodyPost_ret_by (P := Tryz.prog) (v := .tuple #[.pointer none, .slice none 0 0, .int .i64 4]) (by simp [results, Tryz.results52]) rfl ?_; exact .inl ⟨HO.out, rfl, HG3.out⟩
  ·
   have hWs := HGW.out.size; have hW2s : W.heap.size < W2.heap.size := HB2.out.lt
   have hlow : ∀ k, lgS W.heap.size q k → w.heap.size ≤ k := fun k hk => by
    rcases hu.fresh k hk with h | h
    · omega
    · omega
   have hG : Gr w W3 := Below.trans HG2.out.1 ((hu.below (B := w.heap.size) (by omega) (fun k hk => by omega))); have HR : Hid (RetOp (.pointer (some ⟨D, 0, none⟩)) s n l g ep tl w (.returned (.tuple #[.pointer (some ⟨W.heap.size, 0, none⟩), v, .int .i64 0])) W3) := Lib.hid (.inr ⟨ho, W.heap.size, v, L, q, m, rfl, hown.base_le (by omega), hL, hlg, hlow, hG⟩); clear ho hown hL hlg hu hlow hG hWs hW2s c0 c1 c2; go_wp2_with fail; refine bodyPost_ret_by (P := Tryz.prog) (v := .tuple #[.pointer (some ⟨W.heap.size, 0, none⟩), v, .int .i64 0]) (by simp [results, Tryz.results52]) rfl ?_; exact HR.out
end Go.Proofs.YtlijbgapkmfnaaaGreat
namespace Go.Proofs.YtlijbgapkmfnaaaGreat
open Cr
theorem rec_na {r : Rc} (hm : mayR r = true) (at' : Nat) (rest : List Int) : atR (recL r at' ++ rest) 34 1 = r.a.length := by
 have f7 := (mayR_fits hm).na; obtain ⟨k, t, p, x, g, o, b, a⟩ := r
 simp only at f7
 obtain ⟨S, hS⟩ : ∃ S, S = Wd.enc 2 (29 + b.length + a.length) := ⟨_, rfl⟩; obtain ⟨M, hM⟩ : ∃ M, M = Wd.enc 4 (sumL ⟨k, t, p, x, g, o, b, a⟩ at').toNat := ⟨_, rfl⟩
 have lS : S.length = 2 := by rw [hS]; exact Wd.enc_length _ _
 have lM : M.length = 4 := by rw [hM]; exact Wd.enc_length _ _
 have lE : ∀ j n, (Wd.enc j n).length = j := Wd.enc_length
 have e : recL ⟨k, t, p, x, g, o, b, a⟩ at' ++ rest = (S ++ (M ++ (Wd.enc 1 k.toNat ++ (Wd.enc 8 t ++ (Wd.enc 8 p ++ (Wd.enc 8 x ++ (Wd.enc 2 g.toNat ++ Wd.enc 1 o.toNat))))))) ++ (Wd.enc 1 a.length ++ (b ++ (a ++ rest))) := by
  unfold recL sizeL
  rw [← hM, ← hS]
  simp [bodyL, rows9]
 refine (atR_mid' (xs := recL ⟨k, t, p, x, g, o, b, a⟩ at' ++ rest) (f := 34) (s := 1) (k := 1) (n := a.length) e (by simp [lS, lM, lE]) rfl (by omega) (by omega)).trans ?_; exact Nat.mod_eq_of_lt (by omega)
def szR (xs : List Int) : Nat := Wd.dec (xs.take 2)
def cand2 (xs : List Int) (m : Nat) : Rc :=
 { k := (atR xs 6 1 : Nat), t := atR xs 7 8, p := atR xs 15 8, x := atR xs 23 8, g := (atR xs 31 2 : Nat), o := (atR xs 33 1 : Nat), b := (xs.drop 35).take m, a := (xs.drop (35 + m)).take (atR xs 34 1) }
theorem cand2_in (xs : List Int) (hx : Wd.Small xs) (m : Nat) : (cand2 xs m).In := by
 have h := cand_in xs hx; exact ⟨h.t, h.p, h.x, (hx.drop _).take _, (hx.drop _).take _⟩
theorem ref_yes {xs : List Int} {at' m : Nat} (hx : Wd.Small xs) (h1 : szR xs + 6 ≤ xs.length) (hm : mayR (cand2 xs m) = true) (he : recL (cand2 xs m) at' = xs.take (6 + szR xs)) : ofB xs at' = true ∧ cand xs = cand2 xs m ∧ (recL (cand xs) at').length = 6 + szR xs := by
 have hl : (recL (cand2 xs m) at').length = 6 + szR xs := by rw [he, List.length_take]; omega
 have hp : preB xs (recL (cand2 xs m) at') = true := by rw [preB_iff, hl, he]
 have hc := cand_pre hm (cand2_in xs hx m) hp; refine ⟨?_, hc, by rw [hc, hl]⟩
 unfold ofB
 rw [hc, hm, hp]
 rfl
theorem ref_of {xs : List Int} {at' : Nat} (h : ofB xs at' = true) : 35 ≤ xs.length ∧ 29 ≤ szR xs ∧ szR xs + 6 ≤ xs.length ∧ atR xs 34 1 + 29 ≤ szR xs ∧ mayR (cand2 xs (szR xs - 29 - atR xs 34 1)) = true ∧ cand2 xs (szR xs - 29 - atR xs 34 1) = cand xs ∧ recL (cand2 xs (szR xs - 29 - atR xs 34 1)) at' = xs.take (6 + szR xs) := by
 unfold ofB at h
 rw [Bool.and_eq_true] at h
 obtain ⟨hm, hp⟩ := h; have hf := mayR_fits hm; have f7 := hf.na; have f8 := hf.nb; have f9 := hf.nb1; have hs := preB_split hp; have hk : (cand xs).k = ((atR xs 6 1 : Nat) : Int) := rfl
 have hself : ∀ m, m = (if atR xs 6 1 = 1 then atR xs 34 1 else 0) → cand2 xs m = cand xs := fun m h => by subst h; rfl
 obtain ⟨r, hr⟩ : ∃ r, r = cand xs := ⟨_, rfl⟩
 rw [← hr] at hm hp f7 f8 f9 hs hk hself ⊢
 obtain ⟨T, hT⟩ : ∃ T, T = xs.drop (recL r at').length := ⟨_, rfl⟩
 rw [← hT] at hs
 have hna := rec_na hm at' T
 rw [← hs] at hna
 have hlen : xs.length = 35 + r.b.length + r.a.length + T.length := by
  have := congrArg List.length hs
  rw [List.length_append, recL_len] at this
  exact this
 have hsz : szR xs = 29 + r.b.length + r.a.length := by
  have e : xs.take 2 = sizeL r := by
   rw [hs]
   unfold recL
   rw [List.append_assoc]; exact List.take_left' (show (sizeL r).length = 2 by unfold sizeL; exact Wd.enc_length _ _)
  unfold szR
  rw [e]
  unfold sizeL
  rw [Wd.dec_enc]; exact Nat.mod_eq_of_lt (by omega)
 have hb : szR xs - 29 - atR xs 34 1 = r.b.length := by rw [hsz, hna]; omega
 have hif : (if atR xs 6 1 = 1 then atR xs 34 1 else 0) = r.b.length := by
  rw [f8, hna, hk]
  split <;> split <;> omega
 have hc : cand2 xs (szR xs - 29 - atR xs 34 1) = r := by
  rw [hb]; exact hself _ hif.symm
 refine ⟨by omega, by omega, by omega, by omega, by rw [hc]; exact hm, hc, ?_⟩; rw [hc]
 have hl : (recL r at').length = 6 + szR xs := by rw [recL_len]; omega
 rw [← hl]; exact (preB_iff.1 hp).symm
end Go.Proofs.YtlijbgapkmfnaaaGreat
