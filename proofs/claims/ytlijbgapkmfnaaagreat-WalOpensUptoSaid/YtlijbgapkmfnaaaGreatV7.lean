/-
  Part 7 of what the laws of stage 6 rest on: contracts of the functions that they call, and what these rest on.
-/
import Derived.Deep.QuietTactic
import Derived.BigQuiet
import Derived.Laws.CopyOwn
import Derived.Deep.DeepMust
import Derived.Deep.RegionHeld3
import Derived.Lib.AppendZeros
import Derived.Maps.AppendAt
import Derived.Test.YtlijbgapkmfnaaaGreatV1
import Derived.Test.YtlijbgapkmfnaaaGreatV2
import Derived.Test.YtlijbgapkmfnaaaGreatV4
import Derived.Test.YtlijbgapkmfnaaaGreatV5
import Derived.Test.YtlijbgapkmfnaaaGreatV6
set_option linter.unusedVariables false
set_option linter.unusedSimpArgs false
namespace Go.Proofs.YtlijbgapkmfnaaaGreat
open Go.RowKit Go.Maps
abbrev TLg : TypeId := 107
theorem Blk.c10 {w : World} {b : Nat} {t : TypeId} {x0 x1 x2 x3 x4 x5 x6 x7 x8 x9 : Value} (h : Blk w b t #[x0, x1, x2, x3, x4, x5, x6, x7, x8, x9]) :
  w.cell? ⟨b, 0, none⟩ = some x0 ∧ w.cell? ⟨b, 1, none⟩ = some x1 ∧ w.cell? ⟨b, 2, none⟩ = some x2 ∧ w.cell? ⟨b, 3, none⟩ = some x3 ∧ w.cell? ⟨b, 4, none⟩ = some x4 ∧ w.cell? ⟨b, 5, none⟩ = some x5 ∧ w.cell? ⟨b, 6, none⟩ = some x6 ∧ w.cell? ⟨b, 7, none⟩ = some x7 ∧ w.cell? ⟨b, 8, none⟩ = some x8 ∧ w.cell? ⟨b, 9, none⟩ = some x9 :=
 ⟨h.cell 0, h.cell 1, h.cell 2, h.cell 3, h.cell 4, h.cell 5, h.cell 6, h.cell 7, h.cell 8, h.cell 9⟩
theorem wmissing_no (d b : Nat) (p : Value) (n : Int) (l : Int) (g : Int) (ep : Nat) (tl : Nat) (la : Nat) (q : Option Addr) (m : Nat) (c : Nat) (rs : Int) (bg : Bool) (w : World) (h : Blk w b TLg #[p, .int .i64 n, .int .i64 l, .int .i64 g, .int .u64 ep, .int .u64 tl, .int .u64 la, .slice q m c, .int .i64 rs, .bool bg]) (hp : p = .pointer (some ⟨d, 0, none⟩)) : Calls Tryz.prog 55 #[.pointer (some ⟨b, 0, none⟩)] w fun e w' => e = .returned (.bool false) ∧ w = w' := by
 obtain ⟨c0, c1, c2, c3, c4, c5, c6, c7, c8, c9⟩ := h.c10; clear h c1 c2 c3 c4 c5 c6 c7 c8 c9; subst hp
 go_enter Tryz.func55, Tryz.ntmps55
 go_wp2
 go_ret
 exact ⟨rfl, rfl⟩
theorem ahead_any (k : Nat) (w : World) (h : k ≤ 18446744073709551615) : Calls Tryz.prog 60 #[.int .u64 (k : Int)] w fun e w' => e = .returned (.int .i64 ((k % 232 : Nat) : Int)) ∧ w = w' := by
 have h0 : (0 : Int) ≤ (k : Int) := by omega
 have h1 : (k : Int) ≤ 18446744073709551615 := by omega
 go_enter Tryz.func60, Tryz.ntmps60
 go_wp2
 go_ret
 exact ⟨ret_i (by omega), rfl⟩
theorem sectorOf_any (k : Nat) (w : World) (h : k ≤ 18446744073709551615) : Calls Tryz.prog 78 #[.int .u64 (k : Int)] w fun e w' => e = .returned (.int .u64 ((k / 232 : Nat) : Int)) ∧ w = w' := by
 have h0 : (0 : Int) ≤ (k : Int) := by omega
 have h1 : (k : Int) ≤ 18446744073709551615 := by omega
 go_enter Tryz.func78, Tryz.ntmps78
 go_wp2
 go_ret
 exact ⟨ret_i (by omega), rfl⟩
theorem wword_any (n : Nat) (s : Int) (w : World) : Calls Tryz.prog 114 #[.int .u64 n, .int .i64 s] w (RetByte (putR n s) w) := by
 go_enter Tryz.func114, Tryz.ntmps114
 go_wp2_with fail; refine (put_any n s w).mono ?_; rintro e w1 ⟨p, m, c, rfl, hb, hg, hf⟩
 go_wp2
 go_ret
 exact ⟨p, m, c, rfl, hb, hg, hf⟩
def SlWEnd (_ : Value) (_ : Int) (_ : Int) (_ : Int) (_ : Nat) (_ : Nat) (la : Nat) (q : Option Addr) (m : Nat) (c : Nat) (_ : Int) (_ : Bool) (b : Nat) (A : Nat) (X : Nat) (E : Nat) (slot : Nat) (v : Value) (_ : World) : Prop :=
 match slot with
 | 5 | 6 | 9 | 10 | 16 | 17 => v = .pointer (some ⟨b, 0, none⟩)
 | 7 | 11 => v = .pointer (some ⟨b, 6, none⟩)
 | 8 | 12 => v = .int .u64 la
 | 13 => v = .int .i64 (A : Int)
 | 14 => v = .int .u64 (A : Int)
 | 15 => v = .int .u64 (X : Int)
 | 18 => v = .pointer (some ⟨b, 7, none⟩)
 | 19 => v = .slice q m c
 | 20 => v = .int .i64 m
 | 21 => v = .int .u64 m
 | 22 | 2 => v = .int .u64 (E : Int)
 | _ => True
def SlWFre (_ : Value) (_ : Int) (_ : Int) (_ : Int) (_ : Nat) (tl : Nat) (_ : Nat) (_ : Option Addr) (_ : Nat) (_ : Nat) (_ : Int) (_ : Bool) (b : Nat) (A : Nat) (E : Nat) (X : Nat) (Y : Nat) (slot : Nat) (v : Value) (_ : World) : Prop :=
 match slot with
 | 14 | 15 | 19 | 21 | 22 => v = .pointer (some ⟨b, 0, none⟩)
 | 16 | 23 => v = .pointer (some ⟨b, 5, none⟩)
 | 17 | 24 => v = .int .u64 tl
 | 18 => v = .int .i64 (A : Int)
 | 20 => v = .int .u64 (E : Int)
 | 25 => v = .int .u64 (X : Int)
 | 26 => v = .int .i64 (X : Int)
 | 27 | 4 => v = .int .i64 (Y : Int)
 | _ => True
def SlWPla (_ : Value) (n : Int) (l : Int) (g : Int) (_ : Nat) (_ : Nat) (_ : Nat) (_ : Option Addr) (_ : Nat) (_ : Nat) (_ : Int) (_ : Bool) (b : Nat) (k : Nat) (M : Nat) (R : Nat) (slot : Nat) (v : Value) (_ : World) : Prop :=
 match slot with
 | 8 | 9 | 13 | 14 => v = .pointer (some ⟨b, 0, none⟩)
 | 10 | 15 => v = .pointer (some ⟨b, 1, none⟩)
 | 11 => v = .agg #[.int .i64 n, .int .i64 l, .int .i64 g]
 | 12 => v = .int .u64 (k : Int)
 | 16 => v = .pointer (some ⟨b, 2, none⟩)
 | 17 => v = .int .i64 l
 | 18 => v = .int .u64 l
 | 19 => v = .int .u64 (M : Int)
 | 20 => v = .int .i64 (M : Int)
 | 21 | 7 => v = .tuple #[.int .i64 (R : Int), .int .i64 0]
 | 22 | 5 => v = .int .i64 (R : Int)
 | 23 | 6 => v = .int .i64 0
 | _ => True
def RetU (x : Nat) (w : World) (e : Ending) (w' : World) : Prop := e = .returned (.int .u64 (x : Int)) ∧ Gr w w'
set_option maxRecDepth 100000 in
set_option maxHeartbeats 1000000 in
theorem wEnd_any (d b : Nat) (p : Value) (n : Int) (l : Int) (g : Int) (ep : Nat) (tl : Nat) (la : Nat) (q : Option Addr) (m : Nat) (c : Nat) (rs : Int) (bg : Bool) (w : World) (h : Blk w b TLg #[p, .int .i64 n, .int .i64 l, .int .i64 g, .int .u64 ep, .int .u64 tl, .int .u64 la, .slice q m c, .int .i64 rs, .bool bg]) (hp : p = .pointer (some ⟨d, 0, none⟩)) (hE : la + m ≤ 9223372036854775807) : Calls Tryz.prog 22 #[.pointer (some ⟨b, 0, none⟩)] w (RetU (la - la % 232 + m) w) := by
 have HM := Lib.hid (wmissing_no d b p n l g ep tl la q m c rs bg w h hp); have HB := Lib.hid h; obtain ⟨A, hA⟩ : ∃ A, A = la % 232 := ⟨_, rfl⟩; obtain ⟨X, hX⟩ : ∃ X, X = la - A := ⟨_, rfl⟩; obtain ⟨E, hE2⟩ : ∃ E, E = X + m := ⟨_, rfl⟩
 have HAh : Hid (∀ W, Calls Tryz.prog 60 #[.int .u64 (la : Int)] W fun e w' => e = .returned (.int .i64 (A : Int)) ∧ W = w') := Lib.hid fun W => by rw [hA]; exact ahead_any la W (by omega)
 have HLA : Hid (IntKind.u64.wrap (A : Int) = (A : Int) ∧ IntKind.u64.wrap ((la : Int) - (A : Int)) = (X : Int) ∧ IntKind.u64.wrap ((X : Int) + (m : Int)) = (E : Int) ∧ IntKind.u64.wrap (m : Int) = (m : Int)) := Lib.hid ⟨by rw [IntKind.wrap_u64]; omega, by rw [IntKind.wrap_u64]; omega, by rw [IntKind.wrap_u64]; omega, by rw [IntKind.wrap_u64]; omega⟩; have HR : Hid (la - la % 232 + m = E) := Lib.hid (by rw [hE2, hX, hA]); clear h hE hA hX hE2
 go_enter Tryz.func22, Tryz.ntmps22
 go_wp2_with fail; refine HM.out.mono ?_; rintro e w1 ⟨rfl, rfl⟩; go_wp2_with fail; refine Flow.region (SlWEnd p n l g ep tl la q m c rs bg b A X E) (Gr w) (fun _ _ => True) (by kernel_rfl) (by kernel_rfl) (fun _ _ _ _ h _ => h) ⟨rfl, rfl, rfl, Nat.le_refl _, fun _ _ => rfl⟩ ?steps ?fin
 case steps =>
  refine .cons (fun a W hfr hinv hdep K hK => ?_) ?_
  · have t0 := tAt (.pointer (some ⟨b, 0, none⟩)) (hfr.at 0 (by kernel_rfl)); refine fW0 rfl ?_; clear hfr hdep; go_simp; exact hK _ _ True.intro hinv (dsT (by trivial))
  refine .cons (fun a W hfr hinv hdep K hK => ?_) ?_
  · have t5 := tAt (.pointer (some ⟨b, 0, none⟩)) (hdep 5 (by kernel_rfl)); refine fW0 rfl ?_; clear hfr hdep; go_simp; exact hK _ _ True.intro hinv (dsT (by trivial))
  refine .cons (fun a W hfr hinv hdep K hK => ?_) ?_
  · have t6 := tAt (.pointer (some ⟨b, 0, none⟩)) (hdep 6 (by kernel_rfl)); refine fW0 rfl ?_; clear hfr hdep; go_simp; exact hK _ _ True.intro hinv (dsT (by trivial))
  refine .cons (fun a W hfr hinv hdep K hK => ?_) ?_
  · have t7 := tAt (.pointer (some ⟨b, 6, none⟩)) (hdep 7 (by kernel_rfl)); obtain ⟨c0, c1, c2, c3, c4, c5, c6, c7, c8, c9⟩ := (HB.out.gr hinv).c10; refine fW0 rfl ?_; clear hfr hdep; go_simp; exact hK _ _ True.intro hinv (dsT (by trivial))
  refine .cons (fun a W hfr hinv hdep K hK => ?_) ?_
  · have t0 := tAt (.pointer (some ⟨b, 0, none⟩)) (hfr.at 0 (by kernel_rfl)); refine fW0 rfl ?_; clear hfr hdep; go_simp; exact hK _ _ True.intro hinv (dsT (by trivial))
  refine .cons (fun a W hfr hinv hdep K hK => ?_) ?_
  · have t9 := tAt (.pointer (some ⟨b, 0, none⟩)) (hdep 9 (by kernel_rfl)); refine fW0 rfl ?_; clear hfr hdep; go_simp; exact hK _ _ True.intro hinv (dsT (by trivial))
  refine .cons (fun a W hfr hinv hdep K hK => ?_) ?_
  · have t10 := tAt (.pointer (some ⟨b, 0, none⟩)) (hdep 10 (by kernel_rfl)); refine fW0 rfl ?_; clear hfr hdep; go_simp; exact hK _ _ True.intro hinv (dsT (by trivial))
  refine .cons (fun a W hfr hinv hdep K hK => ?_) ?_
  · have t11 := tAt (.pointer (some ⟨b, 6, none⟩)) (hdep 11 (by kernel_rfl)); obtain ⟨c0, c1, c2, c3, c4, c5, c6, c7, c8, c9⟩ := (HB.out.gr hinv).c10; refine fW0 rfl ?_; clear hfr hdep; go_simp; exact hK _ _ True.intro hinv (dsT (by trivial))
  refine .cons (fun a W hfr hinv hdep K hK => ?_) ?_
  · have t12 := tAt (.int .u64 la) (hdep 12 (by kernel_rfl)); refine fW0 rfl ?_; clear hfr hdep; go_simp; refine (HAh.out W).mono ?_; rintro e W' ⟨rfl, rfl⟩; exact hK _ _ True.intro hinv (dsT (by trivial))
  refine .cons (fun a W hfr hinv hdep K hK => ?_) ?_
  · have t13 := tAt (.int .i64 (A : Int)) (hdep 13 (by kernel_rfl)); have hb := HLA.out.1; refine fW0 rfl ?_; clear hfr hdep; go_simp; exact hK _ _ True.intro hinv (dsT (by trivial))
  refine .cons (fun a W hfr hinv hdep K hK => ?_) ?_
  · have t8 := tAt (.int .u64 la) (hdep 8 (by kernel_rfl)); have t14 := tAt (.int .u64 (A : Int)) (hdep 14 (by kernel_rfl)); have hw := HLA.out.2.1; refine fW0 rfl ?_; clear hfr hdep; go_simp; exact hK _ _ True.intro hinv (dsT (by trivial))
  refine .cons (fun a W hfr hinv hdep K hK => ?_) ?_
  · have t0 := tAt (.pointer (some ⟨b, 0, none⟩)) (hfr.at 0 (by kernel_rfl)); refine fW0 rfl ?_; clear hfr hdep; go_simp; exact hK _ _ True.intro hinv (dsT (by trivial))
  refine .cons (fun a W hfr hinv hdep K hK => ?_) ?_
  · have t16 := tAt (.pointer (some ⟨b, 0, none⟩)) (hdep 16 (by kernel_rfl)); refine fW0 rfl ?_; clear hfr hdep; go_simp; exact hK _ _ True.intro hinv (dsT (by trivial))
  refine .cons (fun a W hfr hinv hdep K hK => ?_) ?_
  · have t17 := tAt (.pointer (some ⟨b, 0, none⟩)) (hdep 17 (by kernel_rfl)); refine fW0 rfl ?_; clear hfr hdep; go_simp; exact hK _ _ True.intro hinv (dsT (by trivial))
  refine .cons (fun a W hfr hinv hdep K hK => ?_) ?_
  · have t18 := tAt (.pointer (some ⟨b, 7, none⟩)) (hdep 18 (by kernel_rfl)); obtain ⟨c0, c1, c2, c3, c4, c5, c6, c7, c8, c9⟩ := (HB.out.gr hinv).c10; refine fW0 rfl ?_; clear hfr hdep; go_simp; exact hK _ _ True.intro hinv (dsT (by trivial))
  refine .cons (fun a W hfr hinv hdep K hK => ?_) ?_
  · have t19 := tAt (.slice q m c) (hdep 19 (by kernel_rfl)); refine fW0 rfl ?_; clear hfr hdep; go_simp; exact hK _ _ True.intro hinv (dsT (by trivial))
  refine .cons (fun a W hfr hinv hdep K hK => ?_) ?_
  · have t20 := tAt (.int .i64 m) (hdep 20 (by kernel_rfl)); have hb := HLA.out.2.2.2; refine fW0 rfl ?_; clear hfr hdep; go_simp; exact hK _ _ True.intro hinv (dsT (by trivial))
  refine .cons (fun a W hfr hinv hdep K hK => ?_) ?_
  · have t15 := tAt (.int .u64 (X : Int)) (hdep 15 (by kernel_rfl)); have t21 := tAt (.int .u64 m) (hdep 21 (by kernel_rfl)); have hw := HLA.out.2.2.1; refine fW0 rfl ?_; clear hfr hdep; go_simp; exact hK _ _ True.intro hinv (dsT (by trivial))
  refine .cons (fun a W hfr hinv hdep K hK => ?_) ?_
  · have t22 := tAt (.int .u64 (E : Int)) (hdep 22 (by kernel_rfl)); refine fW0 rfl ?_; clear hfr hdep; go_simp; exact hK _ _ True.intro hinv (dsT (by trivial))
  exact True.intro
 case fin =>
  intro a W hfr hfin hsl
  have s2 : a.tmps.getD 2 undef = .int .u64 (E : Int) := hsl 18 _ 2 rfl rfl; have t2 := tmpAt s2; have e := Flow.frame hfr [5, 6, 7, 8, 9, 10, 11, 12, 13, 14, 15, 16, 17, 18, 19, 20, 21, 22, 2] (List.range 23) (by kernel_rfl) (by kernel_rfl)
  simp [List.range, List.range.loop] at e
  rw [t2] at e
  rw [e]; clear e hfr hsl s2 t2
  rename_i K2 hK2
  refine hK2 _ _ ?_; go_wp2_with fail
  go_ret
  exact ⟨by rw [HR.out]; rfl, hfin⟩
def freeR (l rs : Int) (tl E : Nat) : Int := max (232 * (l - 1) - ((tl % 232 + (E - tl) : Nat) : Int) - rs) 0
set_option maxRecDepth 100000 in
set_option maxHeartbeats 1000000 in
theorem wFree_any (d b : Nat) (p : Value) (n : Int) (l : Int) (g : Int) (ep : Nat) (tl : Nat) (la : Nat) (q : Option Addr) (m : Nat) (c : Nat) (rs : Int) (bg : Bool) (w : World) (h : Blk w b TLg #[p, .int .i64 n, .int .i64 l, .int .i64 g, .int .u64 ep, .int .u64 tl, .int .u64 la, .slice q m c, .int .i64 rs, .bool bg]) (hp : p = .pointer (some ⟨d, 0, none⟩)) (hE : la + m ≤ 9223372036854775807) (hl : 0 ≤ l ∧ l ≤ 300) (hr : 0 ≤ rs ∧ rs ≤ 1000000) (ht : tl ≤ la - la % 232 + m) (hs : la - la % 232 + m ≤ tl + 100000) :
  Calls Tryz.prog 40 #[.pointer (some ⟨b, 0, none⟩)] w fun e w' => e = .returned (.int .i64 (freeR l rs tl (la - la % 232 + m))) ∧ Gr w w' := by
 have HM := Lib.hid (wmissing_no d b p n l g ep tl la q m c rs bg w h hp); have HB := Lib.hid h; obtain ⟨A, hA⟩ : ∃ A, A = tl % 232 := ⟨_, rfl⟩; obtain ⟨E, hE2⟩ : ∃ E, E = la - la % 232 + m := ⟨_, rfl⟩; obtain ⟨X, hX⟩ : ∃ X, X = E - tl := ⟨_, rfl⟩; obtain ⟨Y, hY⟩ : ∃ Y, Y = A + X := ⟨_, rfl⟩
 rw [← hE2] at ht hs ⊢
 have HE : Hid (∀ W, Gr w W → Calls Tryz.prog 22 #[.pointer (some ⟨b, 0, none⟩)] W fun e w' => e = .returned (.int .u64 (E : Int)) ∧ Gr W w') := Lib.hid fun W gr => by rw [hE2]; exact wEnd_any d b p n l g ep tl la q m c rs bg W (h.gr gr) hp hE
 have HAh : Hid (∀ W, Calls Tryz.prog 60 #[.int .u64 (tl : Int)] W fun e w' => e = .returned (.int .i64 (A : Int)) ∧ W = w') := Lib.hid fun W => by rw [hA]; exact ahead_any tl W (by omega)
 have HLA : Hid (IntKind.u64.wrap ((E : Int) - (tl : Int)) = (X : Int) ∧ IntKind.i64.wrap (X : Int) = (X : Int) ∧ IntKind.i64.wrap ((A : Int) + (X : Int)) = (Y : Int)) := Lib.hid ⟨by rw [IntKind.wrap_u64]; omega, IntWalk.i64_in _ (by omega), by rw [IntWalk.i64_in _ (by omega)]; omega⟩; have HR : Hid (freeR l rs tl E = max (232 * (l - 1) - (Y : Int) - rs) 0 ∧ (Y : Int) ≤ 100231) := Lib.hid ⟨by unfold freeR; rw [← hA, ← hX, ← hY], by omega⟩; have hl0 := hl.1; have hl1 := hl.2; have hr0 := hr.1; have hr1 := hr.2; obtain ⟨c0, c1, c2, c3, c4, c5, c6, c7, c8, c9⟩ := h.c10; clear h hE hA hX hE2 hY ht hs hl hr c0 c1 c3 c4 c5 c6 c7 c9
 go_enter Tryz.func40, Tryz.ntmps40
 go_wp2_with fail; refine HM.out.mono ?_; rintro e w1 ⟨rfl, rfl⟩; go_wp2_with fail; refine Flow.region (SlWFre p n l g ep tl la q m c rs bg b A E X Y) (Gr w) (fun _ _ => True) (by kernel_rfl) (by kernel_rfl) (fun _ _ _ _ h _ => h) ⟨rfl, rfl, rfl, Nat.le_refl _, fun _ _ => rfl⟩ ?steps ?fin
 case steps =>
  refine .cons (fun a W hfr hinv hdep K hK => ?_) ?_
  · have t0 := tAt (.pointer (some ⟨b, 0, none⟩)) (hfr.at 0 (by kernel_rfl)); refine fW0 rfl ?_; clear hfr hdep; go_simp; exact hK _ _ True.intro hinv (dsT (by trivial))
  refine .cons (fun a W hfr hinv hdep K hK => ?_) ?_
  · have t14 := tAt (.pointer (some ⟨b, 0, none⟩)) (hdep 14 (by kernel_rfl)); refine fW0 rfl ?_; clear hfr hdep; go_simp; exact hK _ _ True.intro hinv (dsT (by trivial))
  refine .cons (fun a W hfr hinv hdep K hK => ?_) ?_
  · have t15 := tAt (.pointer (some ⟨b, 0, none⟩)) (hdep 15 (by kernel_rfl)); refine fW0 rfl ?_; clear hfr hdep; go_simp; exact hK _ _ True.intro hinv (dsT (by trivial))
  refine .cons (fun a W hfr hinv hdep K hK => ?_) ?_
  · have t16 := tAt (.pointer (some ⟨b, 5, none⟩)) (hdep 16 (by kernel_rfl)); obtain ⟨c0, c1, c2, c3, c4, c5, c6, c7, c8, c9⟩ := (HB.out.gr hinv).c10; refine fW0 rfl ?_; clear hfr hdep; go_simp; exact hK _ _ True.intro hinv (dsT (by trivial))
  refine .cons (fun a W hfr hinv hdep K hK => ?_) ?_
  · have t17 := tAt (.int .u64 tl) (hdep 17 (by kernel_rfl)); refine fW0 rfl ?_; clear hfr hdep; go_simp; refine (HAh.out W).mono ?_; rintro e W' ⟨rfl, rfl⟩; exact hK _ _ True.intro hinv (dsT (by trivial))
  refine .cons (fun a W hfr hinv hdep K hK => ?_) ?_
  · have t0 := tAt (.pointer (some ⟨b, 0, none⟩)) (hfr.at 0 (by kernel_rfl)); refine fW0 rfl ?_; clear hfr hdep; go_simp; exact hK _ _ True.intro hinv (dsT (by trivial))
  refine .cons (fun a W hfr hinv hdep K hK => ?_) ?_
  · have t19 := tAt (.pointer (some ⟨b, 0, none⟩)) (hdep 19 (by kernel_rfl)); refine fW0 rfl ?_; clear hfr hdep; go_simp; refine (HE.out W hinv).mono ?_; rintro e W' ⟨rfl, g1⟩; exact hK _ _ True.intro (Gr.trans hinv g1) (dsT (by trivial))
  refine .cons (fun a W hfr hinv hdep K hK => ?_) ?_
  · have t0 := tAt (.pointer (some ⟨b, 0, none⟩)) (hfr.at 0 (by kernel_rfl)); refine fW0 rfl ?_; clear hfr hdep; go_simp; exact hK _ _ True.intro hinv (dsT (by trivial))
  refine .cons (fun a W hfr hinv hdep K hK => ?_) ?_
  · have t21 := tAt (.pointer (some ⟨b, 0, none⟩)) (hdep 21 (by kernel_rfl)); refine fW0 rfl ?_; clear hfr hdep; go_simp; exact hK _ _ True.intro hinv (dsT (by trivial))
  refine .cons (fun a W hfr hinv hdep K hK => ?_) ?_
  · have t22 := tAt (.pointer (some ⟨b, 0, none⟩)) (hdep 22 (by kernel_rfl)); refine fW0 rfl ?_; clear hfr hdep; go_simp; exact hK _ _ True.intro hinv (dsT (by trivial))
  refine .cons (fun a W hfr hinv hdep K hK => ?_) ?_
  · have t23 := tAt (.pointer (some ⟨b, 5, none⟩)) (hdep 23 (by kernel_rfl)); obtain ⟨c0, c1, c2, c3, c4, c5, c6, c7, c8, c9⟩ := (HB.out.gr hinv).c10; refine fW0 rfl ?_; clear hfr hdep; go_simp; exact hK _ _ True.intro hinv (dsT (by trivial))
  refine .cons (fun a W hfr hinv hdep K hK => ?_) ?_
  · have t20 := tAt (.int .u64 (E : Int)) (hdep 20 (by kernel_rfl)); have t24 := tAt (.int .u64 tl) (hdep 24 (by kernel_rfl)); have hw := HLA.out.1; refine fW0 rfl ?_; clear hfr hdep; go_simp; exact hK _ _ True.intro hinv (dsT (by trivial))
  refine .cons (fun a W hfr hinv hdep K hK => ?_) ?_
  · have t25 := tAt (.int .u64 (X : Int)) (hdep 25 (by kernel_rfl)); have hw := HLA.out.2.1; refine fW0 rfl ?_; clear hfr hdep; go_simp; exact hK _ _ True.intro hinv (dsT (by trivial))
  refine .cons (fun a W hfr hinv hdep K hK => ?_) ?_
  · have t18 := tAt (.int .i64 (A : Int)) (hdep 18 (by kernel_rfl)); have t26 := tAt (.int .i64 (X : Int)) (hdep 26 (by kernel_rfl)); have hw := HLA.out.2.2; refine fW0 rfl ?_; clear hfr hdep; go_simp; exact hK _ _ True.intro hinv (dsT (by trivial))
  refine .cons (fun a W hfr hinv hdep K hK => ?_) ?_
  · have t27 := tAt (.int .i64 (Y : Int)) (hdep 27 (by kernel_rfl)); refine fW0 rfl ?_; clear hfr hdep; go_simp; exact hK _ _ True.intro hinv (dsT (by trivial))
  exact True.intro
 case fin =>
  intro a W hfr hfin hsl
  have s4 : a.tmps.getD 4 undef = .int .i64 (Y : Int) := hsl 14 _ 4 rfl rfl; have t4 := tmpAt s4; have e := Flow.frame hfr [14, 15, 16, 17, 18, 19, 20, 21, 22, 23, 24, 25, 26, 27, 4] (List.range 37) (by kernel_rfl) (by kernel_rfl)
  simp [List.range, List.range.loop] at e
  rw [t4] at e
  rw [e]; clear e hfr hsl s4 t4
  rename_i K2 hK2
  refine hK2 _ _ ?_; have c8 := (HB.out.gr hfin).c10.2.2.2.2.2.2.2.2.1; have hY := HR.out.2; have HRR := HR.out.1; go_wp2_with fail
  go_ret
  exact ⟨ret_i (by rw [HRR]), hfin⟩
set_option maxRecDepth 100000 in
set_option maxHeartbeats 1000000 in
theorem wplace_any (b : Nat) (p : Value) (n : Int) (l : Int) (g : Int) (ep : Nat) (tl : Nat) (la : Nat) (q : Option Addr) (m : Nat) (c : Nat) (rs : Int) (bg : Bool) (k : Nat) (w : World) (h : Blk w b TLg #[p, .int .i64 n, .int .i64 l, .int .i64 g, .int .u64 ep, .int .u64 tl, .int .u64 la, .slice q m c, .int .i64 rs, .bool bg]) (hm : mayL n l g = true) (hk : k ≤ 18446744073709551615) :
  Calls Tryz.prog 95 #[.pointer (some ⟨b, 0, none⟩), .int .u64 (k : Int)] w fun e w' => e = .returned (.int .i64 ((3 + k % l.toNat : Nat) : Int)) ∧ Gr w w' := by
 have HB := Lib.hid h; have hin := may_in hm; obtain ⟨M, hM⟩ : ∃ M, M = k % l.toNat := ⟨_, rfl⟩; obtain ⟨R, hR⟩ : ∃ R, R = 3 + M := ⟨_, rfl⟩; rw [← hM, ← hR]
 have hml : M < l.toNat := by rw [hM]; exact Nat.mod_lt _ (by omega)
 have hmi : (k : Int).tmod l = (M : Int) := by
  rw [hM, Int.tmod_eq_emod_of_nonneg (by omega)]
  have : l = (l.toNat : Int) := by omega
  rw [this]; exact (Int.natCast_emod _ _).symm
 have HLO : Hid (∀ W, Calls Tryz.prog 113 #[.agg #[.int .i64 n, .int .i64 l, .int .i64 g], .int .i64 (M : Int)] W fun e w' => e = .returned (.tuple #[.int .i64 (R : Int), .int .i64 0]) ∧ Gr W w') := Lib.hid fun W => by
  have h1 := logAt_any n l g M W
  have hb : (mayL n l g && (decide ((0 : Int) ≤ (M : Int)) && decide ((M : Int) < l))) = true := by
   rw [hm]
   simp
   omega
  rw [hb] at h1
  refine h1.mono ?_; rintro e w' ⟨rfl, hg⟩; exact ⟨by simp [only, err, hR], hg⟩
 have HLA : Hid (IntKind.u64.wrap l = l ∧ (k : Int).tmod l = (M : Int) ∧ IntKind.i64.wrap (M : Int) = (M : Int) ∧ (l == 0) = false ∧ ¬ l = 0) := Lib.hid ⟨by rw [IntKind.wrap_u64]; omega, hmi, IntWalk.i64_in _ (by omega), by simp; omega, by omega⟩; clear h hin hM hR hml hmi hm
 go_enter Tryz.func95, Tryz.ntmps95
 go_wp2_with fail; refine Flow.regionL (SlWPla p n l g ep tl la q m c rs bg b k M R) (Gr w) (fun _ _ => True) (by kernel_rfl) (by kernel_rfl) (fun _ _ _ _ h _ => h) ⟨rfl, rfl, rfl, Nat.le_refl _, fun _ _ => rfl⟩ ?steps ?fin
 case steps =>
  refine .cons (fun a W hfr hinv hdep K hK => ?_) ?_
  · have t0 := tAt (.pointer (some ⟨b, 0, none⟩)) (hfr.at 0 (by kernel_rfl)); refine fW0 rfl ?_; clear hfr hdep; go_simp; exact hK _ _ True.intro hinv (dsT (by trivial))
  refine .cons (fun a W hfr hinv hdep K hK => ?_) ?_
  · have t8 := tAt (.pointer (some ⟨b, 0, none⟩)) (hdep 8 (by kernel_rfl)); refine fW0 rfl ?_; clear hfr hdep; go_simp; exact hK _ _ True.intro hinv (dsT (by trivial))
  refine .cons (fun a W hfr hinv hdep K hK => ?_) ?_
  · have t9 := tAt (.pointer (some ⟨b, 0, none⟩)) (hdep 9 (by kernel_rfl)); refine fW0 rfl ?_; clear hfr hdep; go_simp; exact hK _ _ True.intro hinv (dsT (by trivial))
  refine .cons (fun a W hfr hinv hdep K hK => ?_) ?_
  · have t10 := tAt (.pointer (some ⟨b, 1, none⟩)) (hdep 10 (by kernel_rfl)); obtain ⟨c0, c1, c2, c3, c4, c5, c6, c7, c8, c9⟩ := (HB.out.gr hinv).c10; refine fW0 rfl ?_; clear hfr hdep; go_simp; exact hK _ _ True.intro hinv (dsT (by trivial))
  refine .cons (fun a W hfr hinv hdep K hK => ?_) ?_
  · have t1 := tAt (.int .u64 (k : Int)) (hfr.at 1 (by kernel_rfl)); refine fW0 rfl ?_; clear hfr hdep; go_simp; exact hK _ _ True.intro hinv (dsT (by trivial))
  refine .cons (fun a W hfr hinv hdep K hK => ?_) ?_
  · have t0 := tAt (.pointer (some ⟨b, 0, none⟩)) (hfr.at 0 (by kernel_rfl)); refine fW0 rfl ?_; clear hfr hdep; go_simp; exact hK _ _ True.intro hinv (dsT (by trivial))
  refine .cons (fun a W hfr hinv hdep K hK => ?_) ?_
  · have t13 := tAt (.pointer (some ⟨b, 0, none⟩)) (hdep 13 (by kernel_rfl)); refine fW0 rfl ?_; clear hfr hdep; go_simp; exact hK _ _ True.intro hinv (dsT (by trivial))
  refine .cons (fun a W hfr hinv hdep K hK => ?_) ?_
  · have t14 := tAt (.pointer (some ⟨b, 0, none⟩)) (hdep 14 (by kernel_rfl)); refine fW0 rfl ?_; clear hfr hdep; go_simp; exact hK _ _ True.intro hinv (dsT (by trivial))
  refine .cons (fun a W hfr hinv hdep K hK => ?_) ?_
  · have t15 := tAt (.pointer (some ⟨b, 1, none⟩)) (hdep 15 (by kernel_rfl)); refine fW0 rfl ?_; clear hfr hdep; go_simp; exact hK _ _ True.intro hinv (dsT (by trivial))
  refine .cons (fun a W hfr hinv hdep K hK => ?_) ?_
  · have t16 := tAt (.pointer (some ⟨b, 2, none⟩)) (hdep 16 (by kernel_rfl)); obtain ⟨c0, c1, c2, c3, c4, c5, c6, c7, c8, c9⟩ := (HB.out.gr hinv).c10; refine fW0 rfl ?_; clear hfr hdep; go_simp; exact hK _ _ True.intro hinv (dsT (by trivial))
  refine .cons (fun a W hfr hinv hdep K hK => ?_) ?_
  · have t17 := tAt (.int .i64 l) (hdep 17 (by kernel_rfl)); have hw := HLA.out.1; refine fW0 rfl ?_; clear hfr hdep; go_simp; exact hK _ _ True.intro hinv (dsT (by trivial))
  refine .cons (fun a W hfr hinv hdep K hK => ?_) ?_
  · have t12 := tAt (.int .u64 (k : Int)) (hdep 12 (by kernel_rfl)); have t18 := tAt (.int .u64 l) (hdep 18 (by kernel_rfl)); have hw := HLA.out.2.1; have hw2 := HLA.out.2.2.2.1; have hw3 := HLA.out.2.2.2.2; refine fW0 rfl ?_; clear hfr hdep; go_simp; exact hK _ _ True.intro hinv (dsT (by trivial))
  refine .cons (fun a W hfr hinv hdep K hK => ?_) ?_
  · have t19 := tAt (.int .u64 (M : Int)) (hdep 19 (by kernel_rfl)); have hw := HLA.out.2.2.1; refine fW0 rfl ?_; clear hfr hdep; go_simp; exact hK _ _ True.intro hinv (dsT (by trivial))
  refine .cons (fun a W hfr hinv hdep K hK => ?_) ?_
  · have t11 := tAt (.agg #[.int .i64 n, .int .i64 l, .int .i64 g]) (hdep 11 (by kernel_rfl)); have t20 := tAt (.int .i64 (M : Int)) (hdep 20 (by kernel_rfl)); refine fW0 rfl ?_; clear hfr hdep; go_simp; refine (HLO.out W).mono ?_; rintro e W' ⟨rfl, g1⟩; exact hK _ _ True.intro (Gr.trans hinv g1) (dsT (by trivial))
  refine .cons (fun a W hfr hinv hdep K hK => ?_) ?_
  · have t21 := tAt (.tuple #[.int .i64 (R : Int), .int .i64 0]) (hdep 21 (by kernel_rfl)); refine fW0 rfl ?_; clear hfr hdep; go_simp; exact hK _ _ True.intro hinv (dsT (by trivial))
  refine .cons (fun a W hfr hinv hdep K hK => ?_) ?_
  · have t7 := tAt (.tuple #[.int .i64 (R : Int), .int .i64 0]) (hdep 7 (by kernel_rfl)); refine fW0 rfl ?_; clear hfr hdep; go_simp; exact hK _ _ True.intro hinv (dsT (by trivial))
  refine .cons (fun a W hfr hinv hdep K hK => ?_) ?_
  · have t7 := tAt (.tuple #[.int .i64 (R : Int), .int .i64 0]) (hdep 7 (by kernel_rfl)); refine fW0 rfl ?_; clear hfr hdep; go_simp; exact hK _ _ True.intro hinv (dsT (by trivial))
  refine .cons (fun a W hfr hinv hdep K hK => ?_) ?_
  · have t22 := tAt (.int .i64 (R : Int)) (hdep 22 (by kernel_rfl)); refine fW0 rfl ?_; clear hfr hdep; go_simp; exact hK _ _ True.intro hinv (dsT (by trivial))
  refine .cons (fun a W hfr hinv hdep K hK => ?_) ?_
  · have t23 := tAt (.int .i64 0) (hdep 23 (by kernel_rfl)); refine fW0 rfl ?_; clear hfr hdep; go_simp; exact hK _ _ True.intro hinv (dsT (by trivial))
  exact True.intro
 case fin =>
  intro a W hfr hfin hsl
  have s5 : a.tmps.getD 5 undef = .int .i64 (R : Int) := hsl 17 _ 5 rfl rfl; have t5 := tmpAt s5; have s6 : a.tmps.getD 6 undef = .int .i64 0 := hsl 18 _ 6 rfl rfl; have t6 := tmpAt s6; have e := Flow.frame hfr [8, 9, 10, 11, 12, 13, 14, 15, 16, 17, 18, 19, 20, 21, 7, 22, 23, 5, 6] (List.range 25) (by kernel_rfl) (by kernel_rfl)
  simp [List.range, List.range.loop] at e
  rw [t5, t6] at e
  rw [e]; clear e hfr hsl s5 t5 s6 t6
  rename_i K2 hK2
  refine hK2 _ _ ?_; go_wp2_with fail
  go_ret
  exact ⟨rfl, hfin⟩
end Go.Proofs.YtlijbgapkmfnaaaGreat
namespace Go.Proofs.YtlijbgapkmfnaaaGreat
open Go.RowKit
open Extern.Stop (cell)
def Sx (xs : List Int) : Sec := if h : xs.length = 256 then ⟨xs.map fun x => UInt8.ofNat x.toNat, by rw [List.length_map, h]⟩ else Sec.zero
structure IsSec (xs : List Int) : Prop where
 len : xs.length = 256
 small : Wd.Small xs
theorem cell_of {x : Int} (h : 0 ≤ x ∧ x < 256) : cell (UInt8.ofNat x.toNat) = .int .u8 x := by
 obtain ⟨y, rfl⟩ := Int.eq_ofNat_of_zero_le h.1
 have : y % 256 = y := by omega
 simp [cell, UInt8.toNat_ofNat', this]
theorem Sx_bytes {xs : List Int} (h : xs.length = 256) : (Sx xs).bytes = xs.map fun x => UInt8.ofNat x.toNat := by simp [Sx, h]
theorem Sx_cells {xs : List Int} (h : IsSec xs) : (Sx xs).cells = xs.map (Value.int .u8) := by
 unfold Sec.cells
 rw [Sx_bytes h.len, List.map_map]
 apply List.map_congr_left
 intro x hx
 exact cell_of (h.small x hx)
theorem Sx_inj {xs ys : List Int} (h : IsSec xs) (k : IsSec ys) : Sx xs = Sx ys ↔ xs = ys := by
 constructor
 ·
  intro e
  have e1 : xs.map (Value.int .u8) = ys.map (Value.int .u8) := by rw [← Sx_cells h, ← Sx_cells k, e]
  have e2 := congrArg (List.map fun v : Value => match v with | .int _ x => x | _ => 0) e1
  simpa [List.map_map, Function.comp_def] using e2
 · intro e; rw [e]
theorem Sx_zero : Sx (List.replicate 256 0) = Sec.zero := by
 have h : (List.replicate 256 (0 : Int)).length = 256 := List.length_replicate ..
 apply Sec.ext
 rw [Sx_bytes h, List.map_replicate]
 rfl
theorem zeros_sec : IsSec (List.replicate 256 0) := ⟨List.length_replicate .., fun x h => by rw [List.mem_replicate] at h; omega⟩
theorem Blk.byt {w : World} {g : Nat} {xs : List Int} (h : Blk w g TS (sec (Sx xs))) (k : IsSec xs) : Byt w (some ⟨g, 0, none⟩) 256 256 xs :=
 ⟨k.len, Nat.le_refl _, by simp only [maxLen]; omega, fun _ => ⟨g, 0, rfl, fun i hi => by
  rw [Nat.zero_add, h.cell i]
  unfold sec
  rw [Sx_cells k]
  simp [List.getD, k.len, hi]⟩, (fun h => by cases h), k.small⟩
def lay (xs : List Int) (F : Nat) (ys : List Int) : List Int := xs.take F ++ (ys ++ xs.drop (F + ys.length))
theorem lay_sec {xs ys : List Int} {F : Nat} (h : IsSec xs) (k : Wd.Small ys) (hf : F + ys.length ≤ 256) : IsSec (lay xs F ys) :=
 ⟨by have := h.len; simp [lay]; omega, (h.small.take F).app (k.app (h.small.drop _))⟩
theorem lay_cells {xs ys : List Int} {F : Nat} (h : IsSec xs) (k : Wd.Small ys) (hf : F + ys.length ≤ 256) :
  ((sec (Sx xs)).toList.take F ++ (ys.map (Value.int .u8) ++ (sec (Sx xs)).toList.drop (F + (ys.map (Value.int .u8)).length))).toArray = sec (Sx (lay xs F ys)) := by
 rw [sec_list, Sx_cells h]
 unfold sec
 rw [Sx_cells (lay_sec h k hf)]
 simp [lay]
theorem bt4 : BT Tryz.prog 31 5 := ⟨Tryz.underlying31, by kernel_rfl⟩
theorem bt4_size : (Tryz.prog.info? 5).map (·.size) = some 1 := by kernel_rfl
theorem step_copy_sec {w : World} {ops : Array Oper} {o : Oper} {a : Act} {K : Act → World → Prop} {Q : Exit → Act → World → Prop} {E : Prop} (hgd : o.guard = none) (d s : Operand)
  (ho : o.op = .call { callee := .builtin .copy, args := #[d, s], argTypes := #[31, 31] }) {g F L C : Nat} {xs : List Int} (hd : a.eval d = .slice (some ⟨g, F, none⟩) L C) (hb : Blk w g TS (sec (Sx xs))) (hx : IsSec xs)
  {q : Option Addr} {m c : Nat} {ys : List Int} (hs : a.eval s = .slice q m c) (hy : Byt w q m c ys) (hm : 0 < m) (hL : m ≤ L) (hf : F + m ≤ 256)
  (h : K (a.put o.dst (goInt m)) (w.setRow g (sec (Sx (lay xs F ys))))) : if Region.wanted o (yielded ops a.tmps) = true then Oper.wp Tryz.prog o a w K Q else E := by
 have hw : Region.wanted o (yielded ops a.tmps) = true := by simp [Region.wanted, hgd]
 rw [if_pos hw]
 obtain ⟨b, of, rfl, _⟩ := hy.at hm
 have hl := hy.len; have hrun := run_copy_row (P := Tryz.prog) w 31 31 o.type 5 g F L C ⟨b, of, none⟩ m c (sec (Sx xs)) TS (ys.map (Value.int .u8)) bt4.us bt4_size hb (by rw [List.length_map, hl]; exact (Nat.min_eq_left hL).symm) hy.news (by rw [List.length_map, hl, sec_size]; exact hf) (u8s_oneCell _)
 rw [List.append_assoc, lay_cells hx hy.small (by rw [hl]; exact hf), List.length_map, hl] at hrun
 unfold Oper.wp
 simp only [execOp, ho, resolve, invoke, builtin, hd, hs]
 simp [hd, hs, hrun, Result.andThen]
 exact h
theorem wpList_load_x {ops : Array Oper} {rest : List Oper} {op : Oper} {a : Act} {w : World} {Q : Exit → Act → World → Prop} (hgd : op.guard = none) (x : Operand) (ho : op.op = .load TS x)
  {g : Nat} {s : Sec} (hb : Blk w g TS (sec s)) (hx : a.eval x = .pointer (some ⟨g, 0, none⟩))
  (h : wpList Tryz.prog ops Q rest (a.put op.dst (.agg (sec s))) w) : wpList Tryz.prog ops Q (op :: rest) a w :=
 wpList_load_row hgd TS x ho g hx TS (sec s) (0, 0) _ hb under_sec rfl (by rw [sec_size]; exact size_sec) h
theorem wp_load_x {op : Oper} {a : Act} {w : World} {K : Act → World → Prop} {Q : Exit → Act → World → Prop} (x : Operand) (ho : op.op = .load TS x)
  {g : Nat} {s : Sec} (hb : Blk w g TS (sec s)) (hx : a.eval x = .pointer (some ⟨g, 0, none⟩)) (h : K (a.put op.dst (.agg (sec s))) w) : op.wp Tryz.prog a w K Q :=
 wp_load_row TS x ho g hx TS (sec s) (0, 0) _ hb under_sec rfl (by rw [sec_size]; exact size_sec) h
theorem wpList_store_x {ops : Array Oper} {rest : List Oper} {op : Oper} {a : Act} {w : World} {Q : Exit → Act → World → Prop} (hgd : op.guard = none) (x y : Operand) (ho : op.op = .store TS x y)
  {g : Nat} {old s : Sec} (hb : Blk w g TS (sec old)) (hx : a.eval x = .pointer (some ⟨g, 0, none⟩)) (hy : a.eval y = .agg (sec s))
  (h : wpList Tryz.prog ops Q rest (a.put op.dst undef) (w.setRow g (sec s))) : wpList Tryz.prog ops Q (op :: rest) a w :=
 wpList_store_row hgd TS x y ho g (sec s) hx hy TS (sec old) hb (by rw [sec_size]; exact size_sec) (by rw [sec_size, sec_size]) (sec_one s) h
theorem results_x {fn : Func} {p : Tmp} (h : fn.results = #[.cell p TS]) (tmps : Array Value) (w : World) (g : Nat) (s : Sec)
  (hp : tmps.getD p undef = .pointer (some ⟨g, 0, none⟩)) (hb : Blk w g TS (sec s)) : (results fn tmps).run Tryz.prog w = .ok (.agg (sec s)) w :=
 results_cell_row h tmps w g TS (sec s) (0, 0) _ hp hb under_sec rfl (by rw [sec_size]; exact size_sec)
end Go.Proofs.YtlijbgapkmfnaaaGreat
namespace Go.Proofs.YtlijbgapkmfnaaaGreat
open Go.RowKit Cr
def padTo (n : Nat) (ys : List Int) : List Int := ys ++ List.replicate (n - ys.length) 0
theorem padTo_len {n : Nat} {ys : List Int} (h : ys.length ≤ n) : (padTo n ys).length = n := by simp [padTo]; omega
theorem padTo_small {n : Nat} {ys : List Int} (h : Wd.Small ys) : Wd.Small (padTo n ys) := h.app fun x hx => by rw [List.mem_replicate] at hx; omega
theorem Blk.other {w : World} {g r : Nat} {t : TypeId} {cs cs' : Array Value} (h : Blk w g t cs) (hne : g ≠ r) : Blk (w.setRow r cs') g t cs := (setRow_other w r g cs' hne).trans h
end Go.Proofs.YtlijbgapkmfnaaaGreat
namespace Go.Proofs.YtlijbgapkmfnaaaGreat
open Go.RowKit Go.Maps Cr
def manyX (xs : List Int) : Nat := atR xs 16 4
def sumX (xs : List Int) : Nat := atR xs 20 4
def numX (xs : List Int) : Nat := atR xs 0 8
def epX (xs : List Int) : Nat := atR xs 8 8
def trueX (xs : List Int) : Nat := (sumW (xs.take 20 ++ xs.drop 24)).toNat
def okX (xs : List Int) : Bool := decide (manyX xs ≤ 232) && decide (sumX xs = trueX xs)
def bytX (xs : List Int) : List Int := (xs.drop 24).take (manyX xs)
theorem pieceAt_any {xs : List Int} (hx : IsSec xs) (F S : Int) (B : Nat) (w : World) (hb : Blk w B TS (sec (Sx xs))) : Calls Tryz.prog 119 #[.int .i64 F, .int .i64 S, .pointer (some ⟨B, 0, none⟩)] w fun e w' => e = .returned (.int .u64 (atR xs F S)) ∧ w = w' := by
 have HA := Lib.hid (at_any (some ⟨B, 0, none⟩) 256 256 xs F S w (hb.byt hx)); clear hb
 go_enter Tryz.func119, Tryz.ntmps119
 go_wp2_with fail; refine HA.out.mono ?_; rintro e w1 ⟨rfl, rfl⟩; go_wp2_with fail
 go_ret
 exact ⟨rfl, rfl⟩
abbrev TPc : TypeId := 148
def RetPiece (xs : List Int) (w : World) (e : Ending) (w' : World) : Prop :=
 ∃ p, e = .returned (.tuple #[.agg #[.int .u64 (numX xs), .int .u64 (epX xs), .slice p (manyX xs) (manyX xs)], .bool true]) ∧ Byt w' p (manyX xs) (manyX xs) (bytX xs) ∧ Gr w w' ∧ ∀ a, p = some a → w.heap.size ≤ a.block
def RetNoPiece (w : World) (e : Ending) (w' : World) : Prop := e = .returned (.tuple #[.agg #[.int .u64 0, .int .u64 0, .slice none 0 0], .bool false]) ∧ Gr w w'
def RetSum (xs : List Int) (w : World) (e : Ending) (w' : World) : Prop := if sumX xs = trueX xs then RetPiece xs w e w' else RetNoPiece w e w'
theorem results_pc {fn : Func} {p q : Tmp} (h : fn.results = #[.cell p TPc, .tmp q]) (tmps : Array Value) (w : World) (g : Nat) (cs : Array Value) (x : Value) (hs : cs.size = 3)
  (hp : tmps.getD p undef = .pointer (some ⟨g, 0, none⟩)) (hx : tmps.getD q undef = x) (hb : Blk w g TPc cs) : (results fn tmps).run Tryz.prog w = .ok (.tuple #[.agg cs, x]) w := by
 have hp' : tmps[p]?.getD undef = .pointer (some ⟨g, 0, none⟩) := by simpa using hp
 have hx' : tmps[q]?.getD undef = x := by simpa using hx
 have hz : (Tryz.prog.info? TPc).map (·.size) = some 3 := by kernel_rfl
 have hl := run_loadVar_row (P := Tryz.prog) w g TPc TPc cs (0, 0) _ hb Tryz.underlying148 rfl (by rw [hs]; exact hz)
 simp [results, h, hp', hx', asAddr, hl]
theorem size_pc : (Tryz.prog.info? TPc).map (·.size) = some 3 := by kernel_rfl
theorem one_pc (x y : Int) (p : Option Addr) (n c : Nat) : (#[.int .u64 x, .int .u64 y, .slice p n c] : Array Value).all (·.oneCell') = true := by simp [Value.oneCell']
theorem wpList_store_pc {ops : Array Oper} {rest : List Oper} {op : Oper} {a : Act} {w : World} {Q : Exit → Act → World → Prop} (hgd : op.guard = none) (x y : Operand) (ho : op.op = .store TPc x y)
  {g : Nat} {old cs : Array Value} (hb : Blk w g TPc old) (hs : old.size = 3) (hc : cs.size = 3) (h1 : cs.all (·.oneCell') = true) (hx : a.eval x = .pointer (some ⟨g, 0, none⟩)) (hy : a.eval y = .agg cs)
  (h : wpList Tryz.prog ops Q rest (a.put op.dst undef) (w.setRow g cs)) : wpList Tryz.prog ops Q (op :: rest) a w :=
 wpList_store_row hgd TPc x y ho g cs hx hy TPc old hb (by rw [hc]; exact size_pc) (by rw [hs, hc]) h1 h
theorem wp_store_pc {op : Oper} {a : Act} {w : World} {K : Act → World → Prop} {Q : Exit → Act → World → Prop} (x y : Operand) (ho : op.op = .store TPc x y)
  {g : Nat} {old cs : Array Value} (hb : Blk w g TPc old) (hs : old.size = 3) (hc : cs.size = 3) (h1 : cs.all (·.oneCell') = true) (hx : a.eval x = .pointer (some ⟨g, 0, none⟩)) (hy : a.eval y = .agg cs)
  (h : K (a.put op.dst undef) (w.setRow g cs)) : op.wp Tryz.prog a w K Q :=
 wp_store_row TPc x y ho g cs hx hy TPc old hb (by rw [hc]; exact size_pc) (by rw [hs, hc]) h1 h
structure InP (w : World) (xs : List Int) (N1 N2 O M : Nat) (l : Nat → Bool) (W : World) : Prop where
 gr : Gr w W
 s : Blk W w.heap.size TS (sec (Sx xs))
 p : Blk W (w.heap.size + 1) TPc (cond (l 8) #[.int .u64 (N1 : Int), .int .u64 (N2 : Int), .slice (some ⟨w.heap.size, O, none⟩) M M] #[.int .u64 0, .int .u64 0, .slice none 0 0])
theorem InP.other {w W : World} {xs : List Int} {N1 N2 O M : Nat} {l : Nat → Bool} (h : InP w xs N1 N2 O M l W) (i : Nat) (hi : 8 ≠ i) : InP w xs N1 N2 O M (Flow.upd l i) W :=
 ⟨h.gr, h.s, by rw [Flow.upd_other l hi]; exact h.p⟩
theorem InP.put {w W : World} {xs : List Int} {N1 N2 O M : Nat} {l : Nat → Bool} (h : InP w xs N1 N2 O M l W) : InP w xs N1 N2 O M (Flow.upd l 8) (W.setRow (w.heap.size + 1) #[.int .u64 (N1 : Int), .int .u64 (N2 : Int), .slice (some ⟨w.heap.size, O, none⟩) M M]) :=
 ⟨below_setRow h.gr (by omega) _, h.s.other (by omega), by rw [Flow.upd_same]; exact h.p.row _⟩
theorem run_cut24 (g E : Nat) (h : 24 ≤ E) (h2 : E ≤ 256) (w : World) : (Instr.sliceAt TS (.pointer (some ⟨g, 0, none⟩)) (some (.int .i64 24)) (some (.int .i64 (E : Int))) (some (.int .i64 (E : Int)))).run Tryz.prog w = .ok (.slice (some ⟨g, if E = 24 then 0 else 24, none⟩) (E - 24) (E - 24)) w := by
 have hl : Tryz.prog.arrayLen TS = 256 := by kernel_rfl
 have he : Tryz.prog.elem TS = 5 := by kernel_rfl
 have hu : Tryz.prog.underlying TS = some (.array (Tryz.prog.arrayLen TS) (Tryz.prog.elem TS)) := by rw [hl, he]; exact under_sec
 rw [run_sliceAt_array_lhm w TS ⟨g, 0, none⟩ hu .i64 .i64 .i64 24 (E : Int) (E : Int) (by omega) (by omega) (by omega) (by rw [hl]; omega), he, size_u8]
 by_cases hE : E = 24
 · simp [slicedAt, Result.andThen, hE]
 · simp [slicedAt, Result.andThen, hE, Addr.add]
def SlPa (M : Nat) (slot : Nat) (v : Value) (_ : World) : Prop :=
 match slot with
 | 10 => v = .int .u64 (M : Int)
 | 11 => v = .bool true
 | 12 => v = .bool true
 | 21 => v = .bool true
 | _ => True
theorem slPa_gr {M : Nat} {s : Nat} {v : Value} {w w' : World} (h : SlPa M s v w) (_ : Gr w w') : SlPa M s v w' := h
def SlPb (b : Nat) (xs : List Int) (M : Nat) (S : Nat) (T : W) (NB : Bool) (slot : Nat) (v : Value) (w : World) : Prop :=
 match slot with
 | 10 => v = .int .u64 (M : Int)
 | 11 => v = .bool false
 | 12 => v = .bool false
 | 13 => v = .func (.func 119) #[] #[.pointer (some ⟨b, 0, none⟩)]
 | 14 => v = .int .u64 (S : Int)
 | 15 => v = .slice (some ⟨b, 0, none⟩) 20 256
 | 16 => v = .slice (some ⟨b, 24, none⟩) 232 232
 | 18 => v = .int .u32 (U T)
 | 19 => v = .int .u64 (T.toNat : Int)
 | 20 => v = .bool NB
 | 21 => v = .bool NB
 | 17 => IsRows w v [xs.take 20, xs.drop 24]
 | _ => True
theorem slPb_gr {b : Nat} {xs : List Int} {M : Nat} {S : Nat} {T : W} {NB : Bool} {s : Nat} {v : Value} {w w' : World} (h : SlPb b xs M S T NB s v w) (g : Gr w w') : SlPb b xs M S T NB s v w' := by
 unfold SlPb at *
 split <;> simp only at h
 all_goals first
  | exact h
  | exact IsB.kept h g
  | exact IsRows.kept h g
def SlPc (b : Nat) (E : Nat) (O : Nat) (M : Nat) (N1 : Nat) (N2 : Nat) (slot : Nat) (v : Value) (_ : World) : Prop :=
 match slot with
 | 26 => v = .func (.func 119) #[] #[.pointer (some ⟨b, 0, none⟩)]
 | 27 => v = .int .u64 (N1 : Int)
 | 28 => v = .func (.func 119) #[] #[.pointer (some ⟨b, 0, none⟩)]
 | 29 => v = .int .u64 (N2 : Int)
 | 30 => v = .int .i64 (E : Int)
 | 31 => v = .int .i64 (E : Int)
 | 32 => v = .slice (some ⟨b, O, none⟩) M M
 | 33 => v = .agg #[.int .u64 (N1 : Int), .int .u64 (N2 : Int), .slice (some ⟨b, O, none⟩) M M]
 | 3 => v = .bool true
 | _ => True
set_option maxRecDepth 100000 in
set_option maxHeartbeats 1000000 in
theorem pieceOf_much {xs : List Int} (hx : IsSec xs) (w : World) (h : 232 < manyX xs) : Calls Tryz.prog 102 #[.agg (sec (Sx xs))] w (RetNoPiece w) := by
 obtain ⟨W1, hW1⟩ : ∃ W1, W1 = (w.alloc (.cells (sec (Sx xs)) TS)).alloc (.cells #[.int .u64 0, .int .u64 0, .slice none 0 0] TPc) := ⟨_, rfl⟩; have hB1 := Blk.new w TS (sec (Sx xs)); have hB2 := Blk.new (w.alloc (.cells (sec (Sx xs)) TS)) TPc #[.int .u64 0, .int .u64 0, .slice none 0 0]
 have HB : Hid (Blk W1 w.heap.size TS (sec (Sx xs)) ∧ Blk W1 (w.heap.size + 1) TPc #[.int .u64 0, .int .u64 0, .slice none 0 0] ∧ Gr w W1) := Lib.hid (by
  rw [hW1]
  simp only [World.size_alloc] at hB2
  exact ⟨hB1.gr (Gr.new _ _), hB2, Gr.trans (Gr.new _ _) (Gr.new _ _)⟩)
 have HM := Lib.hid (pieceAt_any hx 16 4 w.heap.size W1 HB.out.1); obtain ⟨M, hM⟩ : ∃ M, M = manyX xs := ⟨_, rfl⟩; have hMM : atR xs 16 4 = M := hM.symm
 rw [hMM] at HM
 rw [← hM] at h
 have hW1' : (w.alloc (.cells (sec (Sx xs)) 46)).alloc (.cells #[.int .u64 0, .int .u64 0, .slice none 0 0] 148) = W1 := hW1.symm; have HW1 := Lib.hid hW1'; have HLT : Hid (decide (232 < (M : Int)) = true) := Lib.hid (decide_eq_true (by omega)); clear hW1 hW1' hM hMM hB1 hB2 h
 go_enter Tryz.func102, Tryz.ntmps102
 go_wp2_with fail; rw [HW1.out]; refine HM.out.mono ?_; rintro e w1 ⟨rfl, rfl⟩; go_wp2_with fail; refine Flow.region (SlPa M) (Gr W1) Gr (by kernel_rfl) (by kernel_rfl) (fun _ _ _ _ h g => slPa_gr h g) ⟨rfl, rfl, rfl, Nat.le_refl _, fun _ _ => rfl⟩ ?steps ?fin
 case steps =>
  refine .cons (fun a W hfr hinv hdep K hK => ?_) ?_
  · have t5 := tAt (.int .u64 (M : Int)) (hfr.at 5 (by kernel_rfl)); refine fW0 rfl ?_; clear hfr hdep; go_simp; exact hK _ _ (Gr.refl _) hinv (dsT (by trivial))
  refine .cons (fun a W hfr hinv hdep K hK => ?_) ?_
  · have t10 := tAt (.int .u64 (M : Int)) (hdep 10 (by kernel_rfl)); have hlt := HLT.out; refine fW0 rfl ?_; clear hfr hdep; go_simp; exact hK _ _ (Gr.refl _) hinv (dsT (by trivial))
  refine .cons (fun a W hfr hinv hdep K hK => ?_) ?_
  · have t11 := tAt (.bool true) (hdep 11 (by kernel_rfl)); refine fW0 rfl ?_; clear hfr hdep; go_simp; exact hK _ _ (Gr.refl _) hinv (dsT (by trivial))
  refine .cons (fun a W hfr hinv hdep K hK => ?_) ?_
  · have sg : a.tmps.getD 12 undef = .bool !false := hdep 12 (by kernel_rfl); have t4 := tAt (.func (.func 119) #[] #[.pointer (some ⟨w.heap.size, 0, none⟩)]) (hfr.at 4 (by kernel_rfl)); rw [if_neg (Flow.wanted_no 2 false 12 rfl (by kernel_rfl) sg)]; clear hfr hdep; exact hK _ _ (Gr.refl _) hinv (dsT (by trivial))
  refine .cons (fun a W hfr hinv hdep K hK => ?_) ?_
  · have sg : a.tmps.getD 12 undef = .bool !false := hdep 12 (by kernel_rfl); rw [if_neg (Flow.wanted_no 2 false 12 rfl (by kernel_rfl) sg)]; clear hfr hdep; exact hK _ _ (Gr.refl _) hinv (dsT (by trivial))
  refine .cons (fun a W hfr hinv hdep K hK => ?_) ?_
  · have sg : a.tmps.getD 12 undef = .bool !false := hdep 12 (by kernel_rfl); have t1 := tAt (.pointer (some ⟨w.heap.size, 0, none⟩)) (hfr.at 1 (by kernel_rfl)); rw [if_neg (Flow.wanted_no 2 false 12 rfl (by kernel_rfl) sg)]; clear hfr hdep; exact hK _ _ (Gr.refl _) hinv (dsT (by trivial))
  refine .cons (fun a W hfr hinv hdep K hK => ?_) ?_
  · have sg : a.tmps.getD 12 undef = .bool !false := hdep 12 (by kernel_rfl); have t1 := tAt (.pointer (some ⟨w.heap.size, 0, none⟩)) (hfr.at 1 (by kernel_rfl)); rw [if_neg (Flow.wanted_no 2 false 12 rfl (by kernel_rfl) sg)]; clear hfr hdep; exact hK _ _ (Gr.refl _) hinv (dsT (by trivial))
  refine .cons (fun a W hfr hinv hdep K hK => ?_) ?_
  · have sg : a.tmps.getD 12 undef = .bool !false := hdep 12 (by kernel_rfl); rw [if_neg (Flow.wanted_no 2 false 12 rfl (by kernel_rfl) sg)]; clear hfr hdep; exact hK _ _ (Gr.refl _) hinv (dsT (by trivial))
  refine .cons (fun a W hfr hinv hdep K hK => ?_) ?_
  · have sg : a.tmps.getD 12 undef = .bool !false := hdep 12 (by kernel_rfl); rw [if_neg (Flow.wanted_no 2 false 12 rfl (by kernel_rfl) sg)]; clear hfr hdep; exact hK _ _ (Gr.refl _) hinv (dsT (by trivial))
  refine .cons (fun a W hfr hinv hdep K hK => ?_) ?_
  · have sg : a.tmps.getD 12 undef = .bool !false := hdep 12 (by kernel_rfl); rw [if_neg (Flow.wanted_no 2 false 12 rfl (by kernel_rfl) sg)]; clear hfr hdep; exact hK _ _ (Gr.refl _) hinv (dsT (by trivial))
  refine .cons (fun a W hfr hinv hdep K hK => ?_) ?_
  · have sg : a.tmps.getD 12 undef = .bool !false := hdep 12 (by kernel_rfl); rw [if_neg (Flow.wanted_no 2 false 12 rfl (by kernel_rfl) sg)]; clear hfr hdep; exact hK _ _ (Gr.refl _) hinv (dsT (by trivial))
  refine .cons (fun a W hfr hinv hdep K hK => ?_) ?_
  · have t12 := tAt (.bool true) (hdep 12 (by kernel_rfl)); refine fW0 rfl ?_; clear hfr hdep; go_simp; exact hK _ _ (Gr.refl _) hinv (dsT (by trivial))
  exact True.intro
 case fin =>
  intro a W hfr hfin hsl
  have s21 : a.tmps.getD 21 undef = .bool true := hsl 11 _ 21 rfl rfl; have t21 := tmpAt s21; have e := Flow.frame hfr [10, 11, 12, 13, 14, 15, 16, 17, 18, 19, 20, 21] (List.range 34) (by kernel_rfl) (by kernel_rfl)
  simp [List.range, List.range.loop] at e
  rw [t21] at e
  rw [e]; clear e hfr hsl s21 t21
  first
   | (rename_i hB; refine hB _ _ ?_)
   | (rename_i hB y0; refine hB _ _ ?_)
   | (rename_i hB y0 y1; refine hB _ _ ?_)
   | (rename_i hB y0 y1 y2; refine hB _ _ ?_)
   | (rename_i hB y0 y1 y2 y3; refine hB _ _ ?_)
   | (rename_i hB y0 y1 y2 y3 y4; refine hB _ _ ?_)
   | (rename_i hB y0 y1 y2 y3 y4 y5; refine hB _ _ ?_)
   | (rename_i hB y0 y1 y2 y3 y4 y5 y6; refine hB _ _ ?_)
  have HB2 := Lib.hid (HB.out.2.1.gr hfin); have HG2 := Lib.hid (Gr.trans HB.out.2.2 hfin); clear hfin
  go_wp2_with (refine wpList_store_pc rfl (.tmp 2) (.tmp 22) rfl HB2.out rfl rfl (one_pc _ _ _ _ _) rfl rfl ?_)
  exact bodyPost_ret (results_pc rfl _ _ _ _ (.bool false) rfl rfl rfl (HB2.out.row _)) rfl ⟨rfl, below_setRow HG2.out (by omega) _⟩
set_option maxRecDepth 100000 in
set_option maxHeartbeats 1000000 in
theorem pieceOf_any {xs : List Int} (hx : IsSec xs) (w : World) (h : manyX xs ≤ 232) : Calls Tryz.prog 102 #[.agg (sec (Sx xs))] w (RetSum xs w) := by
 obtain ⟨W1, hW1⟩ : ∃ W1, W1 = (w.alloc (.cells (sec (Sx xs)) TS)).alloc (.cells #[.int .u64 0, .int .u64 0, .slice none 0 0] TPc) := ⟨_, rfl⟩; have hB1 := Blk.new w TS (sec (Sx xs)); have hB2 := Blk.new (w.alloc (.cells (sec (Sx xs)) TS)) TPc #[.int .u64 0, .int .u64 0, .slice none 0 0]
 have HB : Hid (Blk W1 w.heap.size TS (sec (Sx xs)) ∧ Blk W1 (w.heap.size + 1) TPc #[.int .u64 0, .int .u64 0, .slice none 0 0] ∧ Gr w W1) := Lib.hid (by
  rw [hW1]
  simp only [World.size_alloc] at hB2
  exact ⟨hB1.gr (Gr.new _ _), hB2, Gr.trans (Gr.new _ _) (Gr.new _ _)⟩)
 have HM := Lib.hid (pieceAt_any hx 16 4 w.heap.size W1 HB.out.1); obtain ⟨M, hM⟩ : ∃ M, M = manyX xs := ⟨_, rfl⟩; obtain ⟨S, hS⟩ : ∃ S, S = sumX xs := ⟨_, rfl⟩; obtain ⟨T, hT⟩ : ∃ T, T = sumW (xs.take 20 ++ xs.drop 24) := ⟨_, rfl⟩; obtain ⟨NB, hNB⟩ : ∃ NB, NB = !decide (S = T.toNat) := ⟨_, rfl⟩; have hMM : atR xs 16 4 = M := hM.symm
 rw [hMM] at HM
 rw [← hM] at h
 have HS : Hid (∀ W, Gr W1 W → Calls Tryz.prog 119 #[.int .i64 20, .int .i64 4, .pointer (some ⟨w.heap.size, 0, none⟩)] W fun e w' => e = .returned (.int .u64 (S : Int)) ∧ W = w') := Lib.hid fun W gr => by
  have h := pieceAt_any hx 20 4 w.heap.size W (HB.out.1.gr gr)
  rwa [show atR xs 20 4 = S from hS.symm] at h
 have HN1 : Hid (∀ W, Gr W1 W → Calls Tryz.prog 119 #[.int .i64 0, .int .i64 8, .pointer (some ⟨w.heap.size, 0, none⟩)] W fun e w' => e = .returned (.int .u64 (numX xs : Int)) ∧ W = w') := Lib.hid fun W gr => pieceAt_any hx 0 8 w.heap.size W (HB.out.1.gr gr)
 have HN2 : Hid (∀ W, Gr W1 W → Calls Tryz.prog 119 #[.int .i64 8, .int .i64 8, .pointer (some ⟨w.heap.size, 0, none⟩)] W fun e w' => e = .returned (.int .u64 (epX xs : Int)) ∧ W = w') := Lib.hid fun W gr => pieceAt_any hx 8 8 w.heap.size W (HB.out.1.gr gr)
 have HY : Hid (Byt W1 (some ⟨w.heap.size, 0, none⟩) 20 256 (xs.take 20) ∧ Byt W1 (some ⟨w.heap.size, 24, none⟩) 232 232 (xs.drop 24)) := Lib.hid ⟨(HB.out.1.byt hx).pre 20 256 (by omega) (by omega) (by omega), by
  have h := (HB.out.1.byt hx).tail 24 (by omega) (some ⟨w.heap.size, 24, none⟩) (fun _ => by rw [Nat.zero_add])
  simpa using h⟩
 have HSU : Hid (∀ pr nr cr W, Rows W pr nr cr [xs.take 20, xs.drop 24] → Calls Tryz.prog 115 #[.slice pr nr cr] W fun e w' => e = .returned (.int .u32 (U T)) ∧ Gr W w') := Lib.hid fun pr nr cr W hr => by
  have h := sum_any pr nr cr _ W hr; rw [hT]
  simpa using h
 have HW : Hid (IntKind.u64.wrap (U T) = ((T.toNat : Nat) : Int)) := Lib.hid (by
  have := T.isLt
  rw [IntKind.wrap_u64]; unfold U; omega)
 have HNB : Hid (((S : Int) != ((T.toNat : Nat) : Int)) = NB) := Lib.hid (by
  rw [hNB]
  by_cases e : S = T.toNat
  · simp [e]
  ·
   have : ¬ (S : Int) = ((T.toNat : Nat) : Int) := by omega
   simp [e, this])
 have hW1' : (w.alloc (.cells (sec (Sx xs)) 46)).alloc (.cells #[.int .u64 0, .int .u64 0, .slice none 0 0] 148) = W1 := hW1.symm; have HW1 := Lib.hid hW1'; have HLT : Hid (decide (232 < (M : Int)) = false) := Lib.hid (decide_eq_false (by omega)); have HE : Hid (sumX xs = trueX xs ↔ NB = false) := Lib.hid (by rw [hNB, ← hS, show trueX xs = T.toNat by unfold trueX; rw [hT]]; simp); have HMx := Lib.hid hM; clear hW1 hW1' hM hMM hB1 hB2 hS hT hNB
 go_enter Tryz.func102, Tryz.ntmps102
 go_wp2_with fail; rw [HW1.out]; refine HM.out.mono ?_; rintro e w1 ⟨rfl, rfl⟩; go_wp2_with fail; refine Flow.region (SlPb w.heap.size xs M S T NB) (Gr W1) Gr (by kernel_rfl) (by kernel_rfl) (fun _ _ _ _ h g => slPb_gr h g) ⟨rfl, rfl, rfl, Nat.le_refl _, fun _ _ => rfl⟩ ?steps ?fin
 case steps =>
  refine .cons (fun a W hfr hinv hdep K hK => ?_) ?_
  · have t5 := tAt (.int .u64 (M : Int)) (hfr.at 5 (by kernel_rfl)); refine fW0 rfl ?_; clear hfr hdep; go_simp; exact hK _ _ (Gr.refl _) hinv (dsT (by trivial))
  refine .cons (fun a W hfr hinv hdep K hK => ?_) ?_
  · have t10 := tAt (.int .u64 (M : Int)) (hdep 10 (by kernel_rfl)); have hlt := HLT.out; refine fW0 rfl ?_; clear hfr hdep; go_simp; exact hK _ _ (Gr.refl _) hinv (dsT (by trivial))
  refine .cons (fun a W hfr hinv hdep K hK => ?_) ?_
  · have t11 := tAt (.bool false) (hdep 11 (by kernel_rfl)); refine fW0 rfl ?_; clear hfr hdep; go_simp; exact hK _ _ (Gr.refl _) hinv (dsT (by trivial))
  refine .cons (fun a W hfr hinv hdep K hK => ?_) ?_
  · have sg : a.tmps.getD 12 undef = .bool false := hdep 12 (by kernel_rfl); have t4 := tAt (.func (.func 119) #[] #[.pointer (some ⟨w.heap.size, 0, none⟩)]) (hfr.at 4 (by kernel_rfl)); rw [if_pos (Flow.wanted_yes 2 false 12 rfl (by kernel_rfl) sg)]; clear hfr hdep; go_simp; exact hK _ _ (Gr.refl _) hinv (dsT (by trivial))
  refine .cons (fun a W hfr hinv hdep K hK => ?_) ?_
  · have sg : a.tmps.getD 12 undef = .bool false := hdep 12 (by kernel_rfl); have t13 := tAt (.func (.func 119) #[] #[.pointer (some ⟨w.heap.size, 0, none⟩)]) (hdep 13 (by kernel_rfl)); rw [if_pos (Flow.wanted_yes 2 false 12 rfl (by kernel_rfl) sg)]; clear hfr hdep; go_simp; refine (HS.out W hinv).mono ?_; rintro e W' ⟨rfl, rfl⟩; exact hK _ _ (Gr.refl _) hinv (dsT (by trivial))
  refine .cons (fun a W hfr hinv hdep K hK => ?_) ?_
  · have sg : a.tmps.getD 12 undef = .bool false := hdep 12 (by kernel_rfl); have t1 := tAt (.pointer (some ⟨w.heap.size, 0, none⟩)) (hfr.at 1 (by kernel_rfl)); rw [if_pos (Flow.wanted_yes 2 false 12 rfl (by kernel_rfl) sg)]; clear hfr hdep; go_simp; exact hK _ _ (Gr.refl _) hinv (dsT (by trivial))
  refine .cons (fun a W hfr hinv hdep K hK => ?_) ?_
  · have sg : a.tmps.getD 12 undef = .bool false := hdep 12 (by kernel_rfl); have t1 := tAt (.pointer (some ⟨w.heap.size, 0, none⟩)) (hfr.at 1 (by kernel_rfl)); rw [if_pos (Flow.wanted_yes 2 false 12 rfl (by kernel_rfl) sg)]; clear hfr hdep; go_simp; exact hK _ _ (Gr.refl _) hinv (dsT (by trivial))
  refine .cons (fun a W hfr hinv hdep K hK => ?_) ?_
  · have sg : a.tmps.getD 12 undef = .bool false := hdep 12 (by kernel_rfl); have t15 := tAt (.slice (some ⟨w.heap.size, 0, none⟩) 20 256) (hdep 15 (by kernel_rfl)); have t16 := tAt (.slice (some ⟨w.heap.size, 24, none⟩) 232 232) (hdep 16 (by kernel_rfl)); rw [if_pos (Flow.wanted_yes 2 false 12 rfl (by kernel_rfl) sg)]; clear hfr hdep; have h0 := HY.out.1.kept hinv; have h1 := HY.out.2.kept hinv; go_simp; exact hK _ _ ((Gr.refl W).alloc (Nat.le_refl _) _) (hinv.alloc hinv.size _) (fun d hd => by cases hd; exact ⟨_, _, _, rfl, Rows.two h0 h1 rfl⟩)
  refine .cons (fun a W hfr hinv hdep K hK => ?_) ?_
  · have sg : a.tmps.getD 12 undef = .bool false := hdep 12 (by kernel_rfl); have s17 : IsRows W (a.tmps.getD 17 undef) [xs.take 20, xs.drop 24] := hdep 17 (by kernel_rfl); rw [if_pos (Flow.wanted_yes 2 false 12 rfl (by kernel_rfl) sg)]; clear hfr hdep; obtain ⟨pr, nr, cr, s17, hr⟩ := s17; have t17 := tmpAt s17; go_simp; refine (HSU.out pr nr cr W hr).mono ?_; rintro e W' ⟨rfl, g1⟩; exact hK _ _ g1 (Gr.trans hinv g1) (dsT (by trivial))
  refine .cons (fun a W hfr hinv hdep K hK => ?_) ?_
  · have sg : a.tmps.getD 12 undef = .bool false := hdep 12 (by kernel_rfl); have t18 := tAt (.int .u32 (U T)) (hdep 18 (by kernel_rfl)); have hw := HW.out; rw [if_pos (Flow.wanted_yes 2 false 12 rfl (by kernel_rfl) sg)]; clear hfr hdep; go_simp; exact hK _ _ (Gr.refl _) hinv (dsT (by trivial))
  refine .cons (fun a W hfr hinv hdep K hK => ?_) ?_
  · have sg : a.tmps.getD 12 undef = .bool false := hdep 12 (by kernel_rfl); have t14 := tAt (.int .u64 (S : Int)) (hdep 14 (by kernel_rfl)); have t19 := tAt (.int .u64 (T.toNat : Int)) (hdep 19 (by kernel_rfl)); have hq := HNB.out; rw [if_pos (Flow.wanted_yes 2 false 12 rfl (by kernel_rfl) sg)]; clear hfr hdep; go_simp; exact hK _ _ (Gr.refl _) hinv (dsT (by trivial))
  refine .cons (fun a W hfr hinv hdep K hK => ?_) ?_
  · have t12 := tAt (.bool false) (hdep 12 (by kernel_rfl)); have t20 := tAt (.bool NB) (hdep 20 (by kernel_rfl)); refine fW0 rfl ?_; clear hfr hdep; go_simp; exact hK _ _ (Gr.refl _) hinv (dsT (by trivial))
  exact True.intro
 case fin =>
  intro a W hfr hfin hsl
  have s21 : a.tmps.getD 21 undef = .bool NB := hsl 11 _ 21 rfl rfl; have t21 := tmpAt s21; have e := Flow.frame hfr [10, 11, 12, 13, 14, 15, 16, 17, 18, 19, 20, 21] (List.range 34) (by kernel_rfl) (by kernel_rfl)
  simp [List.range, List.range.loop] at e
  rw [t21] at e
  rw [e]; clear e hfr hsl s21 t21
  first
   | (rename_i hB; refine hB _ _ ?_)
   | (rename_i hB y0; refine hB _ _ ?_)
   | (rename_i hB y0 y1; refine hB _ _ ?_)
   | (rename_i hB y0 y1 y2; refine hB _ _ ?_)
   | (rename_i hB y0 y1 y2 y3; refine hB _ _ ?_)
   | (rename_i hB y0 y1 y2 y3 y4; refine hB _ _ ?_)
   | (rename_i hB y0 y1 y2 y3 y4 y5; refine hB _ _ ?_)
   | (rename_i hB y0 y1 y2 y3 y4 y5 y6; refine hB _ _ ?_)
  have HB2 := Lib.hid (HB.out.2.1.gr hfin); have HG2 := Lib.hid (Gr.trans HB.out.2.2 hfin); have HN3 := Lib.hid (HN1.out W hfin); have HN4 := Lib.hid (HN2.out W hfin); have HB3 := Lib.hid (HB.out.1.gr hfin); clear hfin
  cases NB
  ·
   obtain ⟨N1, hN1⟩ : ∃ N1, N1 = numX xs := ⟨_, rfl⟩; obtain ⟨N2, hN2⟩ : ∃ N2, N2 = epX xs := ⟨_, rfl⟩; obtain ⟨E, hE⟩ : ∃ E, E = 24 + M := ⟨_, rfl⟩
   obtain ⟨O, hO⟩ : ∃ O, O = if E = 24 then 0 else 24 := ⟨_, rfl⟩
   have HNN : Hid (atR xs 0 8 = N1 ∧ atR xs 8 8 = N2 ∧ sumX xs = trueX xs) := Lib.hid ⟨hN1.symm, hN2.symm, HE.out.2 rfl⟩; have hw1 : IntKind.i64.wrap (M : Int) = (M : Int) := IntWalk.i64_in _ (by omega)
   have hw2 : IntKind.i64.wrap (24 + (M : Int)) = (E : Int) := by rw [IntWalk.i64_in _ (by omega)]; omega
   have hw3 : 24 + (M : Int) = (E : Int) := by omega
   have HRC : Hid (∀ W, (Instr.sliceAt TS (.pointer (some ⟨w.heap.size, 0, none⟩)) (some (.int .i64 24)) (some (.int .i64 (E : Int))) (some (.int .i64 (E : Int)))).run Tryz.prog W = .ok (.slice (some ⟨w.heap.size, O, none⟩) M M) W) := Lib.hid fun W => by
    have h := run_cut24 w.heap.size E (by omega) (by omega) W
    rw [← hO, show E - 24 = M by omega] at h
    exact h
   have HPA : Hid (∀ F S W, Blk W w.heap.size TS (sec (Sx xs)) → Calls Tryz.prog 119 #[.int .i64 F, .int .i64 S, .pointer (some ⟨w.heap.size, 0, none⟩)] W fun e w' => e = .returned (.int .u64 (atR xs F S)) ∧ W = w') := Lib.hid fun F S W hb => pieceAt_any hx F S w.heap.size W hb
   have HIN : Hid (InP w xs N1 N2 O M (fun j => (Array.replicate 10 false).getD j true) W.drew) := Lib.hid ⟨HG2.out.drew, HB3.out.heap rfl, HB2.out.heap rfl⟩; have HMO : Hid (manyX xs = M ∧ (0 < M → O = 24) ∧ M ≤ 232) := Lib.hid ⟨HMx.out.symm, fun h0 => by rw [hO, if_neg (by omega)], h⟩; clear hN1 hN2 hE hO HN1 HN2 HS HNB HE HW HSU HLT HN3 HN4 HMx; go_wp2_with fail; refine Flow.regionS [3] 20 (SlPc w.heap.size E O M N1 N2) (InP w xs N1 N2 O M) (fun _ _ _ => True) (by kernel_rfl) (by kernel_rfl) (fun _ _ _ _ _ _ h _ => h) HIN.out ?steps ?fin
   case steps =>
    refine .cons (fun l a W hfr hun hup hdn hinv hdep K hK => ?_) ?_
    · have t4 := tAt (.func (.func 119) #[] #[.pointer (some ⟨w.heap.size, 0, none⟩)]) (hfr.at 4 (by kernel_rfl)); refine fW0 rfl ?_; clear hfr hdep hun hup hdn; go_simp; exact hK _ _ True.intro (hinv.other 0 (by decide)) (dsT (by trivial))
    refine .cons (fun l a W hfr hun hup hdn hinv hdep K hK => ?_) ?_
    · have t26 := tAt (.func (.func 119) #[] #[.pointer (some ⟨w.heap.size, 0, none⟩)]) (hdep 26 (by kernel_rfl)); refine fW0 rfl ?_; clear hfr hdep hun hup hdn; go_simp; refine (HPA.out 0 8 W hinv.s).mono ?_; rintro e W' ⟨rfl, rfl⟩; rw [HNN.out.1]; exact hK _ _ True.intro (hinv.other 1 (by decide)) (dsT (by trivial))
    refine .cons (fun l a W hfr hun hup hdn hinv hdep K hK => ?_) ?_
    · have t4 := tAt (.func (.func 119) #[] #[.pointer (some ⟨w.heap.size, 0, none⟩)]) (hfr.at 4 (by kernel_rfl)); refine fW0 rfl ?_; clear hfr hdep hun hup hdn; go_simp; exact hK _ _ True.intro (hinv.other 2 (by decide)) (dsT (by trivial))
    refine .cons (fun l a W hfr hun hup hdn hinv hdep K hK => ?_) ?_
    · have t28 := tAt (.func (.func 119) #[] #[.pointer (some ⟨w.heap.size, 0, none⟩)]) (hdep 28 (by kernel_rfl)); refine fW0 rfl ?_; clear hfr hdep hun hup hdn; go_simp; refine (HPA.out 8 8 W hinv.s).mono ?_; rintro e W' ⟨rfl, rfl⟩; rw [HNN.out.2.1]; exact hK _ _ True.intro (hinv.other 3 (by decide)) (dsT (by trivial))
    refine .cons (fun l a W hfr hun hup hdn hinv hdep K hK => ?_) ?_
    · have t6 := tAt (.int .i64 (E : Int)) (hfr.at 6 (by kernel_rfl)); refine fW0 rfl ?_; clear hfr hdep hun hup hdn; go_simp; exact hK _ _ True.intro (hinv.other 4 (by decide)) (dsT (by trivial))
    refine .cons (fun l a W hfr hun hup hdn hinv hdep K hK => ?_) ?_
    · have t6 := tAt (.int .i64 (E : Int)) (hfr.at 6 (by kernel_rfl)); refine fW0 rfl ?_; clear hfr hdep hun hup hdn; go_simp; exact hK _ _ True.intro (hinv.other 5 (by decide)) (dsT (by trivial))
    refine .cons (fun l a W hfr hun hup hdn hinv hdep K hK => ?_) ?_
    · have t1 := tAt (.pointer (some ⟨w.heap.size, 0, none⟩)) (hfr.at 1 (by kernel_rfl)); have t30 := tAt (.int .i64 (E : Int)) (hdep 30 (by kernel_rfl)); have t31 := tAt (.int .i64 (E : Int)) (hdep 31 (by kernel_rfl)); refine fW0 rfl ?_; clear hfr hdep hun hup hdn; have hrc := HRC.out W; go_simp; exact hK _ _ True.intro (hinv.other 6 (by decide)) (dsT (by trivial))
    refine .cons (fun l a W hfr hun hup hdn hinv hdep K hK => ?_) ?_
    · have t27 := tAt (.int .u64 (N1 : Int)) (hdep 27 (by kernel_rfl)); have t29 := tAt (.int .u64 (N2 : Int)) (hdep 29 (by kernel_rfl)); have t32 := tAt (.slice (some ⟨w.heap.size, O, none⟩) M M) (hdep 32 (by kernel_rfl)); refine fW0 rfl ?_; clear hfr hdep hun hup hdn; go_simp; exact hK _ _ True.intro (hinv.other 7 (by decide)) (dsT (by trivial))
    refine .cons (fun l a W hfr hun hup hdn hinv hdep K hK => ?_) ?_
    ·
     have s2 : a.tmps.getD 2 undef = .pointer (some ⟨w.heap.size + 1, 0, none⟩) := hfr.at 2 (by kernel_rfl)
     have t2 := tmpAt s2; have s33 : a.tmps.getD 33 undef = .agg #[.int .u64 (N1 : Int), .int .u64 (N2 : Int), .slice (some ⟨w.heap.size, O, none⟩) M M] := hdep 33 (by kernel_rfl); have t33 := tmpAt s33; refine fW0 rfl ?_; clear hfr hdep hun hup hdn; refine wp_store_pc (.tmp 2) (.tmp 33) rfl hinv.p (by cases l 8 <;> rfl) rfl (one_pc _ _ _ _ _) (by simpa [Act.eval] using s2) (by simpa [Act.eval] using s33) ?_; exact hK undef _ True.intro hinv.put (fun d hd => by cases hd)
    refine .cons (fun l a W hfr hun hup hdn hinv hdep K hK => ?_) ?_
    · refine fW0 rfl ?_; clear hfr hdep hun hup hdn; go_simp; exact hK _ _ True.intro (hinv.other 9 (by decide)) (dsT (by trivial))
    exact True.intro
   case fin =>
    intro a W9 l hfr hall hinv hsl
    have l8 : l 8 = true := hall 8 (by decide); have s3 : a.tmps.getD 3 undef = .bool true := hsl 9 _ 3 rfl rfl (by simp); have t3 := tmpAt s3; have e := Flow.frame hfr [26, 27, 28, 29, 30, 31, 32, 33, 3] (List.range 34) (by kernel_rfl) (by kernel_rfl)
    simp [List.range, List.range.loop] at e
    rw [t3] at e
    rw [e]; have hp9 := hinv.p
    rw [l8] at hp9
    have HP9 : Hid (Blk W9 (w.heap.size + 1) TPc #[.int .u64 (N1 : Int), .int .u64 (N2 : Int), .slice (some ⟨w.heap.size, O, none⟩) M M] ∧ Gr w W9 ∧ Blk W9 w.heap.size TS (sec (Sx xs))) := Lib.hid ⟨hp9, hinv.gr, hinv.s⟩; clear e hfr hsl hall hinv hp9 l8 s3 t3
    first
     | (rename_i hB; refine hB _ _ ?_)
     | (rename_i hB y0; refine hB _ _ ?_)
     | (rename_i hB y0 y1; refine hB _ _ ?_)
     | (rename_i hB y0 y1 y2; refine hB _ _ ?_)
     | (rename_i hB y0 y1 y2 y3; refine hB _ _ ?_)
     | (rename_i hB y0 y1 y2 y3 y4; refine hB _ _ ?_)
     | (rename_i hB y0 y1 y2 y3 y4 y5; refine hB _ _ ?_)
     | (rename_i hB y0 y1 y2 y3 y4 y5 y6; refine hB _ _ ?_)
    have HX : Hid (Byt W9 (some ⟨w.heap.size, O, none⟩) M M (bytX xs)) := Lib.hid (by
     unfold bytX
     rw [HMO.out.1]
     by_cases h0 : 0 < M
     ·
      rw [HMO.out.2.1 h0]; have hb := (HP9.out.2.2.byt hx).sub (by omega) 24 M M (by have := HMO.out.2.2; omega) (Nat.le_refl _) (by have := HMO.out.2.2; simp only [maxLen]; omega)
      rwa [Nat.zero_add] at hb
     ·
      obtain rfl : M = 0 := by omega
      simpa using Byt.zero W9 (some ⟨w.heap.size, O, none⟩))
    clear hw1 hw2 hw3; go_wp2_with fail; refine bodyPost_ret (results_pc rfl _ _ _ _ (.bool true) rfl rfl rfl HP9.out.1) rfl ?_
    unfold RetSum
    rw [if_pos HNN.out.2.2]; refine ⟨some ⟨w.heap.size, O, none⟩, ?_, ?_, HP9.out.2.1, fun a h => by cases h; exact Nat.le_refl _⟩
    · rw [HMO.out.1, show numX xs = N1 from HNN.out.1, show epX xs = N2 from HNN.out.2.1]
    · rw [HMO.out.1]; exact HX.out
  ·
   have HNE : Hid (¬ sumX xs = trueX xs) := Lib.hid (fun e => by have := HE.out.1 e; cases this); clear HN1 HN2 HS HNB HE HW HSU HLT HN3 HN4
   go_wp2_with (refine wpList_store_pc rfl (.tmp 2) (.tmp 22) rfl HB2.out rfl rfl (one_pc _ _ _ _ _) rfl rfl ?_)
   refine bodyPost_ret (results_pc rfl _ _ _ _ (.bool false) rfl rfl rfl (HB2.out.row _)) rfl ?_
   unfold RetSum
   rw [if_neg HNE.out]; exact ⟨rfl, below_setRow HG2.out (by omega) _⟩
def RetPc (xs : List Int) (w : World) (e : Ending) (w' : World) : Prop := if okX xs = true then RetPiece xs w e w' else RetNoPiece w e w'
theorem pieceOf_all {xs : List Int} (hx : IsSec xs) (w : World) : Calls Tryz.prog 102 #[.agg (sec (Sx xs))] w (RetPc xs w) := by
 unfold RetPc okX
 by_cases h : manyX xs ≤ 232
 ·
  refine (pieceOf_any hx w h).mono ?_
  intro e w' hr
  unfold RetSum at hr
  simpa [h] using hr
 ·
  refine (pieceOf_much hx w (by omega)).mono ?_
  intro e w' hr
  simpa [h] using hr
end Go.Proofs.YtlijbgapkmfnaaaGreat
namespace Go.Proofs.YtlijbgapkmfnaaaGreat
open Go.RowKit Go.Maps Cr
def headL (k ep n : Nat) : List Int := Wd.enc 8 k ++ Wd.enc 8 ep ++ Wd.enc 4 n
def secL (k ep : Nat) (b : List Int) : List Int := headL k ep b.length ++ Wd.enc 4 (sumW (headL k ep b.length ++ padTo 232 b)).toNat ++ padTo 232 b
theorem headL_len (k ep n : Nat) : (headL k ep n).length = 20 := by simp [headL, Wd.enc_length]
theorem headL_small (k ep n : Nat) : Wd.Small (headL k ep n) := ((Wd.enc_small _ _).app (Wd.enc_small _ _)).app (Wd.enc_small _ _)
theorem secL_len {k ep : Nat} {b : List Int} (h : b.length ≤ 232) : (secL k ep b).length = 256 := by
 simp only [secL, List.length_append, headL_len, Wd.enc_length, padTo_len h]
theorem secL_sec {k ep : Nat} {b : List Int} (h : b.length ≤ 232) (hs : Wd.Small b) : IsSec (secL k ep b) :=
 ⟨secL_len h, ((headL_small _ _ _).app (Wd.enc_small _ _)).app (padTo_small hs)⟩
theorem lay_zero {ys : List Int} (h : ys.length = 256) : lay (List.replicate 256 0) 0 ys = ys := by
 unfold lay
 rw [List.take_zero, List.nil_append, List.drop_eq_nil_of_le (by rw [List.length_replicate]; omega), List.append_nil]
def nul2 : List Int := List.replicate 232 0
theorem nul2_len : nul2.length = 232 := List.length_replicate ..
abbrev TB2 : TypeId := 163
def bya (xs : List Int) : Array Value := (xs.map (Value.int .u8)).toArray
theorem bya_size (xs : List Int) : (bya xs).size = xs.length := by simp [bya]
theorem Blk.bya {w : World} {g : Nat} {t : TypeId} {xs : List Int} {n : Nat} (h : Blk w g t (bya xs)) (hl : xs.length = n) (hm : n ≤ 1000) (hs : Wd.Small xs) : Byt w (some ⟨g, 0, none⟩) n n xs :=
 ⟨hl, Nat.le_refl _, by simp only [maxLen]; omega, fun _ => ⟨g, 0, rfl, fun i hi => by
  rw [Nat.zero_add, h.cell i]
  simp [Go.Proofs.YtlijbgapkmfnaaaGreat.bya, List.getD, hl, hi]⟩, (fun h => by cases h), hs⟩
structure Only (g : Nat) (w w' : World) : Prop where
 os : w'.os = w.os
 tape : w'.tape = w.tape
 output : w'.output = w.output
 size : w'.heap.size = w.heap.size
 block : ∀ k, k ≠ g → w'.heap[k]? = w.heap[k]?
theorem Only.refl (g : Nat) (w : World) : Only g w w := ⟨rfl, rfl, rfl, rfl, fun _ _ => rfl⟩
theorem Only.row (g : Nat) (w : World) (cs : Array Value) : Only g w (w.setRow g cs) := ⟨rfl, rfl, rfl, by simp, fun k hk => setRow_other w g k cs hk⟩
theorem Only.cell (g i : Nat) (w : World) (u : Value) : Only g w (w.setCell ⟨g, i, none⟩ u) :=
 have h := (Below.refl 0 w).setCell (p := ⟨g, i, none⟩) (Nat.zero_le _) u
 ⟨h.os, h.tape, h.output, by simp, fun k hk => heap_setCell_other w ⟨g, i, none⟩ k u hk⟩
theorem Only.trans {g : Nat} {a b c : World} (h : Only g a b) (k : Only g b c) : Only g a c := ⟨k.os.trans h.os, k.tape.trans h.tape, k.output.trans h.output, k.size.trans h.size, fun i hi => (k.block i hi).trans (h.block i hi)⟩
theorem Only.below {g B : Nat} {w0 w w' : World} (h : Only g w w') (hb : Below B w0 w) (hg : B ≤ g) : Below B w0 w' := hb.trans ⟨h.os, h.tape, h.output, Nat.le_of_eq h.size.symm, fun k hk => h.block k (by omega)⟩
theorem step_copy_body {w : World} {ops : Array Oper} {o : Oper} {a : Act} {K : Act → World → Prop} {Q : Exit → Act → World → Prop} {E : Prop} (hgd : o.guard = none) (d s : Operand)
  (ho : o.op = .call { callee := .builtin .copy, args := #[d, s], argTypes := #[31, 31] }) {g : Nat} (hd : a.eval d = .slice (some ⟨g, 0, none⟩) 232 232) (hb : Blk w g TB2 (bya nul2))
  {q : Option Addr} {m c : Nat} {ys : List Int} (hs : a.eval s = .slice q m c) (hy : Byt w q m c ys) (hm : m ≤ 232)
  (h : ∀ W', Blk W' g TB2 (bya (padTo 232 ys)) → Only g w W' → K (a.put o.dst (goInt m)) W') : if Region.wanted o (yielded ops a.tmps) = true then Oper.wp Tryz.prog o a w K Q else E := by
 rw [if_pos (by simp [Region.wanted, hgd])]; have hl := hy.len
 by_cases h0 : m = 0
 ·
  subst h0; obtain rfl : ys = [] := List.eq_nil_of_length_eq_zero hl; have hrun := run_copy_none (P := Tryz.prog) w 31 31 o.type 5 (some ⟨g, 0, none⟩) q 232 232 0 c bt4.us bt4_size (by simp)
  unfold Oper.wp
  simp only [execOp, ho, resolve, invoke, builtin, hd, hs]
  simp [hd, hs, hrun, Result.andThen]
  exact h w hb (Only.refl _ _)
 ·
  obtain ⟨b, of, rfl, _⟩ := hy.at (by omega)
  have hrun := run_copy_row (P := Tryz.prog) w 31 31 o.type 5 g 0 232 232 ⟨b, of, none⟩ m c (bya nul2) TB2 (ys.map (Value.int .u8)) bt4.us bt4_size hb (by rw [List.length_map, hl]; exact (Nat.min_eq_left hm).symm) hy.news (by rw [List.length_map, hl, bya_size, nul2_len]; omega) (u8s_oneCell _)
  have e : ((bya nul2).toList.take 0 ++ ys.map (Value.int .u8) ++ (bya nul2).toList.drop (0 + (ys.map (Value.int .u8)).length)).toArray = bya (padTo 232 ys) := by
   unfold bya padTo nul2
   simp only [List.take_zero, List.nil_append, List.map_append, List.map_replicate, List.length_map, hl, Nat.zero_add, List.drop_replicate]
  rw [e, List.length_map, hl] at hrun
  unfold Oper.wp
  simp only [execOp, ho, resolve, invoke, builtin, hd, hs]
  simp [hd, hs, hrun, Result.andThen]
  exact h _ (hb.row _) (Only.row _ _ _)
def SlSa (d : Nat) (k : Nat) (ep : Nat) (q : Option Addr) (m : Nat) (c : Nat) (slot : Nat) (v : Value) (w : World) : Prop :=
 match slot with
 | 11 => v = .pointer (some ⟨d, 0, none⟩)
 | 12 => v = .int .u64 (k : Int)
 | 14 => v = .pointer (some ⟨d, 1, none⟩)
 | 15 => v = .int .u64 (ep : Int)
 | 17 => v = .pointer (some ⟨d, 2, none⟩)
 | 18 => v = .slice q m c
 | 19 => v = .int .i64 m
 | 20 => v = .int .u64 (m : Int)
 | 4 => IsB w v (headL k ep m)
 | 13 => IsB w v (Wd.enc 8 k)
 | 16 => IsB w v (Wd.enc 8 ep)
 | 21 => IsB w v (Wd.enc 4 m)
 | 22 => IsRows w v [Wd.enc 8 k, Wd.enc 8 ep, Wd.enc 4 m]
 | 23 => IsB w v (headL k ep m)
 | _ => True
theorem slSa_gr {d : Nat} {k : Nat} {ep : Nat} {q : Option Addr} {m : Nat} {c : Nat} {s : Nat} {v : Value} {w w' : World} (h : SlSa d k ep q m c s v w) (g : Gr w w') : SlSa d k ep q m c s v w' := by
 unfold SlSa at *
 split <;> simp only at h
 all_goals first
  | exact h
  | exact IsB.kept h g
  | exact IsRows.kept h g
def RetSecX (xs : List Int) (w : World) (e : Ending) (w' : World) : Prop := e = .returned (.agg (sec (Sx xs))) ∧ Gr w w'
theorem zero_b2 : Tryz.zeroCells163 = bya nul2 := by kernel_rfl
theorem wword_fit (n k : Nat) (w : World) (h : fitsB n k = true) : Calls Tryz.prog 114 #[.int .u64 n, .int .i64 k] w (RetByte (Wd.enc k n) w) := by
 have h1 := wword_any n k w
 unfold putR at h1
 rw [h] at h1
 exact h1
set_option maxRecDepth 100000 in
set_option maxHeartbeats 2000000 in
theorem psector_any (k ep : Nat) (q : Option Addr) (m c : Nat) (b : List Int) (w : World) (hk : k ≤ 18446744073709551615) (he : ep ≤ 18446744073709551615) (hy : Byt w q m c b) (hm : m ≤ 232) :
  Calls Tryz.prog 96 #[.agg #[.int .u64 (k : Int), .int .u64 (ep : Int), .slice q m c]] w (RetSecX (secL k ep b) w) := by
 obtain ⟨W1, hW1⟩ : ∃ W1, W1 = (w.alloc (.cells #[.int .u64 (k : Int), .int .u64 (ep : Int), .slice q m c] TPc)).alloc (.cells (sec Sec.zero) TS) := ⟨_, rfl⟩; obtain ⟨W2, hW2⟩ : ∃ W2, W2 = W1.alloc (.cells (bya nul2) TB2) := ⟨_, rfl⟩; have hB1 := Blk.new w TPc #[.int .u64 (k : Int), .int .u64 (ep : Int), .slice q m c]; have hB2 := Blk.new (w.alloc (.cells #[.int .u64 (k : Int), .int .u64 (ep : Int), .slice q m c] TPc)) TS (sec Sec.zero); have hB3 := Blk.new W1 TB2 (bya nul2)
 have hs1 : W1.heap.size = w.heap.size + 1 + 1 := by rw [hW1]; simp
 have HB : Hid (Blk W2 w.heap.size TPc #[.int .u64 (k : Int), .int .u64 (ep : Int), .slice q m c] ∧ Blk W2 (w.heap.size + 1) TS (sec Sec.zero) ∧ Blk W2 (w.heap.size + 1 + 1) TB2 (bya nul2) ∧ Gr w W2) := Lib.hid (by
  rw [hs1] at hB3
  rw [← hW2] at hB3
  simp only [World.size_alloc] at hB2
  rw [← hW1] at hB2
  have g1 : Gr (w.alloc (.cells #[.int .u64 (k : Int), .int .u64 (ep : Int), .slice q m c] TPc)) W1 := by rw [hW1]; exact Gr.new _ _
  have g2 : Gr W1 W2 := by rw [hW2]; exact Gr.new _ _
  exact ⟨(hB1.gr g1).gr g2, hB2.gr g2, hB3, Gr.trans (Gr.trans (Gr.new _ _) g1) g2⟩)
 have HY := Lib.hid hy; have HM : Hid (IntKind.u64.wrap (m : Int) = (m : Int) ∧ m ≤ 232 ∧ b.length = m) := Lib.hid ⟨by rw [IntKind.wrap_u64]; omega, hm, hy.len⟩; have hz := zero_sec
 have hW : ((w.alloc (.cells #[.int .u64 (k : Int), .int .u64 (ep : Int), .slice q m c] 148)).alloc (.cells (sec Sec.zero) 46)).alloc (.cells Tryz.zeroCells163 163) = W2 := by rw [zero_b2, hW2, hW1]
 have HW := Lib.hid hW; clear hW hW1 hW2 hB1 hB2 hB3 hs1 hy
 go_enter Tryz.func96, Tryz.ntmps96
 go_wp2_with fail; rw [HW.out]; have HB' := Lib.hid (show Blk W2.drew (w.heap.size + 1 + 1) TB2 (bya nul2) from HB.out.2.2.1.heap rfl); have HY' := Lib.hid (HY.out.kept (Gr.trans HB.out.2.2.2 (Gr.refl W2).drew)); have HBd := Lib.hid (show Blk W2.drew w.heap.size TPc #[.int .u64 (k : Int), .int .u64 (ep : Int), .slice q m c] from HB.out.1.heap rfl)
 have HCC : Hid (∀ V, Only (w.heap.size + 1 + 1) W2.drew V → V.cell? ⟨w.heap.size, 2, none⟩ = some (.slice q m c)) := Lib.hid fun V ho => (HBd.out.stays (ho.block w.heap.size (by omega))).cell 2
 obtain ⟨⟨c0, c1, c2⟩, _⟩ := HB.out.1.c3; have hm2 := HM.out.2.1
 go_region_held3 (fun w' => w'.cell? ⟨w.heap.size, 2, none⟩ = some (.slice q m c)) (first | exact c2 | exact hc3) ((refine step_copy_body rfl (.tmp 7) (.tmp 9) rfl rfl HB'.out rfl HY'.out hm2 ?_; intro W3 hb3 ho3; have hc3 := HCC.out W3 ho3))
 have HB3 : Hid (Blk W3 w.heap.size TPc #[.int .u64 (k : Int), .int .u64 (ep : Int), .slice q m c] ∧ Blk W3 (w.heap.size + 1) TS (sec Sec.zero) ∧ Blk W3 (w.heap.size + 1 + 1) TB2 (bya (padTo 232 b)) ∧ Gr w W3) := Lib.hid ⟨(HB.out.1.heap rfl).stays (ho3.block _ (by omega)), (HB.out.2.1.heap rfl).stays (ho3.block _ (by omega)), hb3, ho3.below HB.out.2.2.2.drew (by omega)⟩; clear hb3 ho3 HB' HBd HY' c0 c1 c2 hm2 HW; have HB := HB3; have HWo : Hid ((∀ W, Calls Tryz.prog 114 #[.int .u64 (k : Int), .int .i64 8] W (RetByte (Wd.enc 8 k) W)) ∧ (∀ W, Calls Tryz.prog 114 #[.int .u64 (ep : Int), .int .i64 8] W (RetByte (Wd.enc 8 ep) W)) ∧ ∀ W, Calls Tryz.prog 114 #[.int .u64 (m : Int), .int .i64 4] W (RetByte (Wd.enc 4 m) W)) := Lib.hid ⟨fun W => wword_fit k 8 W (fitK (by omega) (by omega) (by omega)), fun W => wword_fit ep 8 W (fitK (by omega) (by omega) (by omega)), fun W => wword_fit m 4 W (fitK (by omega) (by omega) (by omega))⟩
 have HJ : Hid (∀ pr nr cr W, Rows W pr nr cr [Wd.enc 8 k, Wd.enc 8 ep, Wd.enc 4 m] → Calls Tryz.prog 94 #[.slice pr nr cr] W (RetByte (headL k ep m) W)) := Lib.hid fun pr nr cr W hr => by
  have h := join_any pr nr cr _ W hr (by simp [tot, Wd.enc_length])
  simpa [headL] using h
 have HYB : Hid (∀ W, Gr W3 W → Byt W (some ⟨w.heap.size + 1 + 1, 0, none⟩) 232 232 (padTo 232 b)) := Lib.hid fun W gr => (HB3.out.2.2.1.gr gr).bya (padTo_len (by rw [HM.out.2.2]; exact HM.out.2.1)) (by omega) (padTo_small HY.out.small)
 clear hk he hm; go_wp2_with fail; refine Flow.region (SlSa w.heap.size k ep q m c) (Gr W3) Gr (by kernel_rfl) (by kernel_rfl) (fun _ _ _ _ h g => slSa_gr h g) ⟨rfl, rfl, rfl, Nat.le_refl _, fun _ _ => rfl⟩ ?steps ?fin
 case steps =>
  refine .cons (fun a W hfr hinv hdep K hK => ?_) ?_
  · have t1 := tAt (.pointer (some ⟨w.heap.size, 0, none⟩)) (hfr.at 1 (by kernel_rfl)); refine fW0 rfl ?_; clear hfr hdep; go_simp; exact hK _ _ (Gr.refl _) hinv (dsT (by trivial))
  refine .cons (fun a W hfr hinv hdep K hK => ?_) ?_
  · have t11 := tAt (.pointer (some ⟨w.heap.size, 0, none⟩)) (hdep 11 (by kernel_rfl)); obtain ⟨⟨c0, c1, c2⟩, _⟩ := (HB.out.1.gr hinv).c3; refine fW0 rfl ?_; clear hfr hdep; go_simp; exact hK _ _ (Gr.refl _) hinv (dsT (by trivial))
  refine .cons (fun a W hfr hinv hdep K hK => ?_) ?_
  · have t12 := tAt (.int .u64 (k : Int)) (hdep 12 (by kernel_rfl)); refine fW0 rfl ?_; clear hfr hdep; go_simp; refine (HWo.out.1 W).mono ?_; rintro e W' ⟨q1, m1, c1, rfl, hy, g1, hf⟩; exact hK _ _ g1 (Gr.trans hinv g1) (fun d hd => by cases hd; exact ⟨_, _, _, rfl, hy⟩)
  refine .cons (fun a W hfr hinv hdep K hK => ?_) ?_
  · have t1 := tAt (.pointer (some ⟨w.heap.size, 0, none⟩)) (hfr.at 1 (by kernel_rfl)); refine fW0 rfl ?_; clear hfr hdep; go_simp; exact hK _ _ (Gr.refl _) hinv (dsT (by trivial))
  refine .cons (fun a W hfr hinv hdep K hK => ?_) ?_
  · have t14 := tAt (.pointer (some ⟨w.heap.size, 1, none⟩)) (hdep 14 (by kernel_rfl)); obtain ⟨⟨c0, c1, c2⟩, _⟩ := (HB.out.1.gr hinv).c3; refine fW0 rfl ?_; clear hfr hdep; go_simp; exact hK _ _ (Gr.refl _) hinv (dsT (by trivial))
  refine .cons (fun a W hfr hinv hdep K hK => ?_) ?_
  · have t15 := tAt (.int .u64 (ep : Int)) (hdep 15 (by kernel_rfl)); refine fW0 rfl ?_; clear hfr hdep; go_simp; refine (HWo.out.2.1 W).mono ?_; rintro e W' ⟨q1, m1, c1, rfl, hy, g1, hf⟩; exact hK _ _ g1 (Gr.trans hinv g1) (fun d hd => by cases hd; exact ⟨_, _, _, rfl, hy⟩)
  refine .cons (fun a W hfr hinv hdep K hK => ?_) ?_
  · have t1 := tAt (.pointer (some ⟨w.heap.size, 0, none⟩)) (hfr.at 1 (by kernel_rfl)); refine fW0 rfl ?_; clear hfr hdep; go_simp; exact hK _ _ (Gr.refl _) hinv (dsT (by trivial))
  refine .cons (fun a W hfr hinv hdep K hK => ?_) ?_
  · have t17 := tAt (.pointer (some ⟨w.heap.size, 2, none⟩)) (hdep 17 (by kernel_rfl)); obtain ⟨⟨c0, c1, c2⟩, _⟩ := (HB.out.1.gr hinv).c3; refine fW0 rfl ?_; clear hfr hdep; go_simp; exact hK _ _ (Gr.refl _) hinv (dsT (by trivial))
  refine .cons (fun a W hfr hinv hdep K hK => ?_) ?_
  · have t18 := tAt (.slice q m c) (hdep 18 (by kernel_rfl)); refine fW0 rfl ?_; clear hfr hdep; go_simp; exact hK _ _ (Gr.refl _) hinv (dsT (by trivial))
  refine .cons (fun a W hfr hinv hdep K hK => ?_) ?_
  · have t19 := tAt (.int .i64 m) (hdep 19 (by kernel_rfl)); have hw := HM.out; refine fW0 rfl ?_; clear hfr hdep; go_simp; exact hK _ _ (Gr.refl _) hinv (dsT (by trivial))
  refine .cons (fun a W hfr hinv hdep K hK => ?_) ?_
  · have t20 := tAt (.int .u64 (m : Int)) (hdep 20 (by kernel_rfl)); refine fW0 rfl ?_; clear hfr hdep; go_simp; refine (HWo.out.2.2 W).mono ?_; rintro e W' ⟨q1, m1, c1, rfl, hy, g1, hf⟩; exact hK _ _ g1 (Gr.trans hinv g1) (fun d hd => by cases hd; exact ⟨_, _, _, rfl, hy⟩)
  refine .cons (fun a W hfr hinv hdep K hK => ?_) ?_
  · have s13 : IsB W (a.tmps.getD 13 undef) (Wd.enc 8 k) := hdep 13 (by kernel_rfl); have s16 : IsB W (a.tmps.getD 16 undef) (Wd.enc 8 ep) := hdep 16 (by kernel_rfl); have s21 : IsB W (a.tmps.getD 21 undef) (Wd.enc 4 m) := hdep 21 (by kernel_rfl); refine fW0 rfl ?_; clear hfr hdep; obtain ⟨p0, n0, c0, s13, h0⟩ := s13; have t13 := tmpAt s13; obtain ⟨p1, n1, c1, s16, h1⟩ := s16; have t16 := tmpAt s16; obtain ⟨p2, n2, c2, s21, h2⟩ := s21; have t21 := tmpAt s21; go_simp; exact hK _ _ ((Gr.refl W).alloc (Nat.le_refl _) _) (hinv.alloc hinv.size _) (fun d hd => by cases hd; exact ⟨_, _, _, rfl, Rows.three h0 h1 h2 rfl⟩)
  refine .cons (fun a W hfr hinv hdep K hK => ?_) ?_
  · have s22 : IsRows W (a.tmps.getD 22 undef) [Wd.enc 8 k, Wd.enc 8 ep, Wd.enc 4 m] := hdep 22 (by kernel_rfl); refine fW0 rfl ?_; clear hfr hdep; obtain ⟨pr, nr, cr, s22, hr⟩ := s22; have t22 := tmpAt s22; go_simp; refine (HJ.out pr nr cr W hr).mono ?_; rintro e W' ⟨q1, m1, c1, rfl, hy, g1, hf⟩; exact hK _ _ g1 (Gr.trans hinv g1) (fun d hd => by cases hd; exact ⟨_, _, _, rfl, hy⟩)
  refine .cons (fun a W hfr hinv hdep K hK => ?_) ?_
  · have s23 : IsB W (a.tmps.getD 23 undef) (headL k ep m) := hdep 23 (by kernel_rfl); refine fW0 rfl ?_; clear hfr hdep; obtain ⟨pr, nr, cr, s23, hr⟩ := s23; have t23 := tmpAt s23; go_simp; exact hK _ _ (Gr.refl _) hinv (fun d hd => by cases hd; exact ⟨_, _, _, rfl, hr⟩)
  exact True.intro
 case fin =>
  intro a W hfr hfin hsl
  obtain ⟨kp4, kn4, kc4, s4, kh4⟩ : IsB W (a.tmps.getD 4 undef) (headL k ep m) := hsl 13 _ 4 rfl rfl; have t4 := tmpAt s4; have e := Flow.frame hfr [11, 12, 13, 14, 15, 16, 17, 18, 19, 20, 21, 22, 23, 4] (List.range 38) (by kernel_rfl) (by kernel_rfl)
  simp [List.range, List.range.loop] at e
  rw [t4] at e
  rw [e]; clear e hfr hsl s4 t4
  first
   | (rename_i hB; refine hB _ _ ?_)
   | (rename_i hB y0; refine hB _ _ ?_)
   | (rename_i hB y0 y1; refine hB _ _ ?_)
   | (rename_i hB y0 y1 y2; refine hB _ _ ?_)
   | (rename_i hB y0 y1 y2 y3; refine hB _ _ ?_)
   | (rename_i hB y0 y1 y2 y3 y4; refine hB _ _ ?_)
   | (rename_i hB y0 y1 y2 y3 y4 y5; refine hB _ _ ?_)
   | (rename_i hB y0 y1 y2 y3 y4 y5 y6; refine hB _ _ ?_)
  have HB5 : Hid (Blk W (w.heap.size + 1) TS (sec Sec.zero) ∧ Gr w W ∧ Gr W3 W) := Lib.hid ⟨HB3.out.2.1.gr hfin, Gr.trans HB3.out.2.2.2 hfin, hfin⟩; have HH := Lib.hid kh4; clear hfin kh4 HWo HJ HB; obtain ⟨T, hT⟩ : ∃ T, T = sumW (headL k ep m ++ padTo 232 b) := ⟨_, rfl⟩
  have HSU : Hid (∀ p n c W, Rows W p n c [headL k ep m, padTo 232 b] → Calls Tryz.prog 115 #[.slice p n c] W fun e w' => e = .returned (.int .u32 (U T)) ∧ Gr W w') := Lib.hid fun p n c W hr => by
   have h := sum_any p n c _ W hr; rw [hT]
   simpa using h
  have hw : IntKind.u64.wrap (U T) = ((T.toNat : Nat) : Int) := by
   have := T.isLt; rw [IntKind.wrap_u64]; unfold U; omega
  have HWf : Hid (∀ W, Calls Tryz.prog 114 #[.int .u64 ((T.toNat : Nat) : Int), .int .i64 4] W (RetByte (Wd.enc 4 T.toNat) W)) := Lib.hid fun W => wword_fit T.toNat 4 W (fitK (by omega) (by omega) (by have := T.isLt; omega))
  have HSec : Hid (secL k ep b = headL k ep m ++ (Wd.enc 4 T.toNat ++ padTo 232 b) ∧ IsSec (secL k ep b)) := Lib.hid ⟨by unfold secL; rw [HM.out.2.2, hT, List.append_assoc], secL_sec (by rw [HM.out.2.2]; exact HM.out.2.1) HY.out.small⟩; clear hT; go_wp2_with fail; refine (HSU.out _ _ _ _ (Rows.two HH.out (HYB.out _ HB5.out.2.2) rfl)).mono ?_; rintro e W5 ⟨rfl, g5⟩; have HG5 := Lib.hid (grow1 g5); clear g5; go_wp2_with fail; refine (HWf.out W5).mono ?_; rintro e W6 ⟨q6, n6, c6, rfl, hy6, g6, f6⟩; have HG6 := Lib.hid (Gr.trans HG5.out g6); have HY6 := Lib.hid hy6; have HZ := Lib.hid (Blk.new W6 TS (sec Sec.zero)); obtain ⟨W7, hW7⟩ : ∃ W7, W7 = W6.alloc (.cells (sec Sec.zero) TS) := ⟨_, rfl⟩; have HG7 : Hid (Gr W W7 ∧ Blk W7 W6.heap.size TS (sec Sec.zero) ∧ W7.heap.size = W6.heap.size + 1 ∧ Gr W6 W7) := Lib.hid (by rw [hW7]; exact ⟨Gr.trans HG6.out (Gr.new _ _), Blk.new _ _ _, by simp, Gr.new _ _⟩); have hW7' : W6.alloc (.cells (sec Sec.zero) 46) = W7 := hW7.symm; have HW7 := Lib.hid hW7'; have HS7 : Hid (W3.heap.size ≤ W6.heap.size ∧ w.heap.size + 1 < W6.heap.size) := Lib.hid ⟨Nat.le_trans HB5.out.2.2.size HG6.out.size, Nat.lt_of_lt_of_le HB5.out.1.lt HG6.out.size⟩; clear hy6 g6 f6 hW7 hW7' HZ hw HWf HSU; go_wp2_with fail; rw [HW7.out]
  have HJ : Hid (∀ p n c W, Rows W p n c [headL k ep m, Wd.enc 4 T.toNat, padTo 232 b] → Calls Tryz.prog 94 #[.slice p n c] W (RetByte (secL k ep b) W)) := Lib.hid fun p n c W hr => by
   have h := join_any p n c _ W hr (by simp [tot, Wd.enc_length, headL_len, padTo_len (show b.length ≤ 232 by rw [HM.out.2.2]; exact HM.out.2.1)]); rw [HSec.out.1]
   simpa using h
  have HJ3 : Hid (Calls Tryz.prog 94 #[.slice (some ⟨W7.heap.size, 0, none⟩) 3 3] (W7.alloc (.cells #[.slice kp4 kn4 kc4, .slice q6 n6 c6, .slice (some ⟨w.heap.size + 1 + 1, 0, none⟩) 232 232] 31)).drew fun e W8 => ∃ q8 c8, e = .returned (.slice q8 256 c8) ∧ Hid (Byt W8 q8 256 c8 (secL k ep b)) ∧ Hid (Blk W8 W6.heap.size TS (sec (Sx (List.replicate 256 0))) ∧ Gr w W8 ∧ Blk W8 (w.heap.size + 1) TS (sec Sec.zero))) := Lib.hid (by
   have gV : Gr W7 (W7.alloc (.cells #[.slice kp4 kn4 kc4, .slice q6 n6 c6, .slice (some ⟨w.heap.size + 1 + 1, 0, none⟩) 232 232] 31)).drew := (Gr.new W7 _).drew; refine (HJ.out _ _ _ _ (Rows.three (W := (W7.alloc (.cells #[.slice kp4 kn4 kc4, .slice q6 n6 c6, .slice (some ⟨w.heap.size + 1 + 1, 0, none⟩) 232 232] 31)).drew) (HH.out.kept HG7.out.1) (HY6.out.kept HG7.out.2.2.2) (HYB.out _ (Gr.trans HB5.out.2.2 HG7.out.1)) rfl)).mono ?_; rintro e W8 ⟨q8, n8, c8, rfl, hy8, g8, f8⟩
   have hn : n8 = 256 := by have h1 := hy8.len; have h2 := HSec.out.2.len; omega
   subst hn; have g78 := Gr.trans gV g8
   exact ⟨q8, c8, rfl, Lib.hid hy8, Lib.hid ⟨by rw [Sx_zero]; exact HG7.out.2.1.gr g78, Gr.trans (Gr.trans HB5.out.2.1 HG7.out.1) g78, HB5.out.1.gr (Gr.trans HG7.out.1 g78)⟩⟩)
  have HLAY : Hid (lay (List.replicate 256 0) 0 (secL k ep b) = secL k ep b) := Lib.hid (lay_zero HSec.out.2.len)
  have h1a : 0 < 256 := by decide
  have h1b : 256 ≤ 256 := Nat.le_refl _; have h1c : 0 + 256 ≤ 256 := Nat.le_refl _; clear HJ HH HY6 HYB
  go_region_held3 (fun _ => True) (exact True.intro) (first
   | (go_at_call 94; refine HJ3.out.mono ?_; rintro e W8 ⟨q8, c8, rfl, HY8, HB8⟩)
   | (refine step_copy_sec rfl (.tmp 30) (.tmp 35) rfl rfl HB8.out.1 zeros_sec rfl HY8.out h1a h1b h1c ?_; rw [HLAY.out]))
  have HB9 : Hid (Blk (W8.setRow W6.heap.size (sec (Sx (secL k ep b)))) W6.heap.size TS (sec (Sx (secL k ep b))) ∧ Blk (W8.setRow W6.heap.size (sec (Sx (secL k ep b)))) (w.heap.size + 1) TS (sec Sec.zero) ∧ Gr w (W8.setRow W6.heap.size (sec (Sx (secL k ep b))))) := Lib.hid ⟨HB8.out.1.row _, HB8.out.2.2.other (by have := HS7.out.2; omega), below_setRow HB8.out.2.1 (by have := HS7.out.2; omega) _⟩; clear HB8
  go_wp2_with (first | (refine wpList_load_x rfl (.tmp 6) rfl HB9.out.1 rfl ?_) | (refine wpList_store_x rfl (.tmp 2) (.tmp 37) rfl HB9.out.2.1 rfl rfl ?_))
  exact bodyPost_ret (results_x rfl _ _ _ _ rfl (HB9.out.2.1.row _)) rfl ⟨rfl, below_setRow HB9.out.2.2 (by omega) _⟩
end Go.Proofs.YtlijbgapkmfnaaaGreat
namespace Go.Proofs.YtlijbgapkmfnaaaGreat
open Go.RowKit
theorem rof_any (p : Option Addr) (n c : Nat) (xs : List Int) (w : World) (h : Byt w p n c xs) (h8 : n ≤ 8) : Calls Tryz.prog 88 #[.slice p n c] w fun e w' => e = .returned (.int .u64 (Wd.dec xs)) ∧ w = w' := by
 have hlen := h.len; have hsm := Lib.hid h.small
 rcases Nat.eq_zero_or_pos n with rfl | hn
 ·
  obtain rfl : xs = [] := List.eq_nil_of_length_eq_zero hlen
  go_enter Tryz.func88, Tryz.ntmps88
  go_wp2
  go_rounds 1
  go_ret
  exact ⟨rfl, rfl⟩
 ·
  obtain ⟨b, o, rfl, hc⟩ := h.at hn
  have Hlen := Lib.hid hlen; have Hc := Lib.hid hc; clear hc hlen h
  go_enter Tryz.func88, Tryz.ntmps88
  go_wp2
  go_loop [3, 4] (fun t i => ∃ k : Nat, k ≤ n ∧ i = .int .i64 ((k : Int) - 1) ∧ t = .int .u64 (Wd.dec (xs.drop k))) (fun _ i => (intOf i + 1).toNat)
  case atStart => exact ⟨n, Nat.le_refl _, by go_num, by rw [List.drop_eq_nil_of_le (by rw [Hlen.out]; exact Nat.le_refl _)]; rfl⟩
  case round =>
   obtain ⟨k, hk, rfl, rfl⟩ := hrel
   by_cases hlt : 0 < k
   ·
    obtain ⟨j, rfl⟩ : ∃ j, k = j + 1 := ⟨k - 1, by omega⟩; rw [show ((j + 1 : Nat) : Int) - 1 = (j : Int) by omega]; have hcell : w.cell? ⟨b, o + j, none⟩ = some (.int .u8 (xs.getD j 0)) := Hc.out j (by omega); have hs := hsm.out.getD j; have hst := Wd.dec_drop xs j (by rw [Hlen.out]; omega)
    have hlt2 : Wd.dec (xs.drop (j + 1)) < 72057594037927936 := by
     have h1 := Wd.dec_lt _ (hsm.out.drop (j + 1))
     have h2 : (xs.drop (j + 1)).length ≤ 7 := by rw [List.length_drop, Hlen.out]; omega
     have h3 := Wd.pow_lt _ h2
     omega
    generalize hx : xs.getD j 0 = x at *
    generalize hy : Wd.dec (xs.drop (j + 1)) = y at *
    have Hst := Lib.hid hst; clear hst hx hy; obtain ⟨X, rfl⟩ := Int.eq_ofNat_of_zero_le hs.1; have hs2 : (X : Int) < 256 := hs.2; clear hs
    go_wp2
    go_round
    case rel => exact ⟨j, by omega, by go_num, congrArg (Value.int .u64) (by rw [Hst.out]; simp; omega)⟩
    case measure => simp [intOf]
   ·
    obtain rfl : k = 0 := by omega
    go_wp2
    go_ret
    exact ⟨rfl, rfl⟩
end Go.Proofs.YtlijbgapkmfnaaaGreat
namespace Go.Proofs.YtlijbgapkmfnaaaGreat
open Go.RowKit
theorem zeroCells_u8 (k : Nat) : Builtin.zeroCells (Value.int .u8 0).cells k = ((List.replicate k (0 : Int)).map (Value.int .u8)).toArray := by
 unfold Builtin.zeroCells
 apply Array.ext
 · simp [Value.cells]
 ·
  intro i h1 h2
  simp [Value.cells, Nat.mod_one]
theorem small_zeros (k : Nat) : Wd.Small (List.replicate k (0 : Int)) := fun x h => by
 rw [List.mem_replicate] at h
 omega
theorem run_app_zeros {P : Program} {tS tB tn : TypeId} (T : BT P tS tB) (htn : P.underlying tn = some (.int .i64)) {w : World} {ty : TypeId} {base : Nat} {v : Value} {xs : List Int} (h : OwnB w base tB v xs) (k : Nat) (hb : xs.length + k ≤ 140737488355328) (hbase : base ≤ w.heap.size) :
  ∃ v' w', (Builtin.append_ #[tS, tn] ty #[v, .int .i64 (k : Int)]).run P w = .ok v' w' ∧ OwnB w' base tB v' (xs ++ List.replicate k 0) ∧ w.grownBy w' v.ownBlock ∧ (v'.ownBlock = v.ownBlock ∨ v'.ownBlock = some w.heap.size) := by
 obtain ⟨i, hi, hz0, hz1, hz2⟩ := info_parts T.info
 have hw : IntKind.i64.wrap (k : Int) = k := by rw [IntKind.wrap_i64]; omega
 have hneg : ¬ ((k : Int) < 0) := by omega
 have h48 : ¬ (281474976710656 < (k : Int)) := by omega
 by_cases hk : k = 0
 ·
  subst hk
  have hw0 : IntKind.i64.wrap 0 = 0 := by decide
  rcases h.row.2 with ⟨rfl, hn⟩ | ⟨g, cap, cur, rfl, hbg, hg, hnc, hcm, hcs, htake⟩
  ·
   refine ⟨_, w, ?_, by simpa using h, ⟨rfl, rfl, rfl, Nat.le_refl _, fun _ _ _ => rfl⟩, .inl rfl⟩
   simp [Builtin.append_, run_underlying T.us, run_underlying htn, sizeOf, typeInfo, hi, hz1, hz2, asInt, asIntOf, hw0]
  ·
   refine ⟨_, w, ?_, by simpa using h, ⟨rfl, rfl, rfl, Nat.le_refl _, fun _ _ _ => rfl⟩, .inl rfl⟩
   simp [Builtin.append_, run_underlying T.us, run_underlying htn, sizeOf, typeInfo, hi, hz1, hz2, asInt, asIntOf, hw0, hnc, storeCells]
 ·
  have hs := h.small.app (small_zeros k)
  have hlen : ((xs ++ List.replicate k (0 : Int)).map (Value.int .u8)).length = (xs ++ List.replicate k (0 : Int)).length * 1 := by simp
  have grown : ∀ (old : Nat) (row : Option Nat), old < xs.length + k →
    OwnB (w.drew.alloc (.cells ((xs.map (Value.int .u8)).toArray ++ Builtin.zeroCells (Value.int .u8 0).cells k ++ Builtin.zeroCells (Value.int .u8 0).cells (grownCap w (xs.length + k) old tB - (xs.length + k))) tB)) base tB
     (.slice (some ⟨w.heap.size, 0, none⟩) (xs.length + k) (grownCap w (xs.length + k) old tB)) (xs ++ List.replicate k 0) ∧
    w.grownBy (w.drew.alloc (.cells ((xs.map (Value.int .u8)).toArray ++ Builtin.zeroCells (Value.int .u8 0).cells k ++ Builtin.zeroCells (Value.int .u8 0).cells (grownCap w (xs.length + k) old tB - (xs.length + k))) tB)) row := fun old row ho => by
   have hge := grownCap_ge w (xs.length + k) old tB; have hcm : grownCap w (xs.length + k) old tB ≤ maxLen := grownCap_le_maxLen w (xs.length + k) old tB (by unfold maxLen; omega); refine ⟨⟨⟨hlen, .inr ⟨w.heap.size, grownCap w (xs.length + k) old tB, _, by simp, hbase, heap_alloc_new w.drew _, by simpa using hge, hcm, ?_, ?_⟩⟩, hs⟩, ⟨rfl, rfl, rfl, by simp, fun j hj _ => heap_alloc_old w.drew _ hj⟩⟩
   ·
    simp only [Array.size_append, List.size_toArray, size_zeroCells, List.length_map]
    simp [Value.cells]
    omega
   ·
    rw [zeroCells_u8]
    simp only [Array.toList_append, List.append_assoc]
    rw [← List.append_assoc, ← List.map_append, ← hlen]; exact List.take_left
  rcases h.row.2 with ⟨rfl, hn⟩ | ⟨g, cap, cur, rfl, hbg, hg, hnc, hcm, hcs, htake⟩
  ·
   obtain rfl : xs = [] := List.eq_nil_of_length_eq_zero hn; have hr := Lib.run_append_nil_zeros (P := P) w tS tn ty tB i (.int .u8 0) .i64 .i64 T.us htn hi hz0 k (by omega) (by omega) (by omega) (by rw [hz2]; omega); have hg := grown 0 (Value.ownBlock (.slice none 0 0)) (by simp; omega)
   simp only [List.length_nil, Nat.zero_add, List.map_nil, List.nil_append] at hg ⊢
   exact ⟨_, _, hr, by simpa using hg.1, by simpa using hg.2, .inr rfl⟩
  ·
   by_cases hroom : xs.length + k ≤ cap
   ·
    have hst := run_storeCells_at P g (xs.length * 1) tB ((List.replicate k (0 : Int)).map (Value.int .u8)) 0 cur w hg (by simp; omega) (u8s_oneCell _)
    simp only [Nat.add_zero] at hst
    have hr : (Builtin.append_ #[tS, tn] ty #[.slice (some ⟨g, 0, none⟩) xs.length cap, .int .i64 (k : Int)]).run P w = .ok (.slice (some ⟨g, 0, none⟩) (xs.length + k) cap) (w.setRow g (cur.toList.take (xs.length * 1) ++ (List.replicate k (0 : Int)).map (Value.int .u8) ++ cur.toList.drop (xs.length * 1 + ((List.replicate k (0 : Int)).map (Value.int .u8)).length)).toArray) := by
     have hzc := zeroCells_u8 k
     simp only [Nat.mul_one] at hst ⊢
     simp [Builtin.append_, run_underlying T.us, run_underlying htn, sizeOf, typeInfo, zeroValue, hi, hz0, hz1, hz2, asInt, asIntOf, hw, hneg, h48, hroom, hk, Addr.add_lit, hzc] at hst ⊢
     rw [hst]
     rfl
    refine ⟨_, _, hr, ⟨⟨hlen, .inr ⟨g, cap, _, by simp, hbg, setRow_heap w g cur _ tB _ hg, by simpa using hroom, hcm, ?_, ?_⟩⟩, hs⟩, ⟨rfl, rfl, rfl, by simp, fun j _ hj => setRow_other w g j _ (fun e => hj (by simp [Value.ownBlock, e]))⟩, .inl rfl⟩
    ·
     simp only [List.size_toArray, List.length_append, List.length_take, List.length_drop, Array.length_toList, List.length_map, List.length_replicate]
     omega
    ·
     simp only [Nat.mul_one] at htake ⊢
     rw [htake, ← List.map_append]; rw [show (xs ++ List.replicate k (0 : Int)).length = ((xs ++ List.replicate k (0 : Int)).map (Value.int .u8)).length by simp]; exact List.take_left
   · have holds : ∀ j u, (xs.map (Value.int .u8))[j]? = some u → w.drew.cell? ((⟨g, 0, none⟩ : Addr).add j) = some u := h.row.cells (g := g) rfl; have hfc := run_firstCells_some (P := P) w.drew i.size xs.length ⟨g, 0, none⟩ xs.length cap (xs.map (Value.int .u8)) (by rw [List.length_map, hz1, Nat.mul_one]) holds; have hr := Lib.run_append_grow_zeros (P := P) w tS tn ty tB i (.int .u8 0) .i64 .i64 T.us htn hi hz0 (some ⟨g, 0, none⟩) xs.length cap (xs.map (Value.int .u8)) hfc k (by omega) (by omega) (by omega) (by omega) (by rw [hz2]; omega) (growslice_fits (by omega) (by rw [hz2]; omega)); have hgr := grown cap (Value.ownBlock (.slice (some ⟨g, 0, none⟩) xs.length cap)) (by omega); exact ⟨_, _, hr, hgr.1, hgr.2, .inr rfl⟩
theorem wpList_app_zeros {P : Program} {tS tB tn : TypeId} (T : BT P tS tB) (htn : P.underlying tn = some (.int .i64)) {w : World} {ops : Array Oper} {rest : List Oper} {o : Oper} {a : Act} {Q : Exit → Act → World → Prop} (hgd : o.guard = none) (s x : Operand)
  (ho : o.op = .call { callee := .builtin .append, args := #[s, x], argTypes := #[tS, tn] }) (base : Nat) (v : Value) (xs : List Int) (hs : a.eval s = v) (h : OwnB w base tB v xs) (k : Nat) (hx : a.eval x = .int .i64 (k : Int)) (hb : xs.length + k ≤ 140737488355328) (hbase : base ≤ w.heap.size)
  (hQ : ∀ v' w', OwnB w' base tB v' (xs ++ List.replicate k 0) → w.grownBy w' v.ownBlock → (v'.ownBlock = v.ownBlock ∨ v'.ownBlock = some w.heap.size) → wpList P ops Q rest (a.put o.dst v') w') : wpList P ops Q (o :: rest) a w := by
 obtain ⟨v', w', hr, h1, h2, h3⟩ := run_app_zeros T htn (ty := o.type) h k hb hbase; exact Lib.wpList_append_run w hgd s x tS tn ho v _ hs hx v' w' hr (hQ v' w' h1 h2 h3)
end Go.Proofs.YtlijbgapkmfnaaaGreat
namespace Go.Proofs.YtlijbgapkmfnaaaGreat
open Go.RowKit Cr
theorem rle_own (n k : Nat) (w : World) (hn : n ≤ 18446744073709551615) (hk : k ≤ 8) : Calls Tryz.prog 68 #[.int .u64 n, .int .i64 k] w (RetOwn 5 (Wd.enc k n) w) := by
 go_enter Tryz.func68, Tryz.ntmps68
 go_wp2
 go_loopw [5, 6] (fun v i wr => ∃ (j : Nat) (p : Option Addr) (c : Nat), j ≤ k ∧ i = .int .i64 j ∧ v = .slice p j c ∧ Hid (OwnB wr w.heap.size 5 (.slice p j c) (Wd.enc j n)) ∧ Hid (Below w.heap.size w wr))
  (fun _ i _ => k - (intOf i).toNat)
 case atStart => exact ⟨0, none, 0, Nat.zero_le _, rfl, rfl, OwnB.nil _ _ _, Below.refl _ _⟩
 case round =>
  obtain ⟨j, p, c, hj, rfl, rfl, ho, hb⟩ := hrel; have hsn := Lib.hid (Wd.enc_snoc j n); have hl := Lib.hid (Wd.enc_length j n); have hbs := hb.out.size; have hby := Lib.hid (byte_shr n j)
  by_cases hlt : j < k
  ·
   go_wp2_with (at_builtin; refine wpList_app_byt bt rfl (.tmp 12) (.tmp 19) rfl w.heap.size _ _ rfl (ho.out.alloc _) (some ⟨wr.heap.size, 0, none⟩) 1 1 [((n / 256 ^ j % 256 : Nat) : Int)] rfl ?h1 ?h2 ?h3 ?_)
   case h1 => rw [← hby.out]; simpa using Byt.one wr (((n : Int) / 2 ^ (8 * j)) % 256) 5 (by omega)
   case h2 => rw [hl.out]; omega
   case h3 => simp; omega
   intro v' w' own grow
   have HO := Lib.hid (own.as (ys := Wd.enc (j + 1) n) (by rw [hsn.out]; simp)); have HB : Hid (Below w.heap.size w w') := Below.app (hb.out.alloc hbs _) (by simp; omega) (ho.out.alloc _) grow; obtain ⟨p', c', hv⟩ := HO.out.shape (j + 1) (Wd.enc_length _ _); subst hv
   clear own grow hby
   go_wp2
   go_roundw
   case rel => exact ⟨j + 1, p', c', by omega, by go_num, rfl, HO, HB⟩
   case measure => simp [intOf]; omega
  ·
   obtain rfl : j = k := by omega
   go_wp2
   go_ret
   exact ⟨_, rfl, ho.out, hb.out⟩
structure Sc (w : World) (B : Nat) (Z : List Int) (W : World) : Prop where
 gr : Gr w W
 s : Blk W w.heap.size TS (sec (Sx Z))
 sz : B ≤ W.heap.size
 lt : w.heap.size < B
theorem Sc.up {w : World} {B : Nat} {Z : List Int} {W W' : World} (h : Sc w B Z W) (g : Gr W W') : Sc w B Z W' := ⟨Gr.trans h.gr g, h.s.gr g, Nat.le_trans h.sz g.size, h.lt⟩
theorem Sc.app {w : World} {B : Nat} {Z : List Int} {W W' : World} (h : Sc w B Z W) {row : Option Nat} (g : W.grownBy W' row) (hr : ∀ k, row = some k → B ≤ k) : Sc w B Z W' :=
 ⟨Below.grown h.gr g h.gr.size (fun k e => by have := hr k e; have := h.lt; omega), h.s.stays (g.block _ h.s.lt (fun e => by have := hr _ e.symm; have := h.lt; omega)), Nat.le_trans h.sz g.size, h.lt⟩
theorem own_not_blk {w : World} {B T k n g : Nat} {v : Value} {xs : List Value} {t : TypeId} {cs : Array Value} (h : w.ownsRow B T k v n xs) (hb : Blk w g t cs) (ne : T ≠ t) : v.ownBlock ≠ some g := fun e1 => by
 rcases h.2 with ⟨rfl, _⟩ | ⟨b, cap, cur, rfl, _, hg, _⟩
 · simp [Value.ownBlock] at e1
 ·
  have q1 : b = g := by simpa [Value.ownBlock] using e1
  unfold Blk at hb
  rw [q1, hb] at hg
  simp only [Option.some.injEq, Obj.cells.injEq] at hg
  exact ne hg.2.1.symm
theorem OwnB.grown {w w' : World} {B tB : Nat} {v : Value} {xs : List Int} {row : Option Nat} (h : OwnB w B tB v xs) (g : w.grownBy w' row) (hr : ∀ k, row = some k → w.heap.size ≤ k ∨ v.ownBlock ≠ some k) : OwnB w' B tB v xs := by
 refine ⟨h.row.kept g ?_, h.small⟩
 cases e : v.ownBlock with
 | none => exact .inl rfl
 | some j =>
  refine .inr fun e2 => ?_
  rcases hr j e2.symm with h1 | h1
  ·
   have := (h.row.lt j e).2
   omega
  · exact h1 e
set_option maxRecDepth 100000 in
set_option maxHeartbeats 2000000 in
theorem rSector_any (k ep : Nat) (p : Option Addr) (m c : Nat) (b : List Int) (w : World) (hk : k ≤ 18446744073709551615) (he : ep ≤ 18446744073709551615) (hy : Byt w p m c b) (hm : m ≤ 232) :
  Calls Tryz.prog 48 #[.int .u64 (k : Int), .int .u64 (ep : Int), .slice p m c] w (RetSecX (secL k ep b) w) := by
 have hl := hy.len; have hz := zero_sec
 rw [← Sx_zero] at hz
 obtain ⟨Z, hZ⟩ : ∃ Z, Z = List.replicate 256 (0 : Int) := ⟨_, rfl⟩
 rw [← hZ] at hz
 obtain ⟨W0, hW0⟩ : ∃ W0, W0 = w.alloc (.cells (sec (Sx Z)) TS) := ⟨_, rfl⟩; have H0 : Hid (Blk W0 w.heap.size TS (sec (Sx Z)) ∧ Gr w W0 ∧ w.heap.size < W0.heap.size) := Lib.hid (by rw [hW0]; exact ⟨Blk.new _ _ _, Gr.new _ _, by simp⟩); have HW0 : Hid (w.alloc (.cells (sec (Sx Z)) 46) = W0) := Lib.hid hW0.symm; have HY := Lib.hid (fun W (g : Gr w W) => hy.kept g); have HHe : Hid (secL k ep b = headL k ep m ++ Wd.enc 4 (sumW (headL k ep m ++ padTo 232 b)).toNat ++ padTo 232 b) := Lib.hid (by unfold secL; rw [hl]); have HLb : Hid (b.length = m) := Lib.hid hl; have HPad : Hid (padTo 232 b = b ++ List.replicate (232 - m) 0 ∧ (padTo 232 b).length = 232) := Lib.hid ⟨by unfold padTo; rw [hl], by unfold padTo; rw [List.length_append, List.length_replicate]; omega⟩; have HL1 := Lib.hid (fun W => rle_own k 8 W hk (by omega)); have HL2 := Lib.hid (fun W => rle_own ep 8 W he (by omega)); have HL3 := Lib.hid (fun W => rle_own m 4 W (by omega) (by omega))
 have hw1 : IntKind.u64.wrap (m : Int) = (m : Int) := by rw [IntKind.wrap_u64]; omega
 have HZz := Lib.hid hz; have HZ : Hid (Z = List.replicate 256 (0 : Int)) := Lib.hid hZ; have HKe := Lib.hid (show k ≤ 18446744073709551615 ∧ ep ≤ 18446744073709551615 from ⟨hk, he⟩); clear hy hl hW0 hZ hk he; obtain ⟨d, hd⟩ : ∃ d, d = 232 - m := ⟨_, rfl⟩
 have hw2 : IntKind.i64.wrap (232 - (m : Int)) = (d : Int) := by rw [IntKind.wrap_i64]; omega
 have hwd : (232 : Int) - (m : Int) = (d : Int) := by omega
 rw [← hd] at HPad
 have HD := Lib.hid (show d + m = 232 by omega); have HSc : Hid (Sc w W0.heap.size Z W0) := Lib.hid ⟨H0.out.2.1, H0.out.1, Nat.le_refl _, H0.out.2.2⟩; clear H0 hd
 go_enter Tryz.func48, Tryz.ntmps48
 go_wp2_with fail; rw [HW0.out]; refine (HL1.out W0).mono ?_; rintro e W1 ⟨v1, rfl, ho1, g1⟩; have HO1 := Lib.hid ho1; have HS1 := Lib.hid (HSc.out.up g1); clear ho1 g1 hz HSc HL1; go_wp2_with fail; refine (HL2.out W1).mono ?_; rintro e W2 ⟨v2, rfl, ho2, g2⟩; obtain ⟨p2, c2, rfl⟩ := ho2.shape 8 (Wd.enc_length _ _); have HO2 := Lib.hid ho2; have HO12 := Lib.hid (HO1.out.below' g2); have HS2 := Lib.hid (HS1.out.up g2); clear ho2 g2 HO1 HS1 HL2
 go_wp2_with (at_builtin; refine wpList_app_byt bt rfl (.tmp 12) (.tmp 14) rfl W0.heap.size v1 (Wd.enc 8 k) rfl HO12.out p2 8 c2 (Wd.enc 8 ep) rfl HO2.out.byt.1 (by rw [Wd.enc_length]; omega) HS2.out.sz ?_; intro v3 W3 ho3 hg3; have HO3 := Lib.hid ho3; have HS3 := Lib.hid (HS2.out.app hg3 (fun k e => HO12.out.base k e)); clear ho3 hg3)
 refine (HL3.out W3).mono ?_; rintro e W4 ⟨v4, rfl, ho4, g4⟩; obtain ⟨p4, c4, rfl⟩ := ho4.shape 4 (Wd.enc_length _ _); have HO4 := Lib.hid ho4; have HO34 := Lib.hid (HO3.out.below' g4); have HS4 := Lib.hid (HS3.out.up g4); clear ho4 g4 HO3 HS3 HL3 HO12 HS2 HO2
 go_wp2_with (at_builtin; first
  | (refine wpList_app_byt bt rfl (.tmp 15) (.tmp 19) rfl W0.heap.size v3 (Wd.enc 8 k ++ Wd.enc 8 ep) rfl HO34.out p4 4 c4 (Wd.enc 4 m) rfl HO4.out.byt.1 (by rw [List.length_append, Wd.enc_length, Wd.enc_length]; omega) HS4.out.sz ?_; intro v5 W5 ho5 hg5; have ho5' : OwnB W5 W0.heap.size 5 v5 (headL k ep m) := ho5; obtain ⟨p5, c5, hv5⟩ := ho5'.shape 20 (headL_len _ _ _); subst hv5; have HO5 := Lib.hid ho5'; have HS5 := Lib.hid (HS4.out.app hg5 (fun k e => HO34.out.base k e)); have HB5 : Hid (W0.heap.size ≤ W5.heap.size) := Lib.hid HS5.out.sz; have HO5s : Hid (∀ k, (Value.slice p5 20 c5).ownBlock = some k → k < W5.heap.size) := Lib.hid (fun k e => (HO5.out.row.lt k e).2); clear ho5 ho5' hg5 HO34 HO4 HS4)
  | (refine wpList_app_byt bt rfl (.const (.slice none 0 0)) (.tmp 21) rfl W5.heap.size (.slice none 0 0) [] rfl (OwnB.nil _ _ _) p m c b rfl (HY.out W5 HS5.out.gr) (by simp; omega) (Nat.le_refl _) ?_; intro v6 W6 ho6 hg6; have ho6' : OwnB W6 W5.heap.size 5 v6 b := ho6; have HO6 := Lib.hid ho6'; have HS6 := Lib.hid (HS5.out.app hg6 (fun k e => by simp [Value.ownBlock] at e)); have HO56 := Lib.hid (HO5.out.grown hg6 (fun k e => by simp [Value.ownBlock] at e)); have HZ6 := Lib.hid hg6.size; clear ho6 ho6' hg6 HO5 HS5)
  | (refine wpList_app_zeros bt (by kernel_rfl) rfl (.tmp 22) (.tmp 25) rfl W5.heap.size v6 b rfl HO6.out d rfl (by have := HD.out; have := HLb.out; omega) HZ6.out ?_; intro v8 W8 ho8 hg8 _; have ho8' : OwnB W8 W5.heap.size 5 v8 (padTo 232 b) := HPad.out.1 ▸ ho8; obtain ⟨p8, c8, hv8⟩ := ho8'.shape 232 HPad.out.2; subst hv8; have HO8 := Lib.hid ho8'; have HO8s : Hid (∀ k, (Value.slice p8 232 c8).ownBlock = some k → k < W8.heap.size) := Lib.hid (fun k e => (HO8.out.row.lt k e).2); have HB58 : Hid (W5.heap.size ≤ W8.heap.size) := Lib.hid (Nat.le_trans HZ6.out hg8.size); have HB8 : Hid (W0.heap.size ≤ W8.heap.size) := Lib.hid (Nat.le_trans HB5.out HB58.out); have HS8 := Lib.hid (HS6.out.app hg8 (fun k e => Nat.le_trans HB5.out (HO6.out.base k e))); have HO58 := Lib.hid (HO56.out.grown hg8 (fun k e => .inr fun e2 => by have h1 := (HO5s.out _ e2); have h2 := HO6.out.base k e; omega)); clear ho8 ho8' hg8 HO6 HS6 HO56)
  | (refine wpList_app_byt bt rfl (.const (.slice none 0 0)) (.tmp 27) rfl W8.heap.size (.slice none 0 0) [] rfl (OwnB.nil _ _ _) p5 20 c5 (headL k ep m) rfl HO58.out.byt.1 (by simp) (Nat.le_refl _) ?_; intro v9 W9 ho9 hg9; have ho9' : OwnB W9 W8.heap.size 5 v9 (headL k ep m) := ho9; have HO9 := Lib.hid ho9'; have HS9 := Lib.hid (HS8.out.app hg9 (fun k e => by simp [Value.ownBlock] at e)); have HO59 := Lib.hid (HO58.out.grown hg9 (fun k e => by simp [Value.ownBlock] at e)); have HO89 := Lib.hid (HO8.out.grown hg9 (fun k e => by simp [Value.ownBlock] at e)); have HZ9 := Lib.hid hg9.size; clear ho9 ho9' hg9 HO58 HO8 HS8)
  | (refine wpList_app_byt bt rfl (.tmp 28) (.tmp 29) rfl W8.heap.size v9 (headL k ep m) rfl HO9.out p8 232 c8 (padTo 232 b) rfl HO89.out.byt.1 (by rw [headL_len]; omega) HZ9.out ?_; intro v10 W10 ho10 hg10; obtain ⟨p10, c10, hv10⟩ := ho10.shape 252 (by rw [List.length_append, headL_len, HPad.out.2]); subst hv10; have HLo : Hid (W8.heap.size ≤ W10.heap.size) := Lib.hid (Nat.le_trans HZ9.out hg10.size); have HO10 := Lib.hid ho10; have HS10 := Lib.hid (HS9.out.app hg10 (fun k e => Nat.le_trans HB8.out (HO9.out.base k e))); have HO5t := Lib.hid (HO59.out.grown hg10 (fun k e => .inr fun e2 => by have h1 := HO5s.out _ e2; have h2 := HO9.out.base k e; have h3 := HB58.out; omega)); have HO8t := Lib.hid (HO89.out.grown hg10 (fun k e => .inr fun e2 => by have h1 := HO8s.out _ e2; have h2 := HO9.out.base k e; omega)); clear ho10 hg10 HO59 HO89 HO9 HS9))
 refine (refSum_any _ _ _ _ _ HO10.out.byt.1).mono ?_; rintro e w2 ⟨rfl, rfl⟩; obtain ⟨s, hS⟩ : ∃ s, s = (sumW (headL k ep m ++ padTo 232 b)).toNat := ⟨_, rfl⟩
 have s1 : s < 4294967296 := by rw [hS]; exact (sumW (headL k ep m ++ padTo 232 b)).isLt
 rw [show U (sumW (headL k ep m ++ padTo 232 b)) = (s : Int) by rw [hS]; rfl]; have HSE : Hid (secL k ep b = headL k ep m ++ Wd.enc 4 s ++ padTo 232 b ∧ (headL k ep m ++ Wd.enc 4 s ++ padTo 232 b).length = 256) := Lib.hid ⟨by rw [HHe.out, hS], by rw [List.length_append, List.length_append, headL_len, Wd.enc_length, HPad.out.2]⟩; have HW64 : Hid (IntKind.u64.wrap (s : Int) = (s : Int)) := Lib.hid (by rw [IntKind.wrap_u64]; omega); have HZs : Hid (IsSec Z) := Lib.hid (by rw [HZ.out]; exact zeros_sec)
 obtain ⟨b8, o8, rfl, _⟩ := HO8t.out.byt.1.at (by omega)
 obtain ⟨W11, hW11⟩ : ∃ W11, W11 = W10.alloc (.cells (sec (Sx Z)) TS) := ⟨_, rfl⟩; have HW11 : Hid (W10.alloc (.cells (sec (Sx Z)) 46) = W11) := Lib.hid hW11.symm
 have g11 : Gr W10 W11.drew := by rw [hW11]; exact (Gr.new W10 _).drew
 have HS11 := Lib.hid (HS10.out.up g11); have HW10 : Hid (w.heap.size < W10.heap.size) := Lib.hid (Nat.lt_of_lt_of_le HS10.out.lt HS10.out.sz); have HO511 := Lib.hid (HO5t.out.below' g11); have HO811 := Lib.hid (HO8t.out.below' g11); have HB11 : Hid (Blk W11.drew W10.heap.size TS (sec (Sx Z)) ∧ W10.heap.size < W11.drew.heap.size) := Lib.hid (by rw [hW11]; exact ⟨(Blk.new W10 TS (sec (Sx Z))).heap rfl, by simp⟩); have HLE := Lib.hid (rle_own s 4 W11.drew (by omega) (by omega)); clear hS hW11 g11 HS10 HO5t HO8t HO10 HHe; have hz := HZz.out; go_wp2_with fail; rw [HW11.out]; clear hz
 go_region_held3 (fun _ => True) (exact True.intro) (first
  | (refine step_copy_sec rfl (.tmp 32) (.tmp 39) rfl rfl HBd.out HZs.out rfl HOd.out.byt.1 (by omega) (by omega) (by omega) ?_; rw [HLay.out])
  | (refine step_app_byt bt rfl (.tmp 37) (.tmp 38) rfl W0.heap.size v37 (headL k ep m ++ Wd.enc 4 s) rfl HO37.out _ 232 c8 (padTo 232 b) rfl HO8b.out.byt.1 (by rw [List.length_append, headL_len, Wd.enc_length]; omega) HSb.out.sz ?_; intro v39 Wz ho39 hg39; obtain ⟨p39, c39, hv39⟩ := ho39.shape 256 HSE.out.2; subst hv39; have HOd := Lib.hid ho39; have HSd := Lib.hid (HSb.out.app hg39 (fun k e => HO37.out.base k e)); have HBd := Lib.hid (HBb.out.stays (hg39.block _ HBb.out.lt (fun e => own_not_blk HO37.out.row HBb.out (by decide) e.symm))); have HLay : Hid (lay Z 0 (headL k ep m ++ Wd.enc 4 s ++ padTo 232 b) = secL k ep b) := Lib.hid (by rw [HZ.out, lay_zero HSE.out.2, HSE.out.1]); clear ho39 hg39)
  | (refine step_app_byt bt rfl (.tmp 33) (.tmp 36) rfl W0.heap.size _ (headL k ep m) rfl HO5a.out _ 4 c36 (Wd.enc 4 s) rfl HO36.out.byt.1 (by rw [headL_len]; omega) HSa.out.sz ?_; intro v37 Wb ho37 hg37; have HO37 := Lib.hid ho37; have HSb := Lib.hid (HSa.out.app hg37 (fun k e => HO5a.out.base k e)); have HO8b := Lib.hid (HO8a.out.grown hg37 (fun k e => .inr fun e2 => by have h1 := HO5s.out _ e; have h2 := HO8a.out.base k e2; omega)); have HBb := Lib.hid (HBa.out.stays (hg37.block _ HBa.out.lt (fun e => own_not_blk HO5a.out.row HBa.out (by decide) e.symm))); clear ho37 hg37)
  | (go_at_call 68; rw [HW64.out]; refine HLE.out.mono ?_; rintro e Wa ⟨v36, rfl, ho36, g36⟩; obtain ⟨p36, c36, rfl⟩ := ho36.shape 4 (Wd.enc_length _ _); obtain ⟨b36, o36, rfl, _⟩ := ho36.byt.1.at (by omega); have HO36 := Lib.hid ho36; have HSa := Lib.hid (HS11.out.up g36); have HO5a := Lib.hid (HO511.out.below' g36); have HO8a := Lib.hid (HO811.out.below' g36); have HBa := Lib.hid (HB11.out.1.gr g36); clear ho36 g36))
 have HBe := Lib.hid (HBd.out.row (sec (Sx (secL k ep b)))); have HSe := Lib.hid (HSd.out.s.other (cs' := sec (Sx (secL k ep b))) (Nat.ne_of_lt HW10.out)); have HGe := Lib.hid (below_setRow HSd.out.gr (Nat.le_of_lt HW10.out) (sec (Sx (secL k ep b))))
 go_wp2_with (first | (refine wpList_load_x rfl _ rfl HBe.out rfl ?_) | (refine wpList_store_x rfl _ _ rfl HSe.out rfl rfl ?_))
 exact bodyPost_ret (results_x rfl _ _ _ _ rfl (HSe.out.row _)) rfl ⟨rfl, below_setRow HGe.out (Nat.le_refl _) _⟩
end Go.Proofs.YtlijbgapkmfnaaaGreat
