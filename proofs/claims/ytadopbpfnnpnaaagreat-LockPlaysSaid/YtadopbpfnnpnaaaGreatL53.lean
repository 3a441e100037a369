/-
  Texts on locks, put together: LockPlaysWalk.
-/
import Derived.Deep.RegionHeld3
import Derived.IntWalk
import Derived.Test.YtadopbpfnnpnaaaGreatL52
set_option linter.unusedVariables false
set_option linter.unusedSimpArgs false
/-
  The law LockPlays, walked.
-/
namespace Go.Proofs.YtadopbpfnnpnaaaGreat
open Go.RowKit Go.Maps

set_option maxRecDepth 100000 in
set_option maxHeartbeats 32000000 in
theorem lockPlays_walk (p : Option Addr) (n c0 : Nat) (f : Nat → LAct) (w : World) (hl : LActs w p n c0 f) (mo : Int) :
    Calls Tryz.prog 3 #[.slice p n c0, .int .i64 mo] w fun e w' => e = .returned (.bool true) ∧ Gr w w' := by
  have HL := Lib.hid hl
  have hnm : n ≤ maxLen := Nat.le_trans hl.cap hl.most
  unfold maxLen at hnm
  clear hl
  go_enter Tryz.func3, Tryz.ntmps3
  by_cases hbig : 100 < n
  · have hbz : (100 : Int) < (n : Int) := by omega
    go_wp2_with fail
    refine (known10_any w).mono ?_
    rintro e w1 ⟨rfl, g1⟩
    have G1 := Lib.hid g1
    clear g1
    go_wp2_with fail
    go_ret
    exact ⟨rfl, G1.out⟩
  · have hbz : ¬ (100 : Int) < (n : Int) := by omega
    have hn100 : n ≤ 100 := by omega
    go_wp2_with fail
    refine (New_any w).mono ?_
    rintro e w1 ⟨t, km, om, B0, rfl, t1, g1, f1⟩
    obtain ⟨W2, hW2⟩ : ∃ W2, W2 = w1.alloc (.cells #[.slice none 0 0, .slice none 0 0] TDt) := ⟨_, rfl⟩
    have g2 : Gr w1 W2 := by rw [hW2]; exact gr_alloc _ _
    have b2 := Blk.new w1 TDt #[.slice none 0 0, .slice none 0 0]
    rw [← hW2] at b2
    have hP := first_pm t1 f1 g1 g2 b2
    obtain ⟨d, hd⟩ : ∃ d, d = w1.heap.size := ⟨_, rfl⟩
    rw [← hd] at hP
    have H2 := Lib.hid (And.intro hP (And.intro hW2 hd))
    clear hP hW2 hd b2 g2 t1 g1 f1
    go_upto_region 5 with fail
    rw [show (w1.alloc (.cells #[.slice none 0 0, .slice none 0 0] 29)) = W2 from H2.out.2.1.symm, ← H2.out.2.2]
    go_wp2_with fail
    refine (Copy_any H2.out.1.tb (by simp [Tb.new]) (by simp [Tb.new]) (fun k l e => by cases e)).mono ?_
    rintro e w3 ⟨c, kmc, omc, Bc, rfl, c3, g3, hn3⟩
    have H3 : Hid (L1At w w3 t km om B0 Tb.new d (.slice none 0 0) (.slice none 0 0) ⟨[], []⟩ c kmc omc Bc Tb.new) := Lib.hid
      ⟨H2.out.1.more g3, c3, fun m hm => Nat.le_trans H2.out.1.gr.size (hn3 m hm), fun m hm e => by have := H2.out.1.lt m hm; have := hn3 m e; omega⟩
    clear c3 g3 hn3 H2
    go_wp2_with fail
    go_loopw [8, 7] (fun iv cv wr => ∃ (j cb kmc omc : Nat) (B Bc : Tag → Option Nat) (T C : Tb) (hv lv : Value), iv = .int .i64 (j : Int) ∧ cv = .pointer (some ⟨cb, 0, none⟩) ∧ j ≤ n ∧ Hid (L1At w wr t km om B T d hv lv (Dn f j) cb kmc omc Bc C ∧ PlS T (Dn f j) j ∧ PlS C (Dn f (mm n j)) (mm n j))) (fun iv _ _ => n - (intOf iv).toNat)
    case atStart => exact ⟨0, c, kmc, omc, B0, Bc, _, _, _, _, rfl, rfl, Nat.zero_le _, Lib.hid ⟨H3.out, PlS.new, by rw [mm_zero]; exact PlS.new⟩⟩
    case round =>
      obtain ⟨j, cb, kmc, omc, B, Bc, T, C, hv, lv, rfl, rfl, hj, HR⟩ := hrel
      by_cases hlt : j < n
      · have hltz : (j : Int) < (n : Int) := by omega
        have hj0 : (0 : Int) ≤ (j : Int) := by omega
        have hw9 : IntKind.i64.wrap ((j : Int) + 1) = ((j + 1 : Nat) : Int) := by rw [IntWalk.i64_in _ (by omega)]; omega
        obtain ⟨pb, off, rfl, hin, hrow⟩ := HL.out.row j hlt
        obtain ⟨a, ha⟩ : ∃ a, a = f j := ⟨_, rfl⟩
        obtain ⟨A, hA⟩ : ∃ A, A = off + j * 5 := ⟨_, rfl⟩
        have hA' : off + j * 5 = A := hA.symm
        rw [← ha] at hin
        rw [← ha, ← hA] at hrow
        obtain ⟨F, O, ⟨K1, K2⟩, M⟩ := a
        have HRow : Hid (∀ V, Gr w V → V.cell? ⟨pb, A, none⟩ = some (.bool F) ∧ V.cell? ⟨pb, A + 1, none⟩ = some (.int .u64 (O : Int)) ∧ V.cell? ⟨pb, A + 2, none⟩ = some (.int .i64 K1) ∧ V.cell? ⟨pb, A + 3, none⟩ = some (.int .i64 K2) ∧ V.cell? ⟨pb, A + 2 + 1, none⟩ = some (.int .i64 K2) ∧ V.cell? ⟨pb, A + 4, none⟩ = some (.int .i64 M)) := Lib.hid fun V g =>
          ⟨hrow V g 0 _ rfl, hrow V g 1 _ rfl, hrow V g 2 _ rfl, hrow V g 3 _ rfl, hrow V g 3 _ rfl, hrow V g 4 _ rfl⟩
        have HDo : Hid (∀ V, Gr wr V → Calls Tryz.prog 7 #[.pointer (some ⟨t, 0, none⟩), .pointer (some ⟨d, 0, none⟩), .agg #[.bool F, .int .u64 (O : Int), .int .i64 K1, .int .i64 K2, .int .i64 M]] V (RetDo w t km om B d hv lv (Dn f (j + 1)) j V)) := Lib.hid fun V g => by
          have := do_any (HR.out.1.a.more g) HR.out.2.1 (by omega) hin
          rw [ha] at this
          rw [← ha] at this
          have e : Dn f (j + 1) = (Dn f j).act ⟨F, O, (K1, K2), M⟩ := by rw [ha]; rfl
          rw [e]
          exact this
        obtain ⟨x0, x1, x2, x3, x3', x4⟩ := HRow.out wr HR.out.1.a.gr
        have HK := Lib.hid hin
        clear hrow hin ha hA
        go_upto_region 11 with fail
        go_region_held3 (fun V => V.cell? ⟨pb, A, none⟩ = some (.bool F) ∧ V.cell? ⟨pb, A + 1, none⟩ = some (.int .u64 (O : Int)) ∧ V.cell? ⟨pb, A + 2, none⟩ = some (.int .i64 K1) ∧ V.cell? ⟨pb, A + 3, none⟩ = some (.int .i64 K2) ∧ V.cell? ⟨pb, A + 2 + 1, none⟩ = some (.int .i64 K2) ∧ V.cell? ⟨pb, A + 4, none⟩ = some (.int .i64 M)) (first | exact ⟨x0, x1, x2, x3, x3', x4⟩ | exact ⟨y0, y1, y2, y3, y3', y4⟩ | exact HRow.out _ H6.out.1.a.gr) (first
          | (go_at_call 7; refine (HDo.out _ (Gr.refl wr).drew).mono ?_; rintro e w5 ⟨rfl, B5, T5, hv5, lv5, P5, S5, N5⟩; obtain ⟨y0, y1, y2, y3, y3', y4⟩ := HRow.out w5 P5.gr; have H5 := Lib.hid (And.intro ((HR.out.1.more (Gr.refl wr).drew).turn P5 N5) S5); clear P5 S5 N5)
          | (go_at_call 8; refine (looks_any H5.out.1.a H5.out.2 (by omega) HK.out.o HK.out.k mo).mono ?_; rintro e w6 ⟨rfl, g6⟩; have H6 := Lib.hid (And.intro (H5.out.1.more g6) H5.out.2); clear g6))
        obtain ⟨q, hq⟩ : ∃ q, q = n / 2 := ⟨_, rfl⟩
        have hqz : ((n : Int)).tdiv 2 = (q : Int) := by rw [hq]; rfl
        have hqw : IntKind.i64.wrap (q : Int) = (q : Int) := IntWalk.i64_in _ (by omega)
        have HQ := Lib.hid hq
        clear hq x0 x1 x2 x3 x3' x4 y0 y1 y2 y3 y3' y4
        by_cases hje : j = q
        · have e62 : ((j : Int) == (q : Int)) = true := by rw [hje]; simp
          have hm : mm n (j + 1) = j + 1 := by rw [hje, HQ.out]; exact mm_at n
          have HM := Lib.hid hm
          clear hje hm
          go_wp2_with fail
          have hoo := H6.out.2.oo
          have hkk := H6.out.2.kk
          refine (Copy_any H6.out.1.a.tb (by omega) (by omega) (fun k l e => by
            have h1 := H6.out.2.inv.lkOf_line k
            rw [lkOf_of e] at h1
            omega)).mono ?_
          rintro e w7 ⟨c7, kmc7, omc7, B7, rfl, t7, g7, n7⟩
          have H7 := Lib.hid (H6.out.1.copy g7 t7 n7)
          clear t7 g7 n7 hoo hkk
          go_wp2_with fail
          go_roundw
          case rel => exact ⟨j + 1, c7, kmc7, omc7, B5, B7, T5, T5, _, _, by simp, rfl, by omega, Lib.hid ⟨H7.out, H6.out.2, by rw [HM.out]; exact H6.out.2⟩⟩
          case measure => simp [intOf]; omega
        · have e62 : ((j : Int) == (q : Int)) = false := by rw [beq_eq_false_iff_ne]; exact fun e => hje (Int.ofNat.inj e)
          have hm : mm n (j + 1) = mm n j := mm_step (by rw [← HQ.out]; exact hje)
          have HM := Lib.hid hm
          clear hje hm
          go_wp2_with fail
          go_roundw
          case rel => exact ⟨j + 1, cb, _, _, B5, Bc, T5, C, _, _, by simp, rfl, by omega, Lib.hid ⟨H6.out.1, H6.out.2, by rw [HM.out]; exact HR.out.2.2⟩⟩
          case measure => simp [intOf]; omega
      · have hjn : n = j := by omega
        subst hjn
        have e72 : decide ((n : Int) < (n : Int)) = false := decide_eq_false (by omega)
        obtain ⟨W4, hW4⟩ : ∃ W4, W4 = wr.alloc (.cells #[.slice none 0 0, .slice none 0 0] TDt) := ⟨_, rfl⟩
        have g4 : Gr wr W4 := by rw [hW4]; exact gr_alloc _ _
        have b4 := Blk.new wr TDt #[.slice none 0 0, .slice none 0 0]
        rw [← hW4] at b4
        have hL4 := HR.out.1.lp g4 b4
        obtain ⟨dv, hdv⟩ : ∃ dv, dv = wr.heap.size := ⟨_, rfl⟩
        rw [← hdv] at hL4
        obtain ⟨E0, hE0⟩ : ∃ E0, E0 = mm n n := ⟨_, rfl⟩
        have hC := HR.out.2.2
        rw [← hE0] at hC
        have H4 := Lib.hid (And.intro hL4 (And.intro hW4 (And.intro hdv (And.intro hE0 hC))))
        have HT := Lib.hid HR.out.2.1
        have HF := Lib.hid (show ∀ i, i < n → (f i).In from fun i hi => by
          obtain ⟨_, _, _, h1, _⟩ := HL.out.row i hi
          exact h1)
        obtain ⟨q, hq⟩ : ∃ q, q = n / 2 := ⟨_, rfl⟩
        have hqz : ((n : Int)).tdiv 2 = (q : Int) := by rw [hq]; rfl
        have hqw : IntKind.i64.wrap (q : Int) = (q : Int) := IntWalk.i64_in _ (by omega)
        have HQ := Lib.hid hq
        clear hL4 hW4 hdv g4 b4 HR hC hE0 hq H3
        go_upto_region 18 with fail
        rw [show (wr.alloc (.cells #[.slice none 0 0, .slice none 0 0] 29)) = W4 from H4.out.2.1.symm, ← H4.out.2.2.1]
        go_wp2_with fail
        go_loopw [10] (fun iv wy => ∃ (j e : Nat) (Bc : Tag → Option Nat) (C : Tb) (hv2 lv2 : Value), iv = .int .i64 (j : Int) ∧ j ≤ n ∧ Hid (LpAt w wy t km om B T d hv lv (Dn f n) cb kmc omc Bc C dv hv2 lv2 (Dn f j) ∧ PlS C (Dn f e) e ∧ e = if j ≤ E0 then E0 else j)) (fun iv _ => n - (intOf iv).toNat)
        case atStart => exact ⟨0, E0, Bc, C, _, _, rfl, Nat.zero_le _, Lib.hid ⟨H4.out.1, H4.out.2.2.2.2, by rw [if_pos (Nat.zero_le _)]⟩⟩
        case round =>
          obtain ⟨j, e, Bc, C, hv2, lv2, rfl, hj, HS⟩ := hrel
          by_cases hlt : j < n
          · have hltz : (j : Int) < (n : Int) := by omega
            have hj0 : (0 : Int) ≤ (j : Int) := by omega
            have hw9 : IntKind.i64.wrap ((j : Int) + 1) = ((j + 1 : Nat) : Int) := by rw [IntWalk.i64_in _ (by omega)]; omega
            have hE1 : E0 = q + 1 := by rw [H4.out.2.2.2.1, HQ.out]; exact mm_all (by omega)
            obtain ⟨pb, off, rfl, hin, hrow⟩ := HL.out.row j hlt
            obtain ⟨a, ha⟩ : ∃ a, a = f j := ⟨_, rfl⟩
            obtain ⟨A, hA⟩ : ∃ A, A = off + j * 5 := ⟨_, rfl⟩
            have hA' : off + j * 5 = A := hA.symm
            rw [← ha] at hin
            rw [← ha, ← hA] at hrow
            obtain ⟨F, O, ⟨K1, K2⟩, M⟩ := a
            have HRow : Hid (∀ V, Gr w V → V.cell? ⟨pb, A, none⟩ = some (.bool F) ∧ V.cell? ⟨pb, A + 1, none⟩ = some (.int .u64 (O : Int)) ∧ V.cell? ⟨pb, A + 2, none⟩ = some (.int .i64 K1) ∧ V.cell? ⟨pb, A + 3, none⟩ = some (.int .i64 K2) ∧ V.cell? ⟨pb, A + 2 + 1, none⟩ = some (.int .i64 K2) ∧ V.cell? ⟨pb, A + 4, none⟩ = some (.int .i64 M)) := Lib.hid fun V g =>
              ⟨hrow V g 0 _ rfl, hrow V g 1 _ rfl, hrow V g 2 _ rfl, hrow V g 3 _ rfl, hrow V g 3 _ rfl, hrow V g 4 _ rfl⟩
            obtain ⟨x0, x1, x2, x3, x3', x4⟩ := HRow.out wr HS.out.1.a.gr
            have HK := Lib.hid hin
            have HDn := Lib.hid (show Dn f (j + 1) = (Dn f j).act ⟨F, O, (K1, K2), M⟩ by rw [ha]; rfl)
            obtain ⟨TJ, hTJ⟩ := dn_pl (f := f) j (by omega) fun i hi => HF.out i (by omega)
            have HJ := Lib.hid hTJ
            have HE := Lib.hid hE1
            clear hrow hin ha hA hTJ hE1
            by_cases hjq : j ≤ q
            · have e79 : (j : Int) ≤ (q : Int) := by omega
              have e79' : decide ((j : Int) ≤ (q : Int)) = true := decide_eq_true e79
              have HEe : Hid ((if j + 1 ≤ E0 then E0 else j + 1) = e) := Lib.hid (by
                rw [HS.out.2.2, if_pos (by have := HE.out; omega), if_pos (by have := HE.out; omega)])
              clear hjq
              cases F with
              | true =>
                have HFr : Hid (Calls Tryz.prog 9 #[.pointer (some ⟨dv, 0, none⟩), .int .u64 (O : Int)] wr (RetDF w.heap.size dv hv2 lv2 (Dn f (j + 1) |> fun D' => (((Dn f j).free O).1, D')) wr)) := Lib.hid (by
                  have := dFree_any HS.out.1.b.dt HS.out.1.b.gr.size HJ.out.rel.on (by have := HJ.out.len; omega) O
                  rw [HDn.out]
                  exact this)
                go_wp2_with fail
                refine HFr.out.mono ?_
                rintro e5 w5 ⟨v5, rfl, hu5, hv5, lv5, t5, k5⟩
                have H5 := Lib.hid (HS.out.1.turn (HS.out.1.b.turnD t5 k5) (k5.right (P := FB Bc)))
                clear hu5 t5 k5
                go_wp2_with fail
                go_roundw
                case rel => exact ⟨j + 1, e, Bc, C, _, _, by simp, by omega, Lib.hid ⟨H5.out, HS.out.2.1, HEe.out.symm⟩⟩
                case measure => simp [intOf]; omega
              | false =>
                have HAs : Hid (∀ V, Gr wr V → Calls Tryz.prog 10 #[.pointer (some ⟨dv, 0, none⟩), .int .u64 (O : Int), .agg #[.int .i64 K1, .int .i64 K2], .int .i64 M] V (RetDA w.heap.size dv hv2 lv2 (((Dn f j).ask O (K1, K2) M).1, Dn f (j + 1)) V)) := Lib.hid fun V g => by
                  have := dAsk_any (HS.out.1.b.dt.gr g) (Nat.le_trans HS.out.1.b.gr.size g.size) (by have := HJ.out.len; omega) (by have := HJ.out.len; omega) O (K1, K2) M
                  rw [HDn.out]
                  exact this
                go_upto_region 24 with fail
                go_region_held3 (fun V => V.cell? ⟨pb, A + 1, none⟩ = some (.int .u64 (O : Int)) ∧ V.cell? ⟨pb, A + 2, none⟩ = some (.int .i64 K1) ∧ V.cell? ⟨pb, A + 3, none⟩ = some (.int .i64 K2) ∧ V.cell? ⟨pb, A + 2 + 1, none⟩ = some (.int .i64 K2) ∧ V.cell? ⟨pb, A + 4, none⟩ = some (.int .i64 M)) (first | exact ⟨x1, x2, x3, x3', x4⟩ | exact ⟨y1, y2, y3, y3', y4⟩) (first
                  | (go_at_call 10; refine (HAs.out _ (Gr.refl wr).drew).mono ?_; rintro e5 w5 ⟨rfl, hv5, lv5, t5, k5⟩; have H5 := Lib.hid ((HS.out.1.more (Gr.refl wr).drew).turn ((HS.out.1.b.more (Gr.refl wr).drew).turnD t5 k5) (k5.right (P := FB Bc))); obtain ⟨y0, y1, y2, y3, y3', y4⟩ := HRow.out w5 H5.out.b.gr; clear t5 k5))
                go_wp2_with fail
                go_roundw
                case rel => exact ⟨j + 1, e, Bc, C, _, _, by simp, by omega, Lib.hid ⟨H5.out, HS.out.2.1, HEe.out.symm⟩⟩
                case measure => simp [intOf]; omega
            · have e79 : ¬ (j : Int) ≤ (q : Int) := by omega
              have e79' : decide ((j : Int) ≤ (q : Int)) = false := decide_eq_false e79
              have hej : e = j := by
                have h1 := HS.out.2.2
                have h2 := HE.out
                by_cases h3 : j ≤ E0
                · rw [if_pos h3] at h1; omega
                · rw [if_neg h3] at h1; exact h1
              have hC := HS.out.2.1
              rw [hej] at hC
              have HEe : Hid ((if j + 1 ≤ E0 then E0 else j + 1) = j + 1) := Lib.hid (if_neg (by have := HE.out; omega))
              have HDo : Hid (Calls Tryz.prog 7 #[.pointer (some ⟨cb, 0, none⟩), .pointer (some ⟨dv, 0, none⟩), .agg #[.bool F, .int .u64 (O : Int), .int .i64 K1, .int .i64 K2, .int .i64 M]] wr (RetDo w cb kmc omc Bc dv hv2 lv2 (Dn f (j + 1)) j wr)) := Lib.hid (by
                have := do_any HS.out.1.b hC (by omega) HK.out
                rw [HDn.out]
                exact this)
              clear hjq hej hC
              go_wp2_with fail
              refine HDo.out.mono ?_
              rintro e5 w5 ⟨rfl, B5, C5, hv5, lv5, P5, S5, N5⟩
              have H5 := Lib.hid (And.intro (HS.out.1.turn P5 N5) S5)
              clear P5 S5 N5
              go_wp2_with fail
              go_roundw
              case rel => exact ⟨j + 1, j + 1, B5, C5, _, _, by simp, by omega, Lib.hid ⟨H5.out.1, H5.out.2, HEe.out.symm⟩⟩
              case measure => simp [intOf]; omega
          · have hjn : n = j := by omega
            subst hjn
            have e72 : decide ((n : Int) < (n : Int)) = false := decide_eq_false (by omega)
            go_wp2_with fail
            go_loopw [11] (fun iv wz => ∃ (j : Nat), iv = .int .i64 (j : Int) ∧ j ≤ n ∧ Hid (LpAt w wz t km om B T d hv lv (Dn f n) cb kmc omc Bc C dv hv2 lv2 (Dn f n))) (fun iv _ => n - (intOf iv).toNat)
            case atStart => exact ⟨0, rfl, Nat.zero_le _, Lib.hid HS.out.1⟩
            case round =>
              obtain ⟨j, rfl, hj3, HZ⟩ := hrel
              by_cases hlt3 : j < n
              · have hltz : (j : Int) < (n : Int) := by omega
                have hj0 : (0 : Int) ≤ (j : Int) := by omega
                have hw9 : IntKind.i64.wrap ((j : Int) + 1) = ((j + 1 : Nat) : Int) := by rw [IntWalk.i64_in _ (by omega)]; omega
                have hen : e = n := by
                  have h1 := HS.out.2.2
                  have h2 : E0 = n / 2 + 1 := by rw [H4.out.2.2.2.1]; exact mm_all (by omega)
                  by_cases h3 : n ≤ E0
                  · rw [if_pos h3] at h1; omega
                  · rw [if_neg h3] at h1; exact h1
                have hC := HS.out.2.1
                rw [hen] at hC
                obtain ⟨pb, off, rfl, hin, hrow⟩ := HL.out.row j hlt3
                obtain ⟨a, ha⟩ : ∃ a, a = f j := ⟨_, rfl⟩
                obtain ⟨A, hA⟩ : ∃ A, A = off + j * 5 := ⟨_, rfl⟩
                have hA' : off + j * 5 = A := hA.symm
                rw [← ha] at hin
                rw [← ha, ← hA] at hrow
                obtain ⟨F, O, ⟨K1, K2⟩, M⟩ := a
                have HRow : Hid (∀ V, Gr w V → V.cell? ⟨pb, A + 1, none⟩ = some (.int .u64 (O : Int)) ∧ V.cell? ⟨pb, A + 2, none⟩ = some (.int .i64 K1) ∧ V.cell? ⟨pb, A + 3, none⟩ = some (.int .i64 K2) ∧ V.cell? ⟨pb, A + 2 + 1, none⟩ = some (.int .i64 K2)) := Lib.hid fun V g =>
                  ⟨hrow V g 1 _ rfl, hrow V g 2 _ rfl, hrow V g 3 _ rfl, hrow V g 3 _ rfl⟩
                have HLt : Hid (∀ V, Gr wr V → Calls Tryz.prog 8 #[.pointer (some ⟨t, 0, none⟩), .pointer (some ⟨d, 0, none⟩), .int .u64 (O : Int), .agg #[.int .i64 K1, .int .i64 K2], .int .i64 0] V fun e w' => e = .returned (.bool true) ∧ Gr V w') := Lib.hid fun V g => looks_any (HZ.out.a.more g) HT.out (by omega) hin.o hin.k 0
                have HLc : Hid (∀ V, Gr wr V → Calls Tryz.prog 8 #[.pointer (some ⟨cb, 0, none⟩), .pointer (some ⟨dv, 0, none⟩), .int .u64 (O : Int), .agg #[.int .i64 K1, .int .i64 K2], .int .i64 0] V fun e w' => e = .returned (.bool true) ∧ Gr V w') := Lib.hid fun V g => looks_any (HZ.out.b.more g) hC (by omega) hin.o hin.k 0
                obtain ⟨x1, x2, x3, x3'⟩ := HRow.out wr HZ.out.a.gr
                clear hrow hin ha hA hen hC
                go_upto_region 30 with fail
                go_region_held3 (fun V => V.cell? ⟨pb, A + 1, none⟩ = some (.int .u64 (O : Int)) ∧ V.cell? ⟨pb, A + 2, none⟩ = some (.int .i64 K1) ∧ V.cell? ⟨pb, A + 3, none⟩ = some (.int .i64 K2) ∧ V.cell? ⟨pb, A + 2 + 1, none⟩ = some (.int .i64 K2)) (first | exact ⟨x1, x2, x3, x3'⟩ | exact ⟨y1, y2, y3, y3'⟩ | exact ⟨z1, z2, z3, z3'⟩) (first
                  | (go_at_call 8; refine (HLc.out _ G8.out).mono ?_; rintro e6 w6 ⟨rfl, g6⟩; have G9 := Lib.hid (Gr.trans G8.out g6); obtain ⟨z1, z2, z3, z3'⟩ := HRow.out w6 (Gr.trans HZ.out.a.gr G9.out); clear g6)
                  | (go_at_call 8; refine (HLt.out _ (Gr.refl wr).drew).mono ?_; rintro e5 w5 ⟨rfl, g5⟩; have G8 := Lib.hid (Gr.trans (Gr.refl wr).drew g5); obtain ⟨y1, y2, y3, y3'⟩ := HRow.out w5 (Gr.trans HZ.out.a.gr G8.out); clear g5))
                have H9 := Lib.hid (HZ.out.more G9.out)
                clear x1 x2 x3 x3' y1 y2 y3 y3' z1 z2 z3 z3'
                go_wp2_with fail
                go_roundw
                case rel => exact ⟨j + 1, by simp, by omega, H9⟩
                case measure => simp [intOf]; omega
              · have hjn : n = j := by omega
                subst hjn
                have e92 : decide ((n : Int) < (n : Int)) = false := decide_eq_false (by omega)
                have G7 := Lib.hid HZ.out.a.gr
                go_wp2_with fail
                refine (known10_any _).mono ?_
                rintro e5 w5 ⟨rfl, g5⟩
                have G8 := Lib.hid (Gr.trans G7.out g5)
                clear g5
                go_wp2_with fail
                go_ret
                exact ⟨rfl, G8.out⟩
end Go.Proofs.YtadopbpfnnpnaaaGreat

