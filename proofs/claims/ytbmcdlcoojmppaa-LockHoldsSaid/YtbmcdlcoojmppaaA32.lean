/-
  Texts on locks, put together: LockHoldsWalk.
-/
import Derived.Deep.RegionHeld3
import Derived.IntWalk
import Derived.RangeFuncLeaves
import Derived.Test.YtbmcdlcoojmppaaA16
import Derived.Test.YtbmcdlcoojmppaaA26
import Derived.Test.YtbmcdlcoojmppaaA28
import Derived.Test.YtbmcdlcoojmppaaA30
import Derived.Test.YtbmcdlcoojmppaaA31
/-
  The law LockHolds, walked.
-/
namespace Go.Proofs.Ytbmcdlcoojmppaa
open Go.RowKit Go.Maps
attribute [-go_sem] Builtin.append_

set_option maxRecDepth 100000 in
set_option maxHeartbeats 8000000 in
theorem lockHolds_walk (p : Option Addr) (n c : Nat) (f : Nat → LAct) (w : World) (hl : LActs w p n c f) :
    Calls Try.prog 5 #[.slice p n c] w fun e w' => e = .returned (.bool true) ∧ Gr w w' := by
  have HL := Lib.hid hl
  have hnm : n ≤ maxLen := Nat.le_trans hl.cap hl.most
  unfold maxLen at hnm
  clear hl
  refine (callsIn_wide (n := 8)).1 ?_
  refine callsIn_of_wp_marks Try.func5 rfl trivial ?_ rfl
  simp only [Try.ntmps5, List.size_toArray, List.length_cons, List.length_nil, Nat.reduceAdd, Nat.reduceSub, Array.replicate_succ, Array.replicate_zero, List.push_toArray, List.append_toArray, List.nil_append, List.cons_append]
  refine wpIn_wide.2 ?_
  have br0 := Blk.new w TBl #[.bool false]
  have gr0 : Gr w (w.alloc (.cells #[.bool false] TBl)) := (Gr.refl w).alloc (Nat.le_refl _) _
  obtain ⟨W0, hW0⟩ : ∃ W0, W0 = w.alloc (.cells #[.bool false] TBl) := ⟨_, rfl⟩
  obtain ⟨rb, hrb⟩ : ∃ rb, rb = w.heap.size := ⟨_, rfl⟩
  rw [← hW0, ← hrb] at br0
  rw [← hW0] at gr0
  have HW0 := Lib.hid (And.intro hW0 hrb)
  clear hW0 hrb
  by_cases hbig : 60 < n
  · have g1 : (60 : Int) < (n : Int) := by omega
    go_upto_region 1 with fail
    rw [show w.alloc (.cells #[.bool false] 4) = W0 from HW0.out.1.symm, ← HW0.out.2]
    go_wp2_with fail
    refine (known10_any W0).mono ?_
    rintro e w1 ⟨rfl, g⟩
    have b1 := br0.gr g
    have n1 := b1.cell 0
    have f1 := b1.frozen 0
    simp at n1
    have HG := Lib.hid (And.intro b1 (Gr.trans gr0 g))
    clear b1 g
    go_wp2_with fail
    exact ⟨_, results_cell_one rfl Try.isAgg4 _ _ ⟨rb, 0, none⟩ (.bool true) rfl ((HG.out.1.set 0 _).cell 0), rfl, HG.out.2.setCell (p := ⟨rb, 0, none⟩) (by rw [HW0.out.2]; exact Nat.le_refl _) _⟩
  · have g1 : ¬ (60 : Int) < (n : Int) := by omega
    have hn60 : n ≤ 60 := by omega
    go_upto_region 1 with fail
    rw [show w.alloc (.cells #[.bool false] 4) = W0 from HW0.out.1.symm, ← HW0.out.2]
    go_wp2_with fail
    refine (New_any W0).mono ?_
    rintro e w1 ⟨t, km, om, B0, rfl, t1, gr1, f1⟩
    have H1 := Lib.hid (And.intro t1 (And.intro gr1 f1))
    clear t1 gr1 f1
    obtain ⟨vb, hvb⟩ : ∃ vb, vb = w1.heap.size := ⟨_, rfl⟩
    obtain ⟨ob, hob⟩ : ∃ ob, ob = w1.heap.size + 1 := ⟨_, rfl⟩
    have HA : Hid (HlAt w ((w1.alloc (.cells #[.pointer (some ⟨t, 0, none⟩)] TPt)).alloc (.cells #[.slice none 0 0] TUs)) t km om rb vb ob B0 Tb.new [] (.slice none 0 0) [] 0) := Lib.hid (by
      obtain ⟨t1, gr1, f1⟩ := H1.out
      have g2 : Gr w1 (w1.alloc (.cells #[.pointer (some ⟨t, 0, none⟩)] TPt)) := (Gr.refl w1).alloc (Nat.le_refl _) _
      have g3 : Gr (w1.alloc (.cells #[.pointer (some ⟨t, 0, none⟩)] TPt)) ((w1.alloc (.cells #[.pointer (some ⟨t, 0, none⟩)] TPt)).alloc (.cells #[.slice none 0 0] TUs)) := (Gr.refl _).alloc (Nat.le_refl _) _
      have b2 := Blk.new w1 TPt #[.pointer (some ⟨t, 0, none⟩)]
      have b3 := Blk.new (w1.alloc (.cells #[.pointer (some ⟨t, 0, none⟩)] TPt)) TUs #[.slice none 0 0]
      have e3 : (w1.alloc (.cells #[.pointer (some ⟨t, 0, none⟩)] TPt)).heap.size = w1.heap.size + 1 := by simp
      rw [e3, ← hob] at b3
      rw [← hvb] at b2
      have gg := Gr.trans g2 g3
      have s1 := gr0.size
      have s2 := gr1.size
      exact ⟨t1.gr gg, new_inv, Nat.le_refl _, Nat.le_refl _, (fun x hx => by cases hx), List.nodup_nil, Nat.le_refl _, (fun x hx => by cases hx), br0.gr (Gr.trans gr1 gg), b2.gr g3, b3, Us.nil _ _, fun n hn => Nat.le_trans s1 (f1 n hn), Gr.trans gr0 (Gr.trans gr1 gg), by rw [HW0.out.2]; exact Nat.le_refl _, by omega, by omega⟩)
    obtain ⟨W2, hW2⟩ : ∃ W2, W2 = ((w1.alloc (.cells #[.pointer (some ⟨t, 0, none⟩)] TPt)).alloc (.cells #[.slice none 0 0] TUs)) := ⟨_, rfl⟩
    rw [← hW2] at HA
    have HW2 := Lib.hid (And.intro hW2 (And.intro hvb hob))
    clear hW2 hvb hob H1
    go_upto_region 7 with fail
    rw [show ((w1.alloc (.cells #[.pointer (some ⟨t, 0, none⟩)] 24)).alloc (.cells #[.slice none 0 0] 26)) = W2 from HW2.out.1.symm, ← HW2.out.2.2, ← HW2.out.2.1]
    go_wp2_with fail
    go_loopw [5] (fun i wr => ∃ j : Nat, i = .int .i64 (j : Int) ∧ j ≤ n ∧ Hid (∃ B T ow ov, HlAt w wr t km om rb vb ob B T ow ov [] j)) (fun i _ => n - (intOf i).toNat)
    case atStart => exact ⟨0, rfl, Nat.zero_le _, Lib.hid ⟨_, _, _, _, HA.out⟩⟩
    case round =>
      obtain ⟨j, rfl, hj, HR⟩ := hrel
      by_cases hlt : j < n
      · have g3 : (j : Int) < (n : Int) := by omega
        obtain ⟨B, T, ow, ov, hAl⟩ := HR.out
        obtain ⟨pb, off, rfl, hin, hrow⟩ := HL.out.row j hlt
        obtain ⟨a, ha⟩ : ∃ a, a = f j := ⟨_, rfl⟩
        obtain ⟨A, hA⟩ : ∃ A, A = off + j * 5 := ⟨_, rfl⟩
        rw [← ha] at hin
        rw [← ha, ← hA] at hrow
        have hA' : off + j * 5 = A := hA.symm
        obtain ⟨k, hk⟩ : ∃ k, k = a.k := ⟨_, rfl⟩
        obtain ⟨K1, hK1⟩ : ∃ x, x = k.1 := ⟨_, rfl⟩
        obtain ⟨K2, hK2⟩ : ∃ x, x = k.2 := ⟨_, rfl⟩
        obtain ⟨M, hM⟩ : ∃ x, x = a.m := ⟨_, rfl⟩
        obtain ⟨O, hO⟩ : ∃ x, x = a.ow := ⟨_, rfl⟩
        obtain ⟨F, hF⟩ : ∃ x, x = a.free := ⟨_, rfl⟩
        have hkd : KL.dom k := by rw [hk]; exact hin.k
        have hod : KO.dom O := by rw [hO]; exact hin.o
        have hkv : kv k = .agg #[.int .i64 K1, .int .i64 K2] := by rw [hK1, hK2]; rfl
        have HRow : Hid (∀ V, Gr w V → V.cell? ⟨pb, A, none⟩ = some (.bool F) ∧ V.cell? ⟨pb, A + 1, none⟩ = some (.int .u64 (O : Int)) ∧ V.cell? ⟨pb, A + 2, none⟩ = some (.int .i64 K1) ∧ V.cell? ⟨pb, A + 2 + 1, none⟩ = some (.int .i64 K2) ∧ V.cell? ⟨pb, A + 4, none⟩ = some (.int .i64 M)) := Lib.hid fun V g => by
          rw [hK1, hK2, hM, hk, hO, hF]
          exact ⟨hrow V g 0 _ rfl, hrow V g 1 _ rfl, hrow V g 2 _ rfl, hrow V g 3 _ rfl, hrow V g 4 _ rfl⟩
        have hq : IntKind.i64.wrap ((j : Int) + 1) = ((j + 1 : Nat) : Int) := by rw [IntWalk.i64_in _ (by omega)]; omega
        have HMe : Hid (j + 1 ≤ n ∧ n - (j + 1) < n - j) := Lib.hid ⟨by omega, by omega⟩
        obtain ⟨x0, x1, x2, x3, x4⟩ := HRow.out wr hAl.gr
        have v0 := hAl.bv.cell 0
        simp at v0
        have HAl := Lib.hid (And.intro hAl (And.intro (show j ≤ 60 by omega) hAl.lo))
        have HK := Lib.hid (And.intro hkd (And.intro hkv hod))
        clear hrow hA ha hin hAl hkd hkv hk hK1 hK2 hM hO hF hod HR hj
        have HFr : Hid (Calls Try.prog 9 #[.pointer (some ⟨t, 0, none⟩), .int .u64 (O : Int)] wr.drew fun e w' => ∃ v B' T', e = .returned v ∧ HlAt w w' t km om rb vb ob B' T' ow ov [O] (j + 1)) := Lib.hid (by
          have h := HAl.out.1.more (Gr.refl wr).drew
          have h1 := h.ol
          have h2 := h.kl
          have h3 := HAl.out.2.1
          exact (free_any h.tb h.inv (by omega) (by omega) HK.out.2.2).mono fun e w' r => h.freed h3 r)
        have HAs : Hid (Calls Try.prog 10 #[.pointer (some ⟨t, 0, none⟩), .int .u64 (O : Int), .agg #[.int .i64 K1, .int .i64 K2], .int .i64 M] wr.drew fun e w' => ∃ B' T' c, e = .returned (.int .i64 c) ∧ HlAt w w' t km om rb vb ob B' T' ow ov [O] (j + 1)) := Lib.hid (by
          have h := HAl.out.1.more (Gr.refl wr).drew
          have h1 := h.ol
          have h2 := h.kl
          have h3 := HAl.out.2.1
          have := (ask_any h.tb h.inv (by omega) (by omega) HK.out.2.2 HK.out.1 M).mono fun e w' r => h.asked h3 HK.out.2.2 HK.out.1 r
          rw [HK.out.2.1] at this
          exact this)
        obtain ⟨D, hD⟩ : ∃ D, D = decide (O ∈ ow) := ⟨_, rfl⟩
        have HD := Lib.hid hD
        clear hD
        cases F
        · go_upto_region 12 with fail
          go_region_held3 (fun V => V.cell? ⟨vb, 0, none⟩ = some (.pointer (some ⟨t, 0, none⟩)) ∧ V.cell? ⟨pb, A + 1, none⟩ = some (.int .u64 (O : Int)) ∧ V.cell? ⟨pb, A + 2, none⟩ = some (.int .i64 K1) ∧ V.cell? ⟨pb, A + 2 + 1, none⟩ = some (.int .i64 K2) ∧ V.cell? ⟨pb, A + 4, none⟩ = some (.int .i64 M)) (first | exact ⟨v0, x1, x2, x3, x4⟩ | exact ⟨u0, y1, y2, y3, y4⟩) (first | (go_at_call 10; refine HAs.out.mono ?_; rintro e w5 ⟨B5, T5, c5, rfl, h5⟩; obtain ⟨y0, y1, y2, y3, y4⟩ := HRow.out w5 h5.gr; have u0 := h5.bv.cell 0; simp at u0; have H5 := Lib.hid h5; clear h5))
          have b0 := H5.out.bo.cell 0
          simp at b0
          have HIn : Hid (Calls Try.prog 11 #[ov, .int .u64 (O : Int)] w5.drew fun e w' => e = .returned (.bool D) ∧ Gr w5.drew w') := Lib.hid (by
            have := in_any (w := w5.drew) (H5.out.us.gr (Gr.refl w5).drew).usl (by have := H5.out.lo; have := HAl.out.2.1; omega) O
            rw [← HD.out] at this
            exact this)
          clear x0 x1 x2 x3 x4 v0 HFr HAs y0 y2 y3 y4
          cases D
          · go_upto_region 13 with fail
            go_region_held3 (fun V => V.cell? ⟨ob, 0, none⟩ = some ov ∧ V.cell? ⟨pb, A + 1, none⟩ = some (.int .u64 (O : Int))) (first | exact ⟨b0, y1⟩ | exact ⟨b6, y6⟩) (first | (go_at_call 11; refine HIn.out.mono ?_; rintro e w6 ⟨rfl, g6⟩; have H6 := Lib.hid (H5.out.more (Gr.trans (Gr.refl w5).drew g6)); clear g6; have b6 := H6.out.bo.cell 0; simp at b6; obtain ⟨z0, y6, z2, z3, z4⟩ := HRow.out w6 H6.out.gr))
            have hno : O ∉ ow := of_decide_eq_false HD.out.symm
            obtain ⟨v7, p7, N7, m7, w7, rfl, hrun, c7, f7, g7, h7⟩ := (H6.out.more (Gr.refl w6).drew).app HAl.out.2.2 HAl.out.2.1 hno HK.out.2.2
            have H7 := Lib.hid h7
            have hrun9 : (Builtin.append_ #[TUs, TUs] TUs #[ov, .slice (some ⟨w6.heap.size, 0, none⟩) 1 1]).run Try.prog (w6.alloc (.cells #[.int .u64 (O : Int)] TOw)).drew = .ok (.slice p7 N7 m7) w7 := hrun
            have b9 : (w6.alloc (.cells #[.int .u64 (O : Int)] TOw)).drew.cell? ⟨ob, 0, none⟩ = some ov := (H6.out.more ((Gr.refl w6).alloc (Nat.le_refl _) (.cells #[.int .u64 (O : Int)] TOw))).bo.cell 0
            have HR9 := Lib.hid hrun9
            have y9 := (HRow.out (w6.alloc (.cells #[.int .u64 (O : Int)] TOw)).drew (Gr.trans H6.out.gr (Gr.trans ((Gr.refl w6).alloc (Nat.le_refl _) _) (Gr.refl _).drew))).2.1
            have y10 := (HRow.out w7 g7).2.1
            have y11 := (HRow.out (w7.setCell ⟨ob, 0, none⟩ (.slice p7 N7 m7)) H7.out.gr).2.1
            clear hrun hrun9 g7 h7 hno z0 z2 z3 z4 b0 y1 u0 HIn H5
            go_upto_region 14 with fail
            have hrun9 := HR9.out
            go_region
            all_goals
              clear b6 b9 y6 y9 y10 y11 c7 f7 HR9 hrun9
              go_wp2_with fail
              go_roundw
              case rel => exact ⟨j + 1, by simp, HMe.out.1, Lib.hid ⟨_, _, _, _, H7.out⟩⟩
              case measure => simpa [intOf] using HMe.out.2
          · have H8 : Hid (HlAt w w5 t km om rb vb ob B5 T5 ow ov [] (j + 1)) := Lib.hid (H5.out.had (of_decide_eq_true HD.out.symm))
            go_upto_region 13 with fail
            go_region_held3 (fun V => V.cell? ⟨ob, 0, none⟩ = some ov ∧ V.cell? ⟨pb, A + 1, none⟩ = some (.int .u64 (O : Int))) (first | exact ⟨b0, y1⟩ | exact ⟨b6, y6⟩) (first | (go_at_call 11; refine HIn.out.mono ?_; rintro e w6 ⟨rfl, g6⟩; have H6 := Lib.hid (H8.out.more (Gr.trans (Gr.refl w5).drew g6)); clear g6; have b6 := H6.out.bo.cell 0; simp at b6; obtain ⟨z0, y6, z2, z3, z4⟩ := HRow.out w6 H6.out.gr))
            go_wp2_with fail
            go_roundw
            case rel => exact ⟨j + 1, by simp, HMe.out.1, Lib.hid ⟨_, _, _, _, H6.out⟩⟩
            case measure => simpa [intOf] using HMe.out.2
        · go_upto_region 11 with fail
          go_region_held3 (fun V => V.cell? ⟨vb, 0, none⟩ = some (.pointer (some ⟨t, 0, none⟩)) ∧ V.cell? ⟨pb, A + 1, none⟩ = some (.int .u64 (O : Int))) (first | exact ⟨v0, x1⟩ | exact ⟨u0, y1⟩) (first | (go_at_call 9; refine HFr.out.mono ?_; rintro e w5 ⟨v5, B5, T5, rfl, h5⟩; obtain ⟨y0, y1, y2, y3, y4⟩ := HRow.out w5 h5.gr; have u0 := h5.bv.cell 0; simp at u0; have H5 := Lib.hid h5; clear h5))
          have b0 := H5.out.bo.cell 0
          simp at b0
          have HIn : Hid (Calls Try.prog 11 #[ov, .int .u64 (O : Int)] w5.drew fun e w' => e = .returned (.bool D) ∧ Gr w5.drew w') := Lib.hid (by
            have := in_any (w := w5.drew) (H5.out.us.gr (Gr.refl w5).drew).usl (by have := H5.out.lo; have := HAl.out.2.1; omega) O
            rw [← HD.out] at this
            exact this)
          clear x0 x1 x2 x3 x4 v0 HFr HAs y0 y2 y3 y4
          cases D
          · go_upto_region 13 with fail
            go_region_held3 (fun V => V.cell? ⟨ob, 0, none⟩ = some ov ∧ V.cell? ⟨pb, A + 1, none⟩ = some (.int .u64 (O : Int))) (first | exact ⟨b0, y1⟩ | exact ⟨b6, y6⟩) (first | (go_at_call 11; refine HIn.out.mono ?_; rintro e w6 ⟨rfl, g6⟩; have H6 := Lib.hid (H5.out.more (Gr.trans (Gr.refl w5).drew g6)); clear g6; have b6 := H6.out.bo.cell 0; simp at b6; obtain ⟨z0, y6, z2, z3, z4⟩ := HRow.out w6 H6.out.gr))
            have hno : O ∉ ow := of_decide_eq_false HD.out.symm
            obtain ⟨v7, p7, N7, m7, w7, rfl, hrun, c7, f7, g7, h7⟩ := (H6.out.more (Gr.refl w6).drew).app HAl.out.2.2 HAl.out.2.1 hno HK.out.2.2
            have H7 := Lib.hid h7
            have hrun9 : (Builtin.append_ #[TUs, TUs] TUs #[ov, .slice (some ⟨w6.heap.size, 0, none⟩) 1 1]).run Try.prog (w6.alloc (.cells #[.int .u64 (O : Int)] TOw)).drew = .ok (.slice p7 N7 m7) w7 := hrun
            have b9 : (w6.alloc (.cells #[.int .u64 (O : Int)] TOw)).drew.cell? ⟨ob, 0, none⟩ = some ov := (H6.out.more ((Gr.refl w6).alloc (Nat.le_refl _) (.cells #[.int .u64 (O : Int)] TOw))).bo.cell 0
            have HR9 := Lib.hid hrun9
            have y9 := (HRow.out (w6.alloc (.cells #[.int .u64 (O : Int)] TOw)).drew (Gr.trans H6.out.gr (Gr.trans ((Gr.refl w6).alloc (Nat.le_refl _) _) (Gr.refl _).drew))).2.1
            have y10 := (HRow.out w7 g7).2.1
            have y11 := (HRow.out (w7.setCell ⟨ob, 0, none⟩ (.slice p7 N7 m7)) H7.out.gr).2.1
            clear hrun hrun9 g7 h7 hno z0 z2 z3 z4 b0 y1 u0 HIn H5
            go_upto_region 14 with fail
            have hrun9 := HR9.out
            go_region
            all_goals
              clear b6 b9 y6 y9 y10 y11 c7 f7 HR9 hrun9
              go_wp2_with fail
              go_roundw
              case rel => exact ⟨j + 1, by simp, HMe.out.1, Lib.hid ⟨_, _, _, _, H7.out⟩⟩
              case measure => simpa [intOf] using HMe.out.2
          · have H8 : Hid (HlAt w w5 t km om rb vb ob B5 T5 ow ov [] (j + 1)) := Lib.hid (H5.out.had (of_decide_eq_true HD.out.symm))
            go_upto_region 13 with fail
            go_region_held3 (fun V => V.cell? ⟨ob, 0, none⟩ = some ov ∧ V.cell? ⟨pb, A + 1, none⟩ = some (.int .u64 (O : Int))) (first | exact ⟨b0, y1⟩ | exact ⟨b6, y6⟩) (first | (go_at_call 11; refine HIn.out.mono ?_; rintro e w6 ⟨rfl, g6⟩; have H6 := Lib.hid (H8.out.more (Gr.trans (Gr.refl w5).drew g6)); clear g6; have b6 := H6.out.bo.cell 0; simp at b6; obtain ⟨z0, y6, z2, z3, z4⟩ := HRow.out w6 H6.out.gr))
            go_wp2_with fail
            go_roundw
            case rel => exact ⟨j + 1, by simp, HMe.out.1, Lib.hid ⟨_, _, _, _, H6.out⟩⟩
            case measure => simpa [intOf] using HMe.out.2
      · have g3 : ¬ (j : Int) < (n : Int) := by omega
        --loop2
        obtain ⟨B, T, ow, ov, hAl⟩ := HR.out
        obtain ⟨p4, c4, hov⟩ := hAl.us.form
        subst hov
        obtain ⟨N, hN⟩ : ∃ N, N = ow.length := ⟨_, rfl⟩
        rw [← hN] at hAl
        have hN60 : N ≤ 60 := by have := hAl.lo; omega
        obtain ⟨nb, hnb⟩ : ∃ nb, nb = wr.heap.size := ⟨_, rfl⟩
        obtain ⟨ib0, hib0⟩ : ∃ ib0, ib0 = wr.heap.size + 1 := ⟨_, rfl⟩
        have H20 : Hid (H2At w ((wr.alloc (.cells #[.int .i64 0] TI)).alloc (.cells #[.int .i64 0] TI)) t km om rb vb ob nb ib0 B T ow (.slice p4 N c4) 0 0 []) := Lib.hid (by
          have g1 : Gr wr (wr.alloc (.cells #[.int .i64 0] TI)) := (Gr.refl _).alloc (Nat.le_refl _) _
          have g2 : Gr (wr.alloc (.cells #[.int .i64 0] TI)) ((wr.alloc (.cells #[.int .i64 0] TI)).alloc (.cells #[.int .i64 0] TI)) := (Gr.refl _).alloc (Nat.le_refl _) _
          have b1 := (Blk.new wr TI #[.int .i64 0]).gr g2
          have b2 := Blk.new (wr.alloc (.cells #[.int .i64 0] TI)) TI #[.int .i64 0]
          rw [show (wr.alloc (.cells #[.int .i64 0] TI)).heap.size = wr.heap.size + 1 by simp, ← hib0] at b2
          rw [← hnb] at b1
          exact ⟨(hAl.up (by omega)).more (Gr.trans g1 g2), b1, b2, (fun D hD => by cases hD), List.nodup_nil, by rw [hnb]; exact hAl.gr.size, by omega⟩)
        have hLast := HL.out
        obtain ⟨W3, hW3⟩ : ∃ W3, W3 = ((wr.alloc (.cells #[.int .i64 0] TI)).alloc (.cells #[.int .i64 0] TI)) := ⟨_, rfl⟩
        rw [← hW3] at H20
        have HW3 := Lib.hid (And.intro hW3 (And.intro hnb hib0))
        have HN := Lib.hid (And.intro hN hAl.dm)
        clear hAl HR hN hW3 hnb hib0 hLast
        go_wp2_with fail
        rw [show ((wr.alloc (.cells #[.int .i64 0] 3)).alloc (.cells #[.int .i64 0] 3)) = W3 from HW3.out.1.symm, ← HW3.out.2.2, ← HW3.out.2.1]
        refine wp_loop (fun a' w' => ∃ v7 v8 v9 v10 v11 v12 v13 v14 v73 v74 v75 v76 v77 v78 v79 v80 v81 v82 v83 v84 v85 v86 v87 v88 v89 v90 v91 v92 v93 v94 v95 v96 v97 v98 v99 v100 v101 v102 v103 v104 v105 v106 v107 v108 v109 v110 v111 v112 v113 v114 v115 v116 v117 v118 v119 v120 v121 v122 v123 v124 v125 v126 v127 v128 v129 v130 v131 v132 v133 v134 v135 v136 v137 v138 v139 ds, (∃ (i ib : Nat) (Ds : List Nat), v7 = .pointer (some ⟨ib, 0, none⟩) ∧ ds = Ds.map dmark ∧ i ≤ N ∧ Hid (H2At w w' t km om rb vb ob nb ib B T ow (.slice p4 N c4) i (sumN T.cnt (ow.take i)) Ds)) ∧ a' = { tmps := #[.slice p n c, undef, .pointer (some ⟨rb, 0, none⟩), .pointer (some ⟨vb, 0, none⟩), .pointer (some ⟨ob, 0, none⟩), .int .i64 (j : Int), .pointer (some ⟨nb, 0, none⟩), v7, v8, v9, v10, v11, v12, v13, v14, .slice p n c, .int .i64 (n : Int), .bool false, undef, .pointer (some ⟨t, 0, none⟩), .pointer (some ⟨t, 0, none⟩), .bool false, .int .i64 (j : Int), .slice p n c, .int .i64 (n : Int), .bool false, u26, u27, u28, u29, u30, u31, u32, u33, u34, u35, u36, u37, u38, u39, u40, u41, u42, u43, u44, u45, u46, u47, u48, u49, u50, u51, u52, u53, u54, u55, u56, u57, u58, u59, u60, u61, u62, u63, u64, u65, u66, u67, u68, u69, u70, u71, u72, v73, v74, v75, v76, v77, v78, v79, v80, v81, v82, v83, v84, v85, v86, v87, v88, v89, v90, v91, v92, v93, v94, v95, v96, v97, v98, v99, v100, v101, v102, v103, v104, v105, v106, v107, v108, v109, v110, v111, v112, v113, v114, v115, v116, v117, v118, v119, v120, v121, v122, v123, v124, v125, v126, v127, v128, v129, v130, v131, v132, v133, v134, v135, v136, v137, v138, v139, undef, undef, undef, undef, undef, undef, undef], defers := ds }) (fun a' w' => N - (intOf ((w'.cell? (ptA (a'.tmps.getD 7 undef))).getD undef)).toNat) ?_ ?_
        · (repeat apply Exists.intro)
          refine And.intro ⟨0, ib0, [], rfl, rfl, Nat.zero_le _, ?_⟩ rfl
          exact Lib.hid (by simpa [sumN] using H20.out)
        · intro a' w8 hinv
          obtain ⟨v7, hinv⟩ := hinv
          obtain ⟨v8, hinv⟩ := hinv
          obtain ⟨v9, hinv⟩ := hinv
          obtain ⟨v10, hinv⟩ := hinv
          obtain ⟨v11, hinv⟩ := hinv
          obtain ⟨v12, hinv⟩ := hinv
          obtain ⟨v13, hinv⟩ := hinv
          obtain ⟨v14, hinv⟩ := hinv
          obtain ⟨v73, hinv⟩ := hinv
          obtain ⟨v74, hinv⟩ := hinv
          obtain ⟨v75, hinv⟩ := hinv
          obtain ⟨v76, hinv⟩ := hinv
          obtain ⟨v77, hinv⟩ := hinv
          obtain ⟨v78, hinv⟩ := hinv
          obtain ⟨v79, hinv⟩ := hinv
          obtain ⟨v80, hinv⟩ := hinv
          obtain ⟨v81, hinv⟩ := hinv
          obtain ⟨v82, hinv⟩ := hinv
          obtain ⟨v83, hinv⟩ := hinv
          obtain ⟨v84, hinv⟩ := hinv
          obtain ⟨v85, hinv⟩ := hinv
          obtain ⟨v86, hinv⟩ := hinv
          obtain ⟨v87, hinv⟩ := hinv
          obtain ⟨v88, hinv⟩ := hinv
          obtain ⟨v89, hinv⟩ := hinv
          obtain ⟨v90, hinv⟩ := hinv
          obtain ⟨v91, hinv⟩ := hinv
          obtain ⟨v92, hinv⟩ := hinv
          obtain ⟨v93, hinv⟩ := hinv
          obtain ⟨v94, hinv⟩ := hinv
          obtain ⟨v95, hinv⟩ := hinv
          obtain ⟨v96, hinv⟩ := hinv
          obtain ⟨v97, hinv⟩ := hinv
          obtain ⟨v98, hinv⟩ := hinv
          obtain ⟨v99, hinv⟩ := hinv
          obtain ⟨v100, hinv⟩ := hinv
          obtain ⟨v101, hinv⟩ := hinv
          obtain ⟨v102, hinv⟩ := hinv
          obtain ⟨v103, hinv⟩ := hinv
          obtain ⟨v104, hinv⟩ := hinv
          obtain ⟨v105, hinv⟩ := hinv
          obtain ⟨v106, hinv⟩ := hinv
          obtain ⟨v107, hinv⟩ := hinv
          obtain ⟨v108, hinv⟩ := hinv
          obtain ⟨v109, hinv⟩ := hinv
          obtain ⟨v110, hinv⟩ := hinv
          obtain ⟨v111, hinv⟩ := hinv
          obtain ⟨v112, hinv⟩ := hinv
          obtain ⟨v113, hinv⟩ := hinv
          obtain ⟨v114, hinv⟩ := hinv
          obtain ⟨v115, hinv⟩ := hinv
          obtain ⟨v116, hinv⟩ := hinv
          obtain ⟨v117, hinv⟩ := hinv
          obtain ⟨v118, hinv⟩ := hinv
          obtain ⟨v119, hinv⟩ := hinv
          obtain ⟨v120, hinv⟩ := hinv
          obtain ⟨v121, hinv⟩ := hinv
          obtain ⟨v122, hinv⟩ := hinv
          obtain ⟨v123, hinv⟩ := hinv
          obtain ⟨v124, hinv⟩ := hinv
          obtain ⟨v125, hinv⟩ := hinv
          obtain ⟨v126, hinv⟩ := hinv
          obtain ⟨v127, hinv⟩ := hinv
          obtain ⟨v128, hinv⟩ := hinv
          obtain ⟨v129, hinv⟩ := hinv
          obtain ⟨v130, hinv⟩ := hinv
          obtain ⟨v131, hinv⟩ := hinv
          obtain ⟨v132, hinv⟩ := hinv
          obtain ⟨v133, hinv⟩ := hinv
          obtain ⟨v134, hinv⟩ := hinv
          obtain ⟨v135, hinv⟩ := hinv
          obtain ⟨v136, hinv⟩ := hinv
          obtain ⟨v137, hinv⟩ := hinv
          obtain ⟨v138, hinv⟩ := hinv
          obtain ⟨v139, hinv⟩ := hinv
          obtain ⟨ds, hinv⟩ := hinv
          obtain ⟨hrel, ha⟩ := hinv
          subst ha
          obtain ⟨i, ib, Ds, e7, eds, hi, hH⟩ := hrel
          subst e7
          subst eds
          have n7 := hH.out.bi.cell 0
          have n4 := hH.out.hl.bo.cell 0
          simp at n7 n4
          by_cases hlt : i < N
          · have g5 : (i : Int) < (N : Int) := by omega
            obtain ⟨o, ho⟩ : ∃ o, o = ow.getD i 0 := ⟨_, rfl⟩
            have hil : i < ow.length := by have := HN.out.1; omega
            have hom : o ∈ ow := by rw [ho]; simp [List.getD, hil]
            have hod := HN.out.2 o hom
            obtain ⟨g4, hp4, hro⟩ : ∃ g4, p4 = some ⟨g4, 0, none⟩ ∧ w8.cell? ⟨g4, i, none⟩ = some (.int .u64 (o : Int)) ∧ ∃ cur, w8.heap[g4]? = some (.cells cur TOw (0, 0)) := by
              rcases hH.out.hl.us.2 with ⟨h0, h1⟩ | ⟨g', cap, cur, h0, hb, hh, h1⟩
              · omega
              · cases h0
                refine ⟨g', rfl, ?_, cur, hh⟩
                have hu := hH.out.hl.us
                rw [HN.out.1] at hu
                have := Us.cellAt hu i hil
                rw [this, ho]
                rfl
            subst hp4
            have n3 := hH.out.hl.bv.cell 0
            simp at n3
            have hr1 := hro.1
            have hHd : Hid (∀ V, Gr w8 V → Calls Try.prog 19 #[.pointer (some ⟨t, 0, none⟩), .int .u64 (o : Int)] V (RetHeld T o V)) := Lib.hid fun V g => by
              have h := hH.out.hl.more g
              exact Held_any h.tb (h.inv.ok (by have := h.ol; omega)) hod (Nat.le_trans (h.inv.ks_le o) (by have := h.kl; omega))
            have HR2 := Lib.hid (And.intro hro (And.intro ho (And.intro hod hil)))
            clear hro ho hom hod hil
            go_upto_region 19 with fail
            go_region_held3 (fun V => V.cell? ⟨vb, 0, none⟩ = some (.pointer (some ⟨t, 0, none⟩)) ∧ V.cell? ⟨ob, 0, none⟩ = some (.slice (some ⟨g4, 0, none⟩) N c4) ∧ V.cell? ⟨ib, 0, none⟩ = some (.int .i64 (i : Int)) ∧ V.cell? ⟨g4, i, none⟩ = some (.int .u64 (o : Int))) (first | exact ⟨n3, n4, n7, hr1⟩ | exact ⟨m3, m4, m7, mr1⟩) (first | (go_at_call 19; refine (hHd.out _ (Gr.refl w8).drew).mono ?_; rintro e w9 ⟨kb, mb, kv', mv, rfl, g9, h9⟩; have HH9 := Lib.hid (And.intro (hH.out.more (Gr.trans (Gr.refl w8).drew g9)) (And.intro h9 (Gr.trans (Gr.refl w8).drew g9))); clear g9 h9; have m3 := HH9.out.1.hl.bv.cell 0; have m4 := HH9.out.1.hl.bo.cell 0; have m7 := HH9.out.1.bi.cell 0; simp at m3 m4 m7; have mr1 := (HH9.out.2.2.cell (World.block_lt_of_cell? _ _ hr1)).trans hr1))
            have he : Sem.run Try.prog (binOp .eql 50 (.func (.func 36) #[] #[.pointer (some ⟨kb, 0, none⟩), .pointer (some ⟨mb, 0, none⟩)]) .nilFunc) w9 = .ok (.bool false) w9 := by
              have hu : Try.prog.underlying 50 = some (.func #[79] #[] false) := by kernel_rfl
              have h : ∀ D : Nat, (Op.equalIn (D + 1) 50 (.func (.func 36) #[] #[.pointer (some ⟨kb, 0, none⟩), .pointer (some ⟨mb, 0, none⟩)]) .nilFunc).run Try.prog w9 = .ok false w9 := fun D => by simp [Op.equalIn, run_underlying hu]
              simp [binOp, Op.equal, Op.maxDepth, h 9999]
            clear n7 n4 n3 hr1 m3 m4 m7 mr1 hHd
            have hmm := @run_makeMap Try.prog
            obtain ⟨cc, hcc⟩ : ∃ cc, cc = sumN T.cnt (ow.take i) := ⟨_, rfl⟩
            have hccb : cc ≤ 10000 := by
              have h := HH9.out.1.hl
              have h2 : sumN T.cnt (ow.take i) ≤ (ow.take i).length * 61 := sumN_le fun q _ => by
                have h3 := h.inv.ks_le q
                have h4 := h.kl
                unfold Tb.cnt Py.cnt
                split <;> omega
              have h5 : (ow.take i).length ≤ 60 := by rw [List.length_take]; omega
              omega
            obtain ⟨mm, hmm9⟩ : ∃ mm, mm = w9.heap.size := ⟨_, rfl⟩
            obtain ⟨sb, hsb⟩ : ∃ sb, sb = w9.heap.size + 1 := ⟨_, rfl⟩
            obtain ⟨X, hXe⟩ : ∃ X, X = ((w9.alloc (.map #[] 0)).alloc (.cells #[.map (some mm)] TSn)) := ⟨_, rfl⟩
            have gX1 : Gr w9 (w9.alloc (.map #[] 0)) := (Gr.refl _).alloc (Nat.le_refl _) _
            have gX2 : Gr (w9.alloc (.map #[] 0)) X := by rw [hXe]; exact (Gr.refl _).alloc (Nat.le_refl _) _
            have gX := Gr.trans gX1 gX2
            have hmp0 : Mp Try.prog KL X mm (fun _ => none) [] := by
              have h1 := (Mp.made (P := Try.prog) (K := KL) w9)
              rw [hmm9]
              exact h1.stays (gX2.block _ h1.lt)
            have hbs : Blk X sb TSn #[.map (some mm)] := by
              have := Blk.new (w9.alloc (.map #[] 0)) TSn #[.map (some mm)]
              rw [← hXe] at this
              rw [hsb, ← show (w9.alloc (.map #[] 0)).heap.size = w9.heap.size + 1 by simp]
              exact this
            have h2X := HH9.out.1.more gX
            rw [← hcc] at h2X
            have hfm : ¬ FB B mm := fun ⟨a, ha⟩ => by have := HH9.out.1.hl.tb.lt a mm ha; omega
            have hR9 : RgX X t km om vb ob ib sb mm g4 N c4 i o B T := ⟨h2X.hl.tb, h2X.hl.bv, h2X.hl.bo, h2X.bi, hbs, by
              have g := Gr.trans HH9.out.2.2 gX
              rw [g.cell (World.block_lt_of_cell? _ _ HR2.out.1.1)]; exact HR2.out.1.1⟩
            have hF9 : RgFar X ib nb mm g4 B := ⟨hfm, hmp0.isMap, ⟨_, h2X.bn⟩, by have := h2X.gi; omega, by
              obtain ⟨cur, hc⟩ := HR2.out.1.2
              exact ⟨cur, ((Gr.trans HH9.out.2.2 gX).block g4 (Array.getElem?_eq_some_iff.1 hc).1).trans hc⟩⟩
            have hK9 : ∀ k, hKs kb mb kv' mv k → k ≠ nb ∧ k ≠ mm := fun k hk => by
              have h := HH9.out.2.1
              have hn := hH.out.bn.lt
              have z : w8.drew.heap.size = w8.heap.size := rfl
              have a1 := h.kl
              have a2 := h.ml
              have a3 := h.bk.lt
              have a4 := h.bm.lt
              rcases hk with e | e | e | e
              · omega
              · omega
              · have := World.ownsRow.lt h.rk k e; omega
              · have := World.ownsRow.lt h.rm k e; omega
            have HX9 := Lib.hid (And.intro hR9 (And.intro hF9 (And.intro hK9 (And.intro hmp0 (And.intro h2X (HH9.out.2.1.held (gr_holds gX)))))))
            have HXe := Lib.hid (And.intro hXe (And.intro hmm9 (And.intro hsb (And.intro hcc hccb))))
            clear hcc hccb hmm9 hsb hXe gX1 gX2 gX hmp0 hbs h2X hfm hR9 hF9 hK9
            go_upto_region 23 with fail
            rw [← HXe.out.2.2.1, ← HXe.out.2.1, show ((w9.alloc (.map #[] 0)).alloc (.cells #[.map (some mm)] 52)) = X from HXe.out.1.symm]
            clear he hmm
            go_wp2_with fail
            refine (wpIn_wide (n := 8)).1 ?_
            refine hold_range HX9.out.1 HX9.out.2.1 HX9.out.2.2.2.2.1.hl.inv HX9.out.2.2.2.2.1.hl.ol HX9.out.2.2.2.2.1.hl.kl hlt hN60 HXe.out.2.2.2.2 HR2.out.2.2.1 HX9.out.2.2.2.2.2 HX9.out.2.2.1 HX9.out.2.2.2.2.1.bn HX9.out.2.2.2.1 ?_
            intro D V hD hOn hbn hK
            have h2V := HX9.out.2.2.2.2.1.ranged hOn HX9.out.2.2.2.1.isMap HX9.out.2.1.fm (by have := HX9.out.2.2.2.2.1.hl.gr.size; have := HH9.out.1.hl.gr.size; have := HXe.out.2.1; omega) hbn hD hK
            obtain ⟨c2, hc2⟩ : ∃ c2, c2 = cc + (T.of o).ks.length := ⟨_, rfl⟩
            rw [← hc2] at h2V
            have hc2b : c2 ≤ 20000 := by have := HXe.out.2.2.2.2; have := h2V.hl.inv.ks_le o; have := h2V.hl.kl; omega
            obtain ⟨Q1, hQ1⟩ : ∃ x, x = (T.of o).key.1 := ⟨_, rfl⟩
            obtain ⟨Q2, hQ2⟩ : ∃ x, x = (T.of o).key.2 := ⟨_, rfl⟩
            obtain ⟨MD, hMD⟩ : ∃ x, x = (T.of o).mode := ⟨_, rfl⟩
            obtain ⟨WB, hWB⟩ : ∃ x, x = ((T.of o).mode != 0) := ⟨_, rfl⟩
            have hWa : Hid (∀ W, Gr V W → Calls Try.prog 13 #[.pointer (some ⟨t, 0, none⟩), .int .u64 (o : Int)] W fun e w' => e = .returned (.tuple #[.agg #[.int .i64 Q1, .int .i64 Q2], .int .i64 MD, .bool WB]) ∧ Gr W w') := Lib.hid fun W g => by
              have := Waits_any (h2V.hl.tb.gr g) HR2.out.2.2.1
              rw [hQ1, hQ2, hMD, hWB]
              exact this
            have HFV : Hid (∀ W, Gr V W → W.cell? ⟨vb, 0, none⟩ = some (.pointer (some ⟨t, 0, none⟩)) ∧ W.cell? ⟨ob, 0, none⟩ = some (.slice (some ⟨g4, 0, none⟩) N c4) ∧ W.cell? ⟨ib, 0, none⟩ = some (.int .i64 (i : Int)) ∧ W.cell? ⟨g4, i, none⟩ = some (.int .u64 (o : Int))) := Lib.hid fun W g => by
              have h := (HX9.out.1.onl HX9.out.2.1 hOn)
              exact ⟨(h.bv.gr g).cell 0, (h.bo.gr g).cell 0, (h.bi.gr g).cell 0, by rw [g.cell (World.block_lt_of_cell? _ _ h.ro)]; exact h.ro⟩
            have HV := Lib.hid (And.intro h2V (And.intro hc2 (And.intro hc2b (And.intro hQ1 (And.intro hQ2 (And.intro hMD hWB))))))
            have gV := HFV.out _ (Gr.refl V).drew
            clear h2V hOn hbn hK hc2 hc2b hQ1 hQ2 hMD hWB
            try dsimp only
            go_wp2_with fail
            go_region_held3 (fun W => W.cell? ⟨vb, 0, none⟩ = some (.pointer (some ⟨t, 0, none⟩)) ∧ W.cell? ⟨ob, 0, none⟩ = some (.slice (some ⟨g4, 0, none⟩) N c4) ∧ W.cell? ⟨ib, 0, none⟩ = some (.int .i64 (i : Int)) ∧ W.cell? ⟨g4, i, none⟩ = some (.int .u64 (o : Int))) (first | exact HFV.out _ (Gr.refl V).drew | exact HFV.out _ ((Gr.refl V).drew.alloc (Nat.le_refl _) _) | exact HFV.out _ HG10.out | exact HFV.out _ (HG10.out.alloc HG10.out.size _) | exact HFV.out _ (((HG10.out.setCell (by show V.heap.size ≤ _; exact Nat.le_refl _) _).setCell (by show V.heap.size ≤ _; exact Nat.le_refl _) _)) | exact HFV.out _ ((((HG10.out.alloc HG10.out.size _).setCell (by show V.heap.size ≤ _; exact HG10.out.size) _).setCell (by show V.heap.size ≤ _; exact HG10.out.size) _)))
              (first | (go_at_call 13; refine (hWa.out _ (by first | exact (Gr.refl V).drew | exact ((Gr.refl V).drew.alloc (Nat.le_refl _) _))).mono ?_; rintro e w10 ⟨rfl, g10⟩; have HG10 := Lib.hid (Gr.trans (by first | exact (Gr.refl V).drew | exact ((Gr.refl V).drew.alloc (Nat.le_refl _) _)) g10); (try (have hz : Blk w10 V.heap.size TKey #[.int .i64 0, .int .i64 0] := (Blk.new V.drew TKey #[.int .i64 0, .int .i64 0]).gr g10; have z0 := hz.cell 0; have z1 := hz.cell 1; have z2 := hz.frozen 0; have z3 := hz.frozen 1; simp at z0 z1; have HZ := Lib.hid hz; clear hz)); clear g10))
            all_goals (first
              | (obtain ⟨W11, hW11⟩ : ∃ W11, W11 = w10.alloc (.cells #[.int .i64 Q1, .int .i64 Q2] TKey) := ⟨_, rfl⟩
                 obtain ⟨cb, hcb⟩ : ∃ cb, cb = w10.heap.size := ⟨_, rfl⟩
                 rw [show (w10.alloc (.cells #[.int .i64 Q1, .int .i64 Q2] 29)) = W11 from hW11.symm, ← hcb]
                 have H11 := Lib.hid (show Gr V W11 ∧ Blk W11 cb TKey #[.int .i64 Q1, .int .i64 Q2] from ⟨by rw [hW11]; exact HG10.out.alloc HG10.out.size _, by rw [hW11, hcb]; exact Blk.new w10 TKey _⟩)
                 clear hW11 hcb)
              | (obtain ⟨W11, hW11⟩ : ∃ W11, W11 = (w10.setCell ⟨V.heap.size, 0, none⟩ (.int .i64 Q1)).setCell ⟨V.heap.size, 1, none⟩ (.int .i64 Q2) := ⟨_, rfl⟩
                 obtain ⟨cb, hcb⟩ : ∃ cb, cb = V.heap.size := ⟨_, rfl⟩
                 rw [← hW11, ← hcb]
                 have H11 := Lib.hid (show Gr V W11 ∧ Blk W11 cb TKey #[.int .i64 Q1, .int .i64 Q2] from ⟨by rw [hW11]; exact ((HG10.out.setCell (p := ⟨V.heap.size, 0, none⟩) (Nat.le_refl _) _).setCell (p := ⟨V.heap.size, 1, none⟩) (Nat.le_refl _) _), by rw [hW11, hcb]; exact (HZ.out.set 0 _).set 1 _⟩)
                 clear hW11 hcb z0 z1 z2 z3 HZ))
            all_goals
              have h2W := HV.out.1.more H11.out.1
              obtain ⟨DB, hDB⟩ : ∃ x, x = decide (o ∈ (T.lkOf (T.of o).key).line.map Prod.fst) := ⟨_, rfl⟩
              have hWD : WB = true → DB = true := fun e => by
                rw [HV.out.2.2.2.2.2.2] at e
                obtain ⟨l9, hl9, hin9⟩ := h2W.hl.inv.wt o (by simpa using e)
                rw [hDB, lkOf_of hl9]
                exact decide_eq_true (List.mem_map.2 ⟨_, hin9, rfl⟩)
              have hLi : Hid (∀ W, Gr V W → Calls Try.prog 20 #[.pointer (some ⟨t, 0, none⟩), .agg #[.int .i64 Q1, .int .i64 Q2]] W (RetRow ((T.lkOf (T.of o).key).line.map Prod.fst) W)) := Lib.hid fun W g => by
                have := Line_any (HV.out.1.hl.tb.gr g) (HV.out.1.hl.inv.key o) (by have := HV.out.1.hl.inv.lkOf_line (T.of o).key; have := HV.out.1.hl.ol; omega)
                rw [HV.out.2.2.2.1, HV.out.2.2.2.2.1]
                exact this
              have hcn : T.cnt o = (T.of o).ks.length + if WB = true then 1 else 0 := by
                unfold Tb.cnt Py.cnt
                rw [HV.out.2.2.2.2.2.2]
                by_cases e : (T.of o).mode = 0 <;> simp [e]
              have hsum : sumN T.cnt (ow.take (i + 1)) = c2 + if WB = true then 1 else 0 := by
                rw [sumN_take T.cnt ow i HR2.out.2.2.2, ← HXe.out.2.2.2.1, ← HR2.out.2.1, hcn, HV.out.2.1]
                omega
              have HWD := Lib.hid (And.intro hDB (And.intro hWD hsum))
              clear hDB hWD hcn hsum
              have hn11 := h2W.bn.cell 0
              have hf11 := h2W.bn.frozen 0
              simp at hn11
              have hw9 : IntKind.i64.wrap ((c2 : Int) + 1) = ((c2 + 1 : Nat) : Int) := by have := HV.out.2.2.1; rw [IntWalk.i64_in _ (by omega)]; omega
              clear h2W gV
              have hrow : ∀ W, Us W w.heap.size (.slice (some ⟨g4, 0, none⟩) N c4) ow → W.cell? ⟨g4, i, none⟩ = some (.int .u64 (o : Int)) := fun W hu => by
                rw [HN.out.1] at hu
                rw [Us.cellAt hu i HR2.out.2.2.2, HR2.out.2.1]
                rfl
              have HRo := Lib.hid hrow
              clear hrow
              cases WB
              · obtain ⟨W12, hW12⟩ : ∃ W12, W12 = W11 := ⟨_, rfl⟩
                have H12 : Hid (H2At w W12 t km om rb vb ob nb ib B T ow (.slice (some ⟨g4, 0, none⟩) N c4) i (sumN T.cnt (ow.take (i + 1))) (D :: Ds) ∧ Blk W12 cb TKey #[.int .i64 Q1, .int .i64 Q2]) := Lib.hid (by
                  rw [HWD.out.2.2, hW12]
                  exact ⟨HV.out.1.more H11.out.1, H11.out.2⟩)
                have HW12 := Lib.hid hW12
                clear hW12
                go_wp2_with fail
                rw [← HW12.out]
                cases DB
                · have HF12 : Hid (∀ W, Gr W12 W → W.cell? ⟨vb, 0, none⟩ = some (.pointer (some ⟨t, 0, none⟩)) ∧ W.cell? ⟨cb, 0, none⟩ = some (.int .i64 Q1) ∧ W.cell? ⟨cb, 1, none⟩ = some (.int .i64 Q2) ∧ W.cell? ⟨ob, 0, none⟩ = some (.slice (some ⟨g4, 0, none⟩) N c4) ∧ W.cell? ⟨ib, 0, none⟩ = some (.int .i64 (i : Int)) ∧ W.cell? ⟨g4, i, none⟩ = some (.int .u64 (o : Int))) := Lib.hid fun W g => by
                    have h := H12.out.1.more g
                    exact ⟨h.hl.bv.cell 0, (H12.out.2.gr g).cell 0, (H12.out.2.gr g).cell 1, h.hl.bo.cell 0, h.bi.cell 0, HRo.out W h.hl.us⟩
                  have hLi2 : Hid (∀ W, Gr W12 W → Calls Try.prog 20 #[.pointer (some ⟨t, 0, none⟩), .agg #[.int .i64 Q1, .int .i64 Q2]] W (RetRow ((T.lkOf (T.of o).key).line.map Prod.fst) W)) := Lib.hid fun W g => by
                    have := Line_any (H12.out.1.hl.tb.gr g) (H12.out.1.hl.inv.key o) (by have := H12.out.1.hl.inv.lkOf_line (T.of o).key; have := H12.out.1.hl.ol; omega)
                    rw [HV.out.2.2.2.1, HV.out.2.2.2.2.1]
                    exact this
                  have hll : ((T.lkOf (T.of o).key).line.map Prod.fst).length ≤ 1000000000 := by rw [List.length_map]; have := H12.out.1.hl.inv.lkOf_line (T.of o).key; have := H12.out.1.hl.ol; omega
                  have HLL := Lib.hid hll
                  clear hll hn11 hf11
                  refine Flow.region (SlH33 t g4 N c4 i o Q1 Q2 false false ((T.lkOf (T.of o).key).line.map Prod.fst)) (Gr W12) (fun a b => Gr a b) (by kernel_rfl) (by kernel_rfl) SlH33.mono (Gr.refl W12).drew ?steps ?fin
                  case steps =>
                    try clear hLi
                    try clear HRo
                    try clear HW12
                    try clear H12
                    try clear H11
                    try clear HV
                    try clear HX9
                    try clear HXe
                    try clear HH9
                    try clear HFV
                    try clear hWa
                    try clear HG10
                    try clear HN
                    try clear hH
                    try clear HM
                    try clear HFE
                    try clear HR2c
                    try clear HA
                    try clear HD
                    refine Flow.Steps.cons (fun a W hfr hinv hdep K hK => ?_) ?_
                    · have s14 : a.tmps.getD 14 undef = .bool false := hfr.at 14 (by kernel_rfl)
                      have t14 : a.tmps[14]?.getD undef = .bool false := by simpa using s14
                      rw [if_pos (Flow.wanted_none rfl)]
                      obtain ⟨q0, q1, q2, q3, q4, q5⟩ := HF12.out W hinv
                      clear hfr hdep
                      go_simp
                      exact hK _ _ (Gr.refl _) hinv (fun d hd => by cases hd; rfl)
                    refine Flow.Steps.cons (fun a W hfr hinv hdep K hK => ?_) ?_
                    · have s3 : a.tmps.getD 3 undef = .pointer (some ⟨vb, 0, none⟩) := hfr.at 3 (by kernel_rfl)
                      have t3 : a.tmps[3]?.getD undef = .pointer (some ⟨vb, 0, none⟩) := by simpa using s3
                      rw [if_pos (Flow.wanted_none rfl)]
                      obtain ⟨q0, q1, q2, q3, q4, q5⟩ := HF12.out W hinv
                      clear hfr hdep
                      go_simp
                      exact hK _ _ (Gr.refl _) hinv (fun d hd => by cases hd; rfl)
                    refine Flow.Steps.cons (fun a W hfr hinv hdep K hK => ?_) ?_
                    · have s12 : a.tmps.getD 12 undef = .pointer (some ⟨cb, 0, none⟩) := hfr.at 12 (by kernel_rfl)
                      have t12 : a.tmps[12]?.getD undef = .pointer (some ⟨cb, 0, none⟩) := by simpa using s12
                      rw [if_pos (Flow.wanted_none rfl)]
                      obtain ⟨q0, q1, q2, q3, q4, q5⟩ := HF12.out W hinv
                      clear hfr hdep
                      go_simp
                      exact hK _ _ (Gr.refl _) hinv (fun d hd => by cases hd; rfl)
                    refine Flow.Steps.cons (fun a W hfr hinv hdep K hK => ?_) ?_
                    · have s127 : a.tmps.getD 127 undef = .pointer (some ⟨t, 0, none⟩) := hdep 127 (by kernel_rfl)
                      have t127 : a.tmps[127]?.getD undef = .pointer (some ⟨t, 0, none⟩) := by simpa using s127
                      have s128 : a.tmps.getD 128 undef = .agg #[.int .i64 Q1, .int .i64 Q2] := hdep 128 (by kernel_rfl)
                      have t128 : a.tmps[128]?.getD undef = .agg #[.int .i64 Q1, .int .i64 Q2] := by simpa using s128
                      rw [if_pos (Flow.wanted_none rfl)]
                      obtain ⟨q0, q1, q2, q3, q4, q5⟩ := HF12.out W hinv
                      clear hfr hdep
                      go_simp
                      refine (hLi2.out W hinv).mono ?_
                      rintro e W' ⟨vl, rfl, hul, g9⟩
                      exact hK _ _ g9 (Gr.trans hinv g9) (fun d hd => by cases hd; exact hul.usl)
                    refine Flow.Steps.cons (fun a W hfr hinv hdep K hK => ?_) ?_
                    · have s4 : a.tmps.getD 4 undef = .pointer (some ⟨ob, 0, none⟩) := hfr.at 4 (by kernel_rfl)
                      have t4 : a.tmps[4]?.getD undef = .pointer (some ⟨ob, 0, none⟩) := by simpa using s4
                      rw [if_pos (Flow.wanted_none rfl)]
                      obtain ⟨q0, q1, q2, q3, q4, q5⟩ := HF12.out W hinv
                      clear hfr hdep
                      go_simp
                      exact hK _ _ (Gr.refl _) hinv (fun d hd => by cases hd; rfl)
                    refine Flow.Steps.cons (fun a W hfr hinv hdep K hK => ?_) ?_
                    · have s7 : a.tmps.getD 7 undef = .pointer (some ⟨ib, 0, none⟩) := hfr.at 7 (by kernel_rfl)
                      have t7 : a.tmps[7]?.getD undef = .pointer (some ⟨ib, 0, none⟩) := by simpa using s7
                      rw [if_pos (Flow.wanted_none rfl)]
                      obtain ⟨q0, q1, q2, q3, q4, q5⟩ := HF12.out W hinv
                      clear hfr hdep
                      go_simp
                      exact hK _ _ (Gr.refl _) hinv (fun d hd => by cases hd; rfl)
                    refine Flow.Steps.cons (fun a W hfr hinv hdep K hK => ?_) ?_
                    · have s130 : a.tmps.getD 130 undef = .slice (some ⟨g4, 0, none⟩) N c4 := hdep 130 (by kernel_rfl)
                      have t130 : a.tmps[130]?.getD undef = .slice (some ⟨g4, 0, none⟩) N c4 := by simpa using s130
                      have s131 : a.tmps.getD 131 undef = .int .i64 (i : Int) := hdep 131 (by kernel_rfl)
                      have t131 : a.tmps[131]?.getD undef = .int .i64 (i : Int) := by simpa using s131
                      rw [if_pos (Flow.wanted_none rfl)]
                      obtain ⟨q0, q1, q2, q3, q4, q5⟩ := HF12.out W hinv
                      clear hfr hdep
                      go_simp
                      exact hK _ _ (Gr.refl _) hinv (fun d hd => by cases hd; rfl)
                    refine Flow.Steps.cons (fun a W hfr hinv hdep K hK => ?_) ?_
                    · have s132 : a.tmps.getD 132 undef = .pointer (some ⟨g4, i, none⟩) := hdep 132 (by kernel_rfl)
                      have t132 : a.tmps[132]?.getD undef = .pointer (some ⟨g4, i, none⟩) := by simpa using s132
                      rw [if_pos (Flow.wanted_none rfl)]
                      obtain ⟨q0, q1, q2, q3, q4, q5⟩ := HF12.out W hinv
                      clear hfr hdep
                      go_simp
                      exact hK _ _ (Gr.refl _) hinv (fun d hd => by cases hd; rfl)
                    refine Flow.Steps.cons (fun a W hfr hinv hdep K hK => ?_) ?_
                    · obtain ⟨vl, hvl⟩ : ∃ vl, vl = a.tmps.getD 129 undef := ⟨_, rfl⟩
                      have s129 : USl W (a.tmps.getD 129 undef) ((T.lkOf (T.of o).key).line.map Prod.fst) := hdep 129 (by kernel_rfl)
                      rw [← hvl] at s129
                      have t129 : a.tmps[129]?.getD undef = vl := by simpa using hvl.symm
                      clear hvl
                      have s133 : a.tmps.getD 133 undef = .int .u64 (o : Int) := hdep 133 (by kernel_rfl)
                      have t133 : a.tmps[133]?.getD undef = .int .u64 (o : Int) := by simpa using s133
                      rw [if_pos (Flow.wanted_none rfl)]
                      obtain ⟨q0, q1, q2, q3, q4, q5⟩ := HF12.out W hinv
                      clear hfr hdep
                      go_simp
                      refine (in_any s129 HLL.out o).mono ?_
                      rintro e W' ⟨rfl, g9⟩
                      rw [← HWD.out.1]
                      exact hK _ _ g9 (Gr.trans hinv g9) (fun d hd => by cases hd; rfl)
                    refine Flow.Steps.cons (fun a W hfr hinv hdep K hK => ?_) ?_
                    · have s126 : a.tmps.getD 126 undef = .bool false := hdep 126 (by kernel_rfl)
                      have t126 : a.tmps[126]?.getD undef = .bool false := by simpa using s126
                      have s134 : a.tmps.getD 134 undef = .bool false := hdep 134 (by kernel_rfl)
                      have t134 : a.tmps[134]?.getD undef = .bool false := by simpa using s134
                      rw [if_pos (Flow.wanted_none rfl)]
                      obtain ⟨q0, q1, q2, q3, q4, q5⟩ := HF12.out W hinv
                      clear hfr hdep
                      go_simp
                      exact hK _ _ (Gr.refl _) hinv (fun d hd => by cases hd; rfl)
                    refine Flow.Steps.cons (fun a W hfr hinv hdep K hK => ?_) ?_
                    · have s135 : a.tmps.getD 135 undef = .bool false := hdep 135 (by kernel_rfl)
                      have t135 : a.tmps[135]?.getD undef = .bool false := by simpa using s135
                      rw [if_pos (Flow.wanted_none rfl)]
                      obtain ⟨q0, q1, q2, q3, q4, q5⟩ := HF12.out W hinv
                      clear hfr hdep
                      go_simp
                      exact hK _ _ (Gr.refl _) hinv (fun d hd => by cases hd; rfl)
                    refine Flow.Steps.cons (fun a W hfr hinv hdep K hK => ?_) ?_
                    · have s14 : a.tmps.getD 14 undef = .bool false := hfr.at 14 (by kernel_rfl)
                      have t14 : a.tmps[14]?.getD undef = .bool false := by simpa using s14
                      have s136 : a.tmps.getD 136 undef = .bool false := hdep 136 (by kernel_rfl)
                      have t136 : a.tmps[136]?.getD undef = .bool false := by simpa using s136
                      rw [if_neg (Flow.wanted_no 10 true 136 rfl (by kernel_rfl) s136)]
                      exact hK _ _ (Gr.refl _) hinv (fun d hd => by cases hd; exact fun e => by cases e)
                    refine Flow.Steps.cons (fun a W hfr hinv hdep K hK => ?_) ?_
                    · have s136 : a.tmps.getD 136 undef = .bool false := hdep 136 (by kernel_rfl)
                      have t136 : a.tmps[136]?.getD undef = .bool false := by simpa using s136
                      rw [if_pos (Flow.wanted_none rfl)]
                      obtain ⟨q0, q1, q2, q3, q4, q5⟩ := HF12.out W hinv
                      clear hfr hdep
                      go_simp
                      exact hK _ _ (Gr.refl _) hinv (fun d hd => by cases hd; rfl)
                    exact True.intro
                  case fin =>
                    intro a w14 hfr hfin hsl
                    have s138 : a.tmps.getD 138 undef = .bool false := hsl 12 _ 138 rfl rfl
                    have t138 : a.tmps[138]?.getD undef = .bool false := by simpa using s138
                    have e := Flow.frame hfr [126, 127, 128, 129, 130, 131, 132, 133, 134, 135, 136, 137, 138] (List.range 147) (by kernel_rfl) (by kernel_rfl)
                    simp (config := {maxSteps := 4000000}) [List.range, List.range.loop] at e
                    rw [t138] at e
                    rw [e]
                    clear e hfr hsl s138 t138
                    have HG14 := Lib.hid hfin
                    clear hfin
                    obtain ⟨-, -, -, -, n14, -⟩ := HF12.out w14 HG14.out
                    have hplus : IntKind.i64.wrap ((i : Int) + 1) = (i : Int) + 1 := IntWalk.i64_in _ (by omega)
                    go_wp2_with fail
                    refine And.intro ?_ ?_
                    · first
                        | exact ⟨i + 1, D :: Ds, rfl, by omega, Lib.hid (H12.out.1.more HG14.out).place⟩
                        | ((repeat apply Exists.intro); exact And.intro ⟨i + 1, _, D :: Ds, rfl, rfl, by omega, Lib.hid (H12.out.1.more HG14.out).place⟩ rfl)
                    · have m1 := ((H12.out.1.more HG14.out).place).bi.cell 0
                      have m0 := hH.out.bi.cell 0
                      simp at m1 m0
                      simp [ptA, m0, intOf]
                      omega
                · have HF12 : Hid (∀ W, Gr W12 W → W.cell? ⟨vb, 0, none⟩ = some (.pointer (some ⟨t, 0, none⟩)) ∧ W.cell? ⟨cb, 0, none⟩ = some (.int .i64 Q1) ∧ W.cell? ⟨cb, 1, none⟩ = some (.int .i64 Q2) ∧ W.cell? ⟨ob, 0, none⟩ = some (.slice (some ⟨g4, 0, none⟩) N c4) ∧ W.cell? ⟨ib, 0, none⟩ = some (.int .i64 (i : Int)) ∧ W.cell? ⟨g4, i, none⟩ = some (.int .u64 (o : Int))) := Lib.hid fun W g => by
                    have h := H12.out.1.more g
                    exact ⟨h.hl.bv.cell 0, (H12.out.2.gr g).cell 0, (H12.out.2.gr g).cell 1, h.hl.bo.cell 0, h.bi.cell 0, HRo.out W h.hl.us⟩
                  have hLi2 : Hid (∀ W, Gr W12 W → Calls Try.prog 20 #[.pointer (some ⟨t, 0, none⟩), .agg #[.int .i64 Q1, .int .i64 Q2]] W (RetRow ((T.lkOf (T.of o).key).line.map Prod.fst) W)) := Lib.hid fun W g => by
                    have := Line_any (H12.out.1.hl.tb.gr g) (H12.out.1.hl.inv.key o) (by have := H12.out.1.hl.inv.lkOf_line (T.of o).key; have := H12.out.1.hl.ol; omega)
                    rw [HV.out.2.2.2.1, HV.out.2.2.2.2.1]
                    exact this
                  have hll : ((T.lkOf (T.of o).key).line.map Prod.fst).length ≤ 1000000000 := by rw [List.length_map]; have := H12.out.1.hl.inv.lkOf_line (T.of o).key; have := H12.out.1.hl.ol; omega
                  have HLL := Lib.hid hll
                  clear hll hn11 hf11
                  refine Flow.region (SlH33 t g4 N c4 i o Q1 Q2 false true ((T.lkOf (T.of o).key).line.map Prod.fst)) (Gr W12) (fun a b => Gr a b) (by kernel_rfl) (by kernel_rfl) SlH33.mono (Gr.refl W12).drew ?steps ?fin
                  case steps =>
                    try clear hLi
                    try clear HRo
                    try clear HW12
                    try clear H12
                    try clear H11
                    try clear HV
                    try clear HX9
                    try clear HXe
                    try clear HH9
                    try clear HFV
                    try clear hWa
                    try clear HG10
                    try clear HN
                    try clear hH
                    try clear HM
                    try clear HFE
                    try clear HR2c
                    try clear HA
                    try clear HD
                    refine Flow.Steps.cons (fun a W hfr hinv hdep K hK => ?_) ?_
                    · have s14 : a.tmps.getD 14 undef = .bool false := hfr.at 14 (by kernel_rfl)
                      have t14 : a.tmps[14]?.getD undef = .bool false := by simpa using s14
                      rw [if_pos (Flow.wanted_none rfl)]
                      obtain ⟨q0, q1, q2, q3, q4, q5⟩ := HF12.out W hinv
                      clear hfr hdep
                      go_simp
                      exact hK _ _ (Gr.refl _) hinv (fun d hd => by cases hd; rfl)
                    refine Flow.Steps.cons (fun a W hfr hinv hdep K hK => ?_) ?_
                    · have s3 : a.tmps.getD 3 undef = .pointer (some ⟨vb, 0, none⟩) := hfr.at 3 (by kernel_rfl)
                      have t3 : a.tmps[3]?.getD undef = .pointer (some ⟨vb, 0, none⟩) := by simpa using s3
                      rw [if_pos (Flow.wanted_none rfl)]
                      obtain ⟨q0, q1, q2, q3, q4, q5⟩ := HF12.out W hinv
                      clear hfr hdep
                      go_simp
                      exact hK _ _ (Gr.refl _) hinv (fun d hd => by cases hd; rfl)
                    refine Flow.Steps.cons (fun a W hfr hinv hdep K hK => ?_) ?_
                    · have s12 : a.tmps.getD 12 undef = .pointer (some ⟨cb, 0, none⟩) := hfr.at 12 (by kernel_rfl)
                      have t12 : a.tmps[12]?.getD undef = .pointer (some ⟨cb, 0, none⟩) := by simpa using s12
                      rw [if_pos (Flow.wanted_none rfl)]
                      obtain ⟨q0, q1, q2, q3, q4, q5⟩ := HF12.out W hinv
                      clear hfr hdep
                      go_simp
                      exact hK _ _ (Gr.refl _) hinv (fun d hd => by cases hd; rfl)
                    refine Flow.Steps.cons (fun a W hfr hinv hdep K hK => ?_) ?_
                    · have s127 : a.tmps.getD 127 undef = .pointer (some ⟨t, 0, none⟩) := hdep 127 (by kernel_rfl)
                      have t127 : a.tmps[127]?.getD undef = .pointer (some ⟨t, 0, none⟩) := by simpa using s127
                      have s128 : a.tmps.getD 128 undef = .agg #[.int .i64 Q1, .int .i64 Q2] := hdep 128 (by kernel_rfl)
                      have t128 : a.tmps[128]?.getD undef = .agg #[.int .i64 Q1, .int .i64 Q2] := by simpa using s128
                      rw [if_pos (Flow.wanted_none rfl)]
                      obtain ⟨q0, q1, q2, q3, q4, q5⟩ := HF12.out W hinv
                      clear hfr hdep
                      go_simp
                      refine (hLi2.out W hinv).mono ?_
                      rintro e W' ⟨vl, rfl, hul, g9⟩
                      exact hK _ _ g9 (Gr.trans hinv g9) (fun d hd => by cases hd; exact hul.usl)
                    refine Flow.Steps.cons (fun a W hfr hinv hdep K hK => ?_) ?_
                    · have s4 : a.tmps.getD 4 undef = .pointer (some ⟨ob, 0, none⟩) := hfr.at 4 (by kernel_rfl)
                      have t4 : a.tmps[4]?.getD undef = .pointer (some ⟨ob, 0, none⟩) := by simpa using s4
                      rw [if_pos (Flow.wanted_none rfl)]
                      obtain ⟨q0, q1, q2, q3, q4, q5⟩ := HF12.out W hinv
                      clear hfr hdep
                      go_simp
                      exact hK _ _ (Gr.refl _) hinv (fun d hd => by cases hd; rfl)
                    refine Flow.Steps.cons (fun a W hfr hinv hdep K hK => ?_) ?_
                    · have s7 : a.tmps.getD 7 undef = .pointer (some ⟨ib, 0, none⟩) := hfr.at 7 (by kernel_rfl)
                      have t7 : a.tmps[7]?.getD undef = .pointer (some ⟨ib, 0, none⟩) := by simpa using s7
                      rw [if_pos (Flow.wanted_none rfl)]
                      obtain ⟨q0, q1, q2, q3, q4, q5⟩ := HF12.out W hinv
                      clear hfr hdep
                      go_simp
                      exact hK _ _ (Gr.refl _) hinv (fun d hd => by cases hd; rfl)
                    refine Flow.Steps.cons (fun a W hfr hinv hdep K hK => ?_) ?_
                    · have s130 : a.tmps.getD 130 undef = .slice (some ⟨g4, 0, none⟩) N c4 := hdep 130 (by kernel_rfl)
                      have t130 : a.tmps[130]?.getD undef = .slice (some ⟨g4, 0, none⟩) N c4 := by simpa using s130
                      have s131 : a.tmps.getD 131 undef = .int .i64 (i : Int) := hdep 131 (by kernel_rfl)
                      have t131 : a.tmps[131]?.getD undef = .int .i64 (i : Int) := by simpa using s131
                      rw [if_pos (Flow.wanted_none rfl)]
                      obtain ⟨q0, q1, q2, q3, q4, q5⟩ := HF12.out W hinv
                      clear hfr hdep
                      go_simp
                      exact hK _ _ (Gr.refl _) hinv (fun d hd => by cases hd; rfl)
                    refine Flow.Steps.cons (fun a W hfr hinv hdep K hK => ?_) ?_
                    · have s132 : a.tmps.getD 132 undef = .pointer (some ⟨g4, i, none⟩) := hdep 132 (by kernel_rfl)
                      have t132 : a.tmps[132]?.getD undef = .pointer (some ⟨g4, i, none⟩) := by simpa using s132
                      rw [if_pos (Flow.wanted_none rfl)]
                      obtain ⟨q0, q1, q2, q3, q4, q5⟩ := HF12.out W hinv
                      clear hfr hdep
                      go_simp
                      exact hK _ _ (Gr.refl _) hinv (fun d hd => by cases hd; rfl)
                    refine Flow.Steps.cons (fun a W hfr hinv hdep K hK => ?_) ?_
                    · obtain ⟨vl, hvl⟩ : ∃ vl, vl = a.tmps.getD 129 undef := ⟨_, rfl⟩
                      have s129 : USl W (a.tmps.getD 129 undef) ((T.lkOf (T.of o).key).line.map Prod.fst) := hdep 129 (by kernel_rfl)
                      rw [← hvl] at s129
                      have t129 : a.tmps[129]?.getD undef = vl := by simpa using hvl.symm
                      clear hvl
                      have s133 : a.tmps.getD 133 undef = .int .u64 (o : Int) := hdep 133 (by kernel_rfl)
                      have t133 : a.tmps[133]?.getD undef = .int .u64 (o : Int) := by simpa using s133
                      rw [if_pos (Flow.wanted_none rfl)]
                      obtain ⟨q0, q1, q2, q3, q4, q5⟩ := HF12.out W hinv
                      clear hfr hdep
                      go_simp
                      refine (in_any s129 HLL.out o).mono ?_
                      rintro e W' ⟨rfl, g9⟩
                      rw [← HWD.out.1]
                      exact hK _ _ g9 (Gr.trans hinv g9) (fun d hd => by cases hd; rfl)
                    refine Flow.Steps.cons (fun a W hfr hinv hdep K hK => ?_) ?_
                    · have s126 : a.tmps.getD 126 undef = .bool false := hdep 126 (by kernel_rfl)
                      have t126 : a.tmps[126]?.getD undef = .bool false := by simpa using s126
                      have s134 : a.tmps.getD 134 undef = .bool true := hdep 134 (by kernel_rfl)
                      have t134 : a.tmps[134]?.getD undef = .bool true := by simpa using s134
                      rw [if_pos (Flow.wanted_none rfl)]
                      obtain ⟨q0, q1, q2, q3, q4, q5⟩ := HF12.out W hinv
                      clear hfr hdep
                      go_simp
                      exact hK _ _ (Gr.refl _) hinv (fun d hd => by cases hd; rfl)
                    refine Flow.Steps.cons (fun a W hfr hinv hdep K hK => ?_) ?_
                    · have s135 : a.tmps.getD 135 undef = .bool true := hdep 135 (by kernel_rfl)
                      have t135 : a.tmps[135]?.getD undef = .bool true := by simpa using s135
                      rw [if_pos (Flow.wanted_none rfl)]
                      obtain ⟨q0, q1, q2, q3, q4, q5⟩ := HF12.out W hinv
                      clear hfr hdep
                      go_simp
                      exact hK _ _ (Gr.refl _) hinv (fun d hd => by cases hd; rfl)
                    refine Flow.Steps.cons (fun a W hfr hinv hdep K hK => ?_) ?_
                    · have s14 : a.tmps.getD 14 undef = .bool false := hfr.at 14 (by kernel_rfl)
                      have t14 : a.tmps[14]?.getD undef = .bool false := by simpa using s14
                      have s136 : a.tmps.getD 136 undef = .bool true := hdep 136 (by kernel_rfl)
                      have t136 : a.tmps[136]?.getD undef = .bool true := by simpa using s136
                      rw [if_pos (Flow.wanted_yes 10 true 136 rfl (by kernel_rfl) s136)]
                      obtain ⟨q0, q1, q2, q3, q4, q5⟩ := HF12.out W hinv
                      clear hfr hdep
                      go_simp
                      exact hK _ _ (Gr.refl _) hinv (fun d hd => by cases hd; exact fun _ => rfl)
                    refine Flow.Steps.cons (fun a W hfr hinv hdep K hK => ?_) ?_
                    · have s136 : a.tmps.getD 136 undef = .bool true := hdep 136 (by kernel_rfl)
                      have t136 : a.tmps[136]?.getD undef = .bool true := by simpa using s136
                      have s137 : a.tmps.getD 137 undef = .bool false := hdep 137 (by kernel_rfl) rfl
                      have t137 : a.tmps[137]?.getD undef = .bool false := by simpa using s137
                      rw [if_pos (Flow.wanted_none rfl)]
                      obtain ⟨q0, q1, q2, q3, q4, q5⟩ := HF12.out W hinv
                      clear hfr hdep
                      go_simp
                      exact hK _ _ (Gr.refl _) hinv (fun d hd => by cases hd; rfl)
                    exact True.intro
                  case fin =>
                    intro a w14 hfr hfin hsl
                    have s138 : a.tmps.getD 138 undef = .bool false := hsl 12 _ 138 rfl rfl
                    have t138 : a.tmps[138]?.getD undef = .bool false := by simpa using s138
                    have e := Flow.frame hfr [126, 127, 128, 129, 130, 131, 132, 133, 134, 135, 136, 137, 138] (List.range 147) (by kernel_rfl) (by kernel_rfl)
                    simp (config := {maxSteps := 4000000}) [List.range, List.range.loop] at e
                    rw [t138] at e
                    rw [e]
                    clear e hfr hsl s138 t138
                    have HG14 := Lib.hid hfin
                    clear hfin
                    obtain ⟨-, -, -, -, n14, -⟩ := HF12.out w14 HG14.out
                    have hplus : IntKind.i64.wrap ((i : Int) + 1) = (i : Int) + 1 := IntWalk.i64_in _ (by omega)
                    go_wp2_with fail
                    refine And.intro ?_ ?_
                    · first
                        | exact ⟨i + 1, D :: Ds, rfl, by omega, Lib.hid (H12.out.1.more HG14.out).place⟩
                        | ((repeat apply Exists.intro); exact And.intro ⟨i + 1, _, D :: Ds, rfl, rfl, by omega, Lib.hid (H12.out.1.more HG14.out).place⟩ rfl)
                    · have m1 := ((H12.out.1.more HG14.out).place).bi.cell 0
                      have m0 := hH.out.bi.cell 0
                      simp at m1 m0
                      simp [ptA, m0, intOf]
                      omega
              · obtain ⟨W12, hW12⟩ : ∃ W12, W12 = W11.setCell ⟨nb, 0, none⟩ (.int .i64 ((c2 : Int) + 1)) := ⟨_, rfl⟩
                have H12 : Hid (H2At w W12 t km om rb vb ob nb ib B T ow (.slice (some ⟨g4, 0, none⟩) N c4) i (sumN T.cnt (ow.take (i + 1))) (D :: Ds) ∧ Blk W12 cb TKey #[.int .i64 Q1, .int .i64 Q2]) := Lib.hid (by
                  rw [HWD.out.2.2, hW12]
                  have h := (HV.out.1.more H11.out.1)
                  refine ⟨h.count (c2 + 1), H11.out.2.far (fun e => ?_) _⟩
                  have a := h.bn
                  have b := H11.out.2
                  unfold Blk at a b
                  rw [show cb = nb from e, a] at b
                  cases b)
                have HW12 := Lib.hid hW12
                clear hW12
                obtain rfl : DB = true := HWD.out.2.1 rfl
                go_wp2_with fail
                rw [← HW12.out]
                · have HF12 : Hid (∀ W, Gr W12 W → W.cell? ⟨vb, 0, none⟩ = some (.pointer (some ⟨t, 0, none⟩)) ∧ W.cell? ⟨cb, 0, none⟩ = some (.int .i64 Q1) ∧ W.cell? ⟨cb, 1, none⟩ = some (.int .i64 Q2) ∧ W.cell? ⟨ob, 0, none⟩ = some (.slice (some ⟨g4, 0, none⟩) N c4) ∧ W.cell? ⟨ib, 0, none⟩ = some (.int .i64 (i : Int)) ∧ W.cell? ⟨g4, i, none⟩ = some (.int .u64 (o : Int))) := Lib.hid fun W g => by
                    have h := H12.out.1.more g
                    exact ⟨h.hl.bv.cell 0, (H12.out.2.gr g).cell 0, (H12.out.2.gr g).cell 1, h.hl.bo.cell 0, h.bi.cell 0, HRo.out W h.hl.us⟩
                  have hLi2 : Hid (∀ W, Gr W12 W → Calls Try.prog 20 #[.pointer (some ⟨t, 0, none⟩), .agg #[.int .i64 Q1, .int .i64 Q2]] W (RetRow ((T.lkOf (T.of o).key).line.map Prod.fst) W)) := Lib.hid fun W g => by
                    have := Line_any (H12.out.1.hl.tb.gr g) (H12.out.1.hl.inv.key o) (by have := H12.out.1.hl.inv.lkOf_line (T.of o).key; have := H12.out.1.hl.ol; omega)
                    rw [HV.out.2.2.2.1, HV.out.2.2.2.2.1]
                    exact this
                  have hll : ((T.lkOf (T.of o).key).line.map Prod.fst).length ≤ 1000000000 := by rw [List.length_map]; have := H12.out.1.hl.inv.lkOf_line (T.of o).key; have := H12.out.1.hl.ol; omega
                  have HLL := Lib.hid hll
                  clear hll hn11 hf11
                  refine Flow.region (SlH33 t g4 N c4 i o Q1 Q2 true true ((T.lkOf (T.of o).key).line.map Prod.fst)) (Gr W12) (fun a b => Gr a b) (by kernel_rfl) (by kernel_rfl) SlH33.mono (Gr.refl W12).drew ?steps ?fin
                  case steps =>
                    try clear hLi
                    try clear HRo
                    try clear HW12
                    try clear H12
                    try clear H11
                    try clear HV
                    try clear HX9
                    try clear HXe
                    try clear HH9
                    try clear HFV
                    try clear hWa
                    try clear HG10
                    try clear HN
                    try clear hH
                    try clear HM
                    try clear HFE
                    try clear HR2c
                    try clear HA
                    try clear HD
                    refine Flow.Steps.cons (fun a W hfr hinv hdep K hK => ?_) ?_
                    · have s14 : a.tmps.getD 14 undef = .bool true := hfr.at 14 (by kernel_rfl)
                      have t14 : a.tmps[14]?.getD undef = .bool true := by simpa using s14
                      rw [if_pos (Flow.wanted_none rfl)]
                      obtain ⟨q0, q1, q2, q3, q4, q5⟩ := HF12.out W hinv
                      clear hfr hdep
                      go_simp
                      exact hK _ _ (Gr.refl _) hinv (fun d hd => by cases hd; rfl)
                    refine Flow.Steps.cons (fun a W hfr hinv hdep K hK => ?_) ?_
                    · have s3 : a.tmps.getD 3 undef = .pointer (some ⟨vb, 0, none⟩) := hfr.at 3 (by kernel_rfl)
                      have t3 : a.tmps[3]?.getD undef = .pointer (some ⟨vb, 0, none⟩) := by simpa using s3
                      rw [if_pos (Flow.wanted_none rfl)]
                      obtain ⟨q0, q1, q2, q3, q4, q5⟩ := HF12.out W hinv
                      clear hfr hdep
                      go_simp
                      exact hK _ _ (Gr.refl _) hinv (fun d hd => by cases hd; rfl)
                    refine Flow.Steps.cons (fun a W hfr hinv hdep K hK => ?_) ?_
                    · have s12 : a.tmps.getD 12 undef = .pointer (some ⟨cb, 0, none⟩) := hfr.at 12 (by kernel_rfl)
                      have t12 : a.tmps[12]?.getD undef = .pointer (some ⟨cb, 0, none⟩) := by simpa using s12
                      rw [if_pos (Flow.wanted_none rfl)]
                      obtain ⟨q0, q1, q2, q3, q4, q5⟩ := HF12.out W hinv
                      clear hfr hdep
                      go_simp
                      exact hK _ _ (Gr.refl _) hinv (fun d hd => by cases hd; rfl)
                    refine Flow.Steps.cons (fun a W hfr hinv hdep K hK => ?_) ?_
                    · have s127 : a.tmps.getD 127 undef = .pointer (some ⟨t, 0, none⟩) := hdep 127 (by kernel_rfl)
                      have t127 : a.tmps[127]?.getD undef = .pointer (some ⟨t, 0, none⟩) := by simpa using s127
                      have s128 : a.tmps.getD 128 undef = .agg #[.int .i64 Q1, .int .i64 Q2] := hdep 128 (by kernel_rfl)
                      have t128 : a.tmps[128]?.getD undef = .agg #[.int .i64 Q1, .int .i64 Q2] := by simpa using s128
                      rw [if_pos (Flow.wanted_none rfl)]
                      obtain ⟨q0, q1, q2, q3, q4, q5⟩ := HF12.out W hinv
                      clear hfr hdep
                      go_simp
                      refine (hLi2.out W hinv).mono ?_
                      rintro e W' ⟨vl, rfl, hul, g9⟩
                      exact hK _ _ g9 (Gr.trans hinv g9) (fun d hd => by cases hd; exact hul.usl)
                    refine Flow.Steps.cons (fun a W hfr hinv hdep K hK => ?_) ?_
                    · have s4 : a.tmps.getD 4 undef = .pointer (some ⟨ob, 0, none⟩) := hfr.at 4 (by kernel_rfl)
                      have t4 : a.tmps[4]?.getD undef = .pointer (some ⟨ob, 0, none⟩) := by simpa using s4
                      rw [if_pos (Flow.wanted_none rfl)]
                      obtain ⟨q0, q1, q2, q3, q4, q5⟩ := HF12.out W hinv
                      clear hfr hdep
                      go_simp
                      exact hK _ _ (Gr.refl _) hinv (fun d hd => by cases hd; rfl)
                    refine Flow.Steps.cons (fun a W hfr hinv hdep K hK => ?_) ?_
                    · have s7 : a.tmps.getD 7 undef = .pointer (some ⟨ib, 0, none⟩) := hfr.at 7 (by kernel_rfl)
                      have t7 : a.tmps[7]?.getD undef = .pointer (some ⟨ib, 0, none⟩) := by simpa using s7
                      rw [if_pos (Flow.wanted_none rfl)]
                      obtain ⟨q0, q1, q2, q3, q4, q5⟩ := HF12.out W hinv
                      clear hfr hdep
                      go_simp
                      exact hK _ _ (Gr.refl _) hinv (fun d hd => by cases hd; rfl)
                    refine Flow.Steps.cons (fun a W hfr hinv hdep K hK => ?_) ?_
                    · have s130 : a.tmps.getD 130 undef = .slice (some ⟨g4, 0, none⟩) N c4 := hdep 130 (by kernel_rfl)
                      have t130 : a.tmps[130]?.getD undef = .slice (some ⟨g4, 0, none⟩) N c4 := by simpa using s130
                      have s131 : a.tmps.getD 131 undef = .int .i64 (i : Int) := hdep 131 (by kernel_rfl)
                      have t131 : a.tmps[131]?.getD undef = .int .i64 (i : Int) := by simpa using s131
                      rw [if_pos (Flow.wanted_none rfl)]
                      obtain ⟨q0, q1, q2, q3, q4, q5⟩ := HF12.out W hinv
                      clear hfr hdep
                      go_simp
                      exact hK _ _ (Gr.refl _) hinv (fun d hd => by cases hd; rfl)
                    refine Flow.Steps.cons (fun a W hfr hinv hdep K hK => ?_) ?_
                    · have s132 : a.tmps.getD 132 undef = .pointer (some ⟨g4, i, none⟩) := hdep 132 (by kernel_rfl)
                      have t132 : a.tmps[132]?.getD undef = .pointer (some ⟨g4, i, none⟩) := by simpa using s132
                      rw [if_pos (Flow.wanted_none rfl)]
                      obtain ⟨q0, q1, q2, q3, q4, q5⟩ := HF12.out W hinv
                      clear hfr hdep
                      go_simp
                      exact hK _ _ (Gr.refl _) hinv (fun d hd => by cases hd; rfl)
                    refine Flow.Steps.cons (fun a W hfr hinv hdep K hK => ?_) ?_
                    · obtain ⟨vl, hvl⟩ : ∃ vl, vl = a.tmps.getD 129 undef := ⟨_, rfl⟩
                      have s129 : USl W (a.tmps.getD 129 undef) ((T.lkOf (T.of o).key).line.map Prod.fst) := hdep 129 (by kernel_rfl)
                      rw [← hvl] at s129
                      have t129 : a.tmps[129]?.getD undef = vl := by simpa using hvl.symm
                      clear hvl
                      have s133 : a.tmps.getD 133 undef = .int .u64 (o : Int) := hdep 133 (by kernel_rfl)
                      have t133 : a.tmps[133]?.getD undef = .int .u64 (o : Int) := by simpa using s133
                      rw [if_pos (Flow.wanted_none rfl)]
                      obtain ⟨q0, q1, q2, q3, q4, q5⟩ := HF12.out W hinv
                      clear hfr hdep
                      go_simp
                      refine (in_any s129 HLL.out o).mono ?_
                      rintro e W' ⟨rfl, g9⟩
                      rw [← HWD.out.1]
                      exact hK _ _ g9 (Gr.trans hinv g9) (fun d hd => by cases hd; rfl)
                    refine Flow.Steps.cons (fun a W hfr hinv hdep K hK => ?_) ?_
                    · have s126 : a.tmps.getD 126 undef = .bool true := hdep 126 (by kernel_rfl)
                      have t126 : a.tmps[126]?.getD undef = .bool true := by simpa using s126
                      have s134 : a.tmps.getD 134 undef = .bool true := hdep 134 (by kernel_rfl)
                      have t134 : a.tmps[134]?.getD undef = .bool true := by simpa using s134
                      rw [if_pos (Flow.wanted_none rfl)]
                      obtain ⟨q0, q1, q2, q3, q4, q5⟩ := HF12.out W hinv
                      clear hfr hdep
                      go_simp
                      exact hK _ _ (Gr.refl _) hinv (fun d hd => by cases hd; rfl)
                    refine Flow.Steps.cons (fun a W hfr hinv hdep K hK => ?_) ?_
                    · have s135 : a.tmps.getD 135 undef = .bool false := hdep 135 (by kernel_rfl)
                      have t135 : a.tmps[135]?.getD undef = .bool false := by simpa using s135
                      rw [if_pos (Flow.wanted_none rfl)]
                      obtain ⟨q0, q1, q2, q3, q4, q5⟩ := HF12.out W hinv
                      clear hfr hdep
                      go_simp
                      exact hK _ _ (Gr.refl _) hinv (fun d hd => by cases hd; rfl)
                    refine Flow.Steps.cons (fun a W hfr hinv hdep K hK => ?_) ?_
                    · have s14 : a.tmps.getD 14 undef = .bool true := hfr.at 14 (by kernel_rfl)
                      have t14 : a.tmps[14]?.getD undef = .bool true := by simpa using s14
                      have s136 : a.tmps.getD 136 undef = .bool false := hdep 136 (by kernel_rfl)
                      have t136 : a.tmps[136]?.getD undef = .bool false := by simpa using s136
                      rw [if_neg (Flow.wanted_no 10 true 136 rfl (by kernel_rfl) s136)]
                      exact hK _ _ (Gr.refl _) hinv (fun d hd => by cases hd; exact fun e => by cases e)
                    refine Flow.Steps.cons (fun a W hfr hinv hdep K hK => ?_) ?_
                    · have s136 : a.tmps.getD 136 undef = .bool false := hdep 136 (by kernel_rfl)
                      have t136 : a.tmps[136]?.getD undef = .bool false := by simpa using s136
                      rw [if_pos (Flow.wanted_none rfl)]
                      obtain ⟨q0, q1, q2, q3, q4, q5⟩ := HF12.out W hinv
                      clear hfr hdep
                      go_simp
                      exact hK _ _ (Gr.refl _) hinv (fun d hd => by cases hd; rfl)
                    exact True.intro
                  case fin =>
                    intro a w14 hfr hfin hsl
                    have s138 : a.tmps.getD 138 undef = .bool false := hsl 12 _ 138 rfl rfl
                    have t138 : a.tmps[138]?.getD undef = .bool false := by simpa using s138
                    have e := Flow.frame hfr [126, 127, 128, 129, 130, 131, 132, 133, 134, 135, 136, 137, 138] (List.range 147) (by kernel_rfl) (by kernel_rfl)
                    simp (config := {maxSteps := 4000000}) [List.range, List.range.loop] at e
                    rw [t138] at e
                    rw [e]
                    clear e hfr hsl s138 t138
                    have HG14 := Lib.hid hfin
                    clear hfin
                    obtain ⟨-, -, -, -, n14, -⟩ := HF12.out w14 HG14.out
                    have hplus : IntKind.i64.wrap ((i : Int) + 1) = (i : Int) + 1 := IntWalk.i64_in _ (by omega)
                    go_wp2_with fail
                    refine And.intro ?_ ?_
                    · first
                        | exact ⟨i + 1, D :: Ds, rfl, by omega, Lib.hid (H12.out.1.more HG14.out).place⟩
                        | ((repeat apply Exists.intro); exact And.intro ⟨i + 1, _, D :: Ds, rfl, rfl, by omega, Lib.hid (H12.out.1.more HG14.out).place⟩ rfl)
                    · have m1 := ((H12.out.1.more HG14.out).place).bi.cell 0
                      have m0 := hH.out.bi.cell 0
                      simp at m1 m0
                      simp [ptA, m0, intOf]
                      omega
          · have g5 : ¬ (i : Int) < (N : Int) := by omega
            have hmn : T.many = ((sumN T.cnt (ow.take i) : Nat) : Int) := by
              have h := hH.out.hl
              have e : ow.take i = ow := List.take_of_length_le (by have := HN.out.1; omega)
              rw [e]
              exact h.inv.cnt ow h.nd fun o ho => by
                have hs := h.inv.some_py (o := o) fun e => ho (by unfold Tb.cnt; rw [e]; rfl)
                rcases h.sub o hs with e | e
                · exact e
                · cases e
            obtain ⟨cc, hcc⟩ : ∃ cc, cc = sumN T.cnt (ow.take i) := ⟨_, rfl⟩
            rw [← hcc] at hmn hH
            have HM := Lib.hid hmn
            have HFE : Hid (∀ W, Gr w8 W → W.cell? ⟨nb, 0, none⟩ = some (.int .i64 (cc : Int)) ∧ W.cell? ⟨vb, 0, none⟩ = some (.pointer (some ⟨t, 0, none⟩))) := Lib.hid fun W g => ⟨(hH.out.bn.gr g).cell 0, (hH.out.hl.bv.gr g).cell 0⟩
            clear hmn hcc
            go_upto_region 37 with fail
            first | (go_region_held3 (fun W => W.cell? ⟨nb, 0, none⟩ = some (.int .i64 (cc : Int)) ∧ W.cell? ⟨vb, 0, none⟩ = some (.pointer (some ⟨t, 0, none⟩))) (first | exact HFE.out _ (Gr.refl w8).drew | exact HFE.out _ HG10.out.1 | exact ⟨HG10.out.2.2.1, HG10.out.2.2.2.1⟩)
              (first | (go_at_call 16; refine (Len_any (hH.out.hl.more (Gr.refl w8).drew).tb).mono ?_; rintro e w9 ⟨rfl, rfl⟩; rw [HM.out])
                     | (go_at_call 7; refine (known10_any _).mono ?_; rintro e w10 ⟨rfl, g10⟩; have g11 := Gr.trans (Gr.refl w8).drew g10; have HG10 := Lib.hid (And.intro g11 ((hH.out.more g11).out rfl)); have r0 := (hH.out.more g11).hl.br.cell 0; have r1 := (hH.out.more g11).hl.br.frozen 0; simp at r0; clear g10 g11))) | fail
            go_wp2_with fail
            refine leaves_marks Ds _ hH.out.dn HG10.out.2.1 fun W' hw => ?_
            obtain ⟨q1, q2⟩ := HG10.out.2.2.2.2 W' hw
            exact ⟨_, results_cell_one rfl Try.isAgg4 _ _ ⟨rb, 0, none⟩ (.bool true) rfl q1, rfl, q2⟩
end Go.Proofs.Ytbmcdlcoojmppaa

