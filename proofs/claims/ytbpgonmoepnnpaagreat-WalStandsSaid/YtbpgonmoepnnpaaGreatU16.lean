/-
  Part 16 of what the laws of stage 6 rest on: contracts of the functions that they call, and what these rest on.
-/
import Derived.Test.YtbpgonmoepnnpaaGreatU15
import Derived.Test.YtbpgonmoepnnpaaGreatU1
set_option linter.unusedVariables false
set_option linter.unusedSimpArgs false
namespace Go.Proofs.YtbpgonmoepnnpaaGreat
open Go.RowKit Go.Maps
def RxRow (V : World) (b A : Nat) (z : RX) : Prop := V.cell? ⟨b, A, none⟩ = some (.int .i64 z.c.k) ∧ V.cell? ⟨b, A + 1, none⟩ = some (.int .u64 z.c.t) ∧ V.cell? ⟨b, A + 2, none⟩ = some (.int .u64 z.c.p) ∧ V.cell? ⟨b, A + 3, none⟩ = some (.int .u64 z.c.x) ∧ V.cell? ⟨b, A + 4, none⟩ = some (.int .i64 z.c.g) ∧ V.cell? ⟨b, A + 5, none⟩ = some (.int .i64 z.c.o) ∧ V.cell? ⟨b, A + 6, none⟩ = some (.slice z.pb z.nb z.cb) ∧ V.cell? ⟨b, A + 7, none⟩ = some (.slice z.pa z.na z.ca)
theorem Recs.row {w : World} {p : Option Addr} {n c : Nat} (h : Recs w p n c) (k : Nat) (hk : k < n) : ∃ b o z, p = some ⟨b, o, none⟩ ∧ z.c.In ∧ ∀ V, Gr w V → RxRow V b (o + k * 8) z ∧ Byt V z.pb z.nb z.cb z.c.b ∧ Byt V z.pa z.na z.ca z.c.a := by
 obtain ⟨b, o, rfl, hc⟩ := h.lies (by omega); obtain ⟨z, hz, hzb, hza, hzi⟩ := hc k hk; refine ⟨b, o, z, rfl, hzi, fun V gr => ⟨?_, hzb.kept gr, hza.kept gr⟩⟩
 have cz : ∀ j v, w.cell? ⟨b, j, none⟩ = some v → V.cell? ⟨b, j, none⟩ = some v := fun j v h => (Below.cell gr (p := ⟨b, j, none⟩) (blk_lt h)).trans h
 obtain ⟨z0, z1, z2, z3, z4, z5, z6, z7⟩ := hz; exact ⟨cz _ _ z0, cz _ _ z1, cz _ _ z2, cz _ _ z3, cz _ _ z4, cz _ _ z5, cz _ _ z6, cz _ _ z7⟩
structure StK (k : Nat) (s : St) (L : Lg) : Prop where
 ok : L.Ok
 l : L.l = 16
 fin : L.fin ≤ 1300 * k
 al : s.Alive
 len : s.ls.length = 64
 wr : s.writes ≤ 500 * k
 less : ∀ i, (s.t i).length ≤ s.writes
theorem StK.app {k : Nat} {s : St} {L : Lg} (h : StK k s L) (r : Rc) (hr : sizeR r ≤ 1300) (hk : k ≤ 100) : StK (k + 1) s (layL L r L.free) := by
 have hf := h.fin; refine ⟨append_ok h.ok r (by omega), by rw [layL_l]; exact h.l, ?_, h.al, h.len, by have := h.wr; omega, h.less⟩
 by_cases he : layE r L.free = 0
 · rw [(layL_free h.ok r he).2]; omega
 · rw [layL_same he]; omega
theorem StK.fl {k : Nat} {s : St} {L : Lg} (h : StK k s L) (h0 : s.writes + 500 ≤ 500 * k) : StK k (flS s L L.fin) (flL s L L.fin) := by
 have hw := flS_stw (s := s) h.ok h.less L.fin; have hl := flL_facts (s := s) h.ok L.fin; exact ⟨hl.1, by rw [hl.2.l]; exact h.l, by rw [hl.2.fin]; exact h.fin, (fl_alive h.al h.ok).1, by rw [hw.len]; exact h.len, by have := hw.wr; omega, hw.less⟩
set_option maxRecDepth 100000 in
set_option maxHeartbeats 4000000 in
theorem walStands_main (p : Option Addr) (n c : Nat) (p2 : Option Addr) (m c2 : Nat) (xs : List Bool) (w : World) (hb : Recs w p n c) (hb2 : Bls w p2 m c2 xs) (hn : n ≤ 60) :
  Calls Tryz.prog 7 #[.slice p n c, .slice p2 m c2] w (RetB true w) := by
 have HR := Lib.hid hb; have HB2 := Lib.hid hb2; have HM := Lib.hid hb2.most
 have h60 : ¬ (60 : Int) < (n : Int) := by omega
 obtain ⟨L2, hL2⟩ : ∃ L, L = newL 64 16 1 1 0 := ⟨_, rfl⟩; have HBg : Hid (∀ V, Calls Tryz.prog 10 #[] V (fun e w' => ∃ bp S T pd pw pl pm, e = .returned (.tuple #[.pointer (some ⟨bp, 0, none⟩), .bool true]) ∧ PrB V w' bp S T pd pw pl pm zeroD L2 zeroD L2 20000)) := Lib.hid (by rw [hL2]; exact begin_any); have HK0 : Hid (StK 0 zeroD L2) := Lib.hid ⟨by rw [hL2]; exact newL_ok.1, by rw [hL2]; rfl, by rw [hL2]; exact Nat.le_refl _, zeroD_alive, by simp [zeroD, fresh], by simp [zeroD, fresh], zeroD_less⟩; clear hb hb2 hL2
 go_enter Tryz.func7, Tryz.ntmps7
 go_wp2_with fail; refine (HBg.out w).mono ?_; rintro e w1 ⟨bp, S, T, pd, pw, pl, pm, rfl, hp⟩; obtain ⟨⟨lb, rfl⟩, _⟩ := hp.code.ptr; have HP := Lib.hid hp; have hc2 := hp.blk.cell 2
 simp at hc2
 clear hp HBg; have HFr := Lib.hid (HP.out.code.Free HK0.out.ok); go_wp2_with fail; refine HFr.out.mono ?_; rintro e w2 ⟨rfl, g2⟩; have HP2 := Lib.hid (HP.out.up g2); clear g2 hc2 HP HFr; have HP := HP2; clear HP2; go_wp2_with fail
 go_loopw [7, 8] (fun fv iv wr => ∃ (k : Nat) (S : Nat → Prop) (s : St) (L : Lg), k ≤ n ∧ iv = .int .i64 (k : Int) ∧ fv = .int .i64 L.free ∧ Hid (PrB w wr bp S T pd pw (.pointer (some ⟨lb, 0, none⟩)) pm s L zeroD L2 20000) ∧ Hid (StK k s L)) (fun _ iv _ => n - (intOf iv).toNat)
 case atStart => exact ⟨0, S, zeroD, L2, Nat.zero_le _, rfl, rfl, HP, HK0⟩
 case round =>
  obtain ⟨k, S, s, L, hk, rfl, rfl, HP, HK⟩ := hrel
  by_cases hlt : k < n
  ·
   have g3 : (k : Int) < (n : Int) := by omega
   obtain ⟨b, o, z, rfl, hzi, hrow⟩ := HR.out.row k hlt; have HZ := Lib.hid hrow; have HZI := Lib.hid hzi; have HKn : Hid (k < n ∧ k ≤ 60) := Lib.hid ⟨hlt, by omega⟩; obtain ⟨F, hF⟩ : ∃ F, F = L.free := ⟨_, rfl⟩; have HFF := Lib.hid hF; obtain ⟨A, hA⟩ : ∃ A, A = o + k * 8 := ⟨_, rfl⟩
   rw [← hA] at HZ
   have hA' : o + k * 8 = A := hA.symm; rw [← hF]; clear hrow hzi hlt hk hF hA; obtain ⟨x0, x1, x2, x3, x4, x5, x6, x7⟩ := (HZ.out wr HP.out.gr).1; go_wp2_with fail; refine (refMuch_any z.c.k z.c.t z.c.p z.c.x z.c.g z.c.o z.pb z.nb z.cb z.pa z.na z.ca wr).mono ?_; rintro e w3 ⟨rfl, g4⟩; have HP3 := Lib.hid (HP.out.up g4); clear g4 x0 x1 x2 x3 x4 x5 x6 x7 HP
   cases hmu : muchR z.nb z.na with
   | true =>
    clear hmu; go_wp2_with fail; refine (wknown_any w3).mono ?_; rintro e w4 ⟨rfl, g5⟩; go_wp2_with fail
    go_ret
    exact ⟨rfl, Gr.trans HP3.out.gr g5⟩
   | false =>
    have HMu : Hid (sizeR z.c ≤ 1300) := Lib.hid (by
     have h1 := (HZ.out w3 HP3.out.gr).2.1.len; have h2 := (HZ.out w3 HP3.out.gr).2.2.len
     have h3 : ¬ 600 < z.nb ∧ ¬ 600 < z.na := by
      unfold muchR at hmu
      simpa using hmu
     unfold sizeR
     split <;> omega)
    clear hmu; have hc2 := HP3.out.blk.cell 2
    simp at hc2
    obtain ⟨E, hE⟩ : ∃ E, E = L.fin := ⟨_, rfl⟩; have HE := Lib.hid hE; have HEn : Hid (Calls Tryz.prog 18 #[.pointer (some ⟨lb, 0, none⟩)] w3 (RetU E w3)) := Lib.hid (by rw [HE.out]; exact HP3.out.code.End HK.out.ok); clear hE; go_wp2_with fail; refine HEn.out.mono ?_; rintro e w4 ⟨rfl, g5⟩; have HP4 := Lib.hid (HP3.out.up g5); clear g5 hc2 HEn HP3; obtain ⟨Y, hY⟩ : ∃ Y, Y = layE z.c L.free := ⟨_, rfl⟩; obtain ⟨X, hX⟩ : ∃ X, X = layA L z.c L.free := ⟨_, rfl⟩; obtain ⟨L1, hL1⟩ : ∃ L1, L1 = layL L z.c L.free := ⟨_, rfl⟩; have HD := Lib.hid (And.intro hY (And.intro hX hL1)); clear hY hX hL1
    have HAp : Hid (Calls Tryz.prog 16 #[.pointer (some ⟨lb, 0, none⟩), .agg #[.int .i64 z.c.k, .int .u64 z.c.t, .int .u64 z.c.p, .int .u64 z.c.x, .int .i64 z.c.g, .int .i64 z.c.o, .slice z.pb z.nb z.cb, .slice z.pa z.na z.ca]] w4.drew (RetC (.tuple #[.int .u64 (X : Int), .int .i64 Y]) s L1 S pd (.pointer (some ⟨lb, 0, none⟩)) w4.drew)) := Lib.hid (by
     have hg := (Gr.refl w4).drew; have hr := HZ.out w4.drew (Gr.trans HP4.out.gr hg); have h := (HP4.out.up hg).code.Append HK.out.ok z.c HZI.out z.pb z.nb z.cb z.pa z.na z.ca hr.2.1 hr.2.2
     rw [← HD.out.1, ← HD.out.2.1, ← HD.out.2.2] at h
     exact h)
    have hc2 := HP4.out.blk.cell 2
    simp at hc2
    have hc8 := (HZ.out w4 HP4.out.gr).1
    unfold RxRow at hc8
    go_wp2_with fail
    go_region_held3 (fun V => V.cell? ⟨bp, 2, none⟩ = some (.pointer (some ⟨lb, 0, none⟩)) ∧ V.cell? ⟨b, A, none⟩ = some (.int .i64 z.c.k) ∧ V.cell? ⟨b, A + 1, none⟩ = some (.int .u64 z.c.t) ∧ V.cell? ⟨b, A + 2, none⟩ = some (.int .u64 z.c.p) ∧ V.cell? ⟨b, A + 3, none⟩ = some (.int .u64 z.c.x) ∧ V.cell? ⟨b, A + 4, none⟩ = some (.int .i64 z.c.g) ∧ V.cell? ⟨b, A + 5, none⟩ = some (.int .i64 z.c.o) ∧ V.cell? ⟨b, A + 6, none⟩ = some (.slice z.pb z.nb z.cb) ∧ V.cell? ⟨b, A + 7, none⟩ = some (.slice z.pa z.na z.ca)) (first | exact ⟨hc2, hc8⟩ | exact ⟨hc2', hc8'⟩) (first | (go_at_call 16; refine HAp.out.mono ?_; rintro e w5 ⟨S5, rfl, hcc, huu⟩; have HP5 : Hid (PrB w w5 bp S5 T pd pw (.pointer (some ⟨lb, 0, none⟩)) pm s L1 zeroD L2 20000) := Lib.hid ((HP4.out.up ((Gr.refl w4).drew)).codes hcc huu); have hc2' := HP5.out.blk.cell 2; simp at hc2'; have hc8' := (HZ.out w5 HP5.out.gr).1; unfold RxRow at hc8'))
    clear hc2 hc8 hcc huu hc2' hc8' HAp HP4; obtain ⟨x0, x1, x2, x3, x4, x5, x6, x7⟩ := (HZ.out w5 HP5.out.gr).1; obtain ⟨SZ, hSZ⟩ : ∃ SZ, SZ = sizeR z.c := ⟨_, rfl⟩; have HSZ := Lib.hid hSZ
    have HSz : Hid (Calls Tryz.prog 14 #[.agg #[.int .i64 z.c.k, .int .u64 z.c.t, .int .u64 z.c.p, .int .u64 z.c.x, .int .i64 z.c.g, .int .i64 z.c.o, .slice z.pb z.nb z.cb, .slice z.pa z.na z.ca]] w5 (RetI (SZ : Int) w5)) := Lib.hid (by
     have hr := HZ.out w5 HP5.out.gr; rw [HSZ.out]
     exact refSize_any z.c z.pb z.nb z.cb z.pa z.na z.ca w5 hr.2.1 hr.2.2)
    clear hSZ; go_wp2_with fail; refine HSz.out.mono ?_; rintro e w6 ⟨rfl, g6⟩; have HP6 := Lib.hid (HP5.out.up g6); clear g6 HSz HP5 x0 x1 x2 x3 x4 x5 x6 x7; obtain ⟨x0, x1, x2, x3, x4, x5, x6, x7⟩ := (HZ.out w6 HP6.out.gr).1
    have HMy : Hid (Calls Tryz.prog 35 #[.agg #[.int .i64 z.c.k, .int .u64 z.c.t, .int .u64 z.c.p, .int .u64 z.c.x, .int .i64 z.c.g, .int .i64 z.c.o, .slice z.pb z.nb z.cb, .slice z.pa z.na z.ca]] w6 (RetB (mayR z.c) w6)) := Lib.hid (by
     have hr := HZ.out w6 HP6.out.gr
     exact refMay_any z.c z.pb z.nb z.cb z.pa z.na z.ca w6 hr.2.1 hr.2.2)
    go_wp2_with fail; refine HMy.out.mono ?_; rintro e w7 ⟨rfl, g7⟩; have HP7 := Lib.hid (HP6.out.up g7); clear g7 HMy HP6 x0 x1 x2 x3 x4 x5 x6 x7
    have HNum : Hid (0 ≤ F ∧ F ≤ 60000 ∧ E ≤ 1300 * k ∧ SZ ≤ 1300) := Lib.hid (by
     have h1 := free_le HK.out.ok
     rw [← HFF.out] at h1
     have h2 := HK.out.fin
     rw [← HE.out] at h2
     have h3 := HMu.out
     rw [← HSZ.out] at h3
     exact ⟨h1.1, h1.2.1, h2, h3⟩)
    have HK1 : Hid (StK (k + 1) s L1) := Lib.hid (by rw [HD.out.2.2]; exact HK.out.app z.c HMu.out (by have := HKn.out.2; omega))
    cases hm : mayR z.c with
    | false =>
     have HY : Hid (Y = 2 ∧ L1 = L) := Lib.hid (by
      have h : layE z.c L.free = 2 := by unfold layE; rw [hm]; rfl
      exact ⟨HD.out.1.trans h, by rw [HD.out.2.2]; exact layL_same (by rw [h]; decide)⟩)
     obtain rfl : Y = 2 := HY.out.1; obtain ⟨F1, hF1⟩ : ∃ F1, F1 = F := ⟨_, rfl⟩; obtain ⟨E1, hE1⟩ : ∃ E1, E1 = E := ⟨_, rfl⟩; have HL1 : Hid (L1.free = F1 ∧ L1.fin = E1) := Lib.hid ⟨by rw [HY.out.2, hF1]; exact HFF.out.symm, by rw [HY.out.2, hE1]; exact HE.out.symm⟩
     have hfw : wrap64 F = F1 := by have := HNum.out; unfold wrap64; omega
     have hea : IntKind.u64.wrap (E : Int) = (E1 : Int) := by have := HNum.out; have := HKn.out; rw [IntKind.wrap_u64]; omega
     have hea2 : (E : Int) % 18446744073709551616 = (E1 : Int) := by have := HNum.out; have := HKn.out; omega
     clear hm HY hF1 hE1; have hc2 := HP7.out.blk.cell 2
     simp at hc2
     have HEnV : Hid (∀ V S' s', PrB w V bp S' T pd pw (.pointer (some ⟨lb, 0, none⟩)) pm s' L1 zeroD L2 20000 → Calls Tryz.prog 18 #[(.pointer (some ⟨lb, 0, none⟩))] V (RetU E1 V)) := Lib.hid fun V S' s' h => by rw [← HL1.out.2]; exact h.code.End HK1.out.ok
     go_wp2_with fail; refine (HEnV.out w7 _ _ HP7.out).mono ?_; rintro e w8 ⟨rfl, g8⟩; have HP8 := Lib.hid (HP7.out.up g8); clear g8 HP7 hc2; have hc2 := HP8.out.blk.cell 2
     simp at hc2
     have HFr : Hid (Calls Tryz.prog 19 #[(.pointer (some ⟨lb, 0, none⟩))] w8 (RetI F1 w8)) := Lib.hid (by rw [← HL1.out.1]; exact HP8.out.code.Free HK1.out.ok); go_wp2_with fail; refine HFr.out.mono ?_; rintro e w9 ⟨rfl, g9⟩; have HP9 := Lib.hid (HP8.out.up g9); clear g9 HP8 hc2 HFr
     have hq : IntKind.i64.wrap ((k : Int) + 1) = ((k + 1 : Nat) : Int) := by have := HKn.out; rw [IntWalk.i64_in _ (by omega)]; omega
     have HMe : Hid (k + 1 ≤ n ∧ n - (k + 1) < n - k) := Lib.hid (by have := HKn.out; omega)
     by_cases hf : k < m
     ·
      have g9 : (k : Int) < (m : Int) := by omega
      obtain ⟨b2, o2, rfl, hfl⟩ := (HB2.out.gr HP9.out.gr).lies (by omega); have hfc := hfl k hf; clear hfl hf
      cases hfb : xs.getD k false with
      | false =>
       rw [hfb] at hfc
       clear hfb; go_wp2_with fail
       go_roundw
       case rel => exact ⟨k + 1, _, s, L1, HMe.out.1, rfl, by rw [HL1.out.1], HP9, HK1⟩
       case measure => exact HMe.out.2
      | true =>
       rw [hfb] at hfc
       clear hfb; have hc2 := HP9.out.blk.cell 2
       simp at hc2
       obtain ⟨s2, hs2⟩ : ∃ s2, s2 = flS s L1 E1 := ⟨_, rfl⟩; obtain ⟨L3, hL3⟩ : ∃ L3, L3 = flL s L1 E1 := ⟨_, rfl⟩
       have HFa : Hid (flE s L1 E1 = 0 ∧ L3.lasts = E1 ∧ L3.fin = E1 ∧ L3.free = F1 ∧ StK (k + 1) s2 L3) := Lib.hid (by
        have h1 := fl_alive HK1.out.al HK1.out.ok; have h2 := flL_facts (s := s) HK1.out.ok L1.fin; have h3 := HK1.out.fl (by have := HK.out.wr; omega)
        rw [HL1.out.2] at h1 h2 h3
        rw [hL3, hs2]
        exact ⟨h1.2.1, h1.2.2, by rw [h2.2.fin, HL1.out.2], by rw [h2.2.free, HL1.out.1], h3⟩)
       have HFu : Hid (∀ V S', PrB w V bp S' T pd pw (.pointer (some ⟨lb, 0, none⟩)) pm s L1 zeroD L2 20000 → Calls Tryz.prog 17 #[(.pointer (some ⟨lb, 0, none⟩)), .int .u64 (E1 : Int)] V (RetC (.int .i64 0) s2 L3 S' pd (.pointer (some ⟨lb, 0, none⟩)) V)) := Lib.hid fun V S' h => by
        have h := h.code.Flush HK1.out.ok (by rw [HK1.out.l, HK1.out.len]; decide) (by have := HK1.out.wr; have := HKn.out; omega) E1 (by have := HK1.out.fin; rw [HL1.out.2] at this; have := HKn.out; omega)
        rw [HFa.out.1, ← hs2, ← hL3] at h
        exact h
       have HLa : Hid (∀ V S', PrB w V bp S' T pd pw (.pointer (some ⟨lb, 0, none⟩)) pm s2 L3 zeroD L2 20000 → Calls Tryz.prog 30 #[(.pointer (some ⟨lb, 0, none⟩))] V (RetU E1 V)) := Lib.hid fun V S' h => by rw [← HFa.out.2.1]; exact h.code.Lasts
       have HEn3 : Hid (∀ V S', PrB w V bp S' T pd pw (.pointer (some ⟨lb, 0, none⟩)) pm s2 L3 zeroD L2 20000 → Calls Tryz.prog 18 #[(.pointer (some ⟨lb, 0, none⟩))] V (RetU E1 V)) := Lib.hid fun V S' h => by
        have h2 := h.code.End HFa.out.2.2.2.2.ok
        rwa [HFa.out.2.2.1] at h2
       have HFr3 : Hid (∀ V S', PrB w V bp S' T pd pw (.pointer (some ⟨lb, 0, none⟩)) pm s2 L3 zeroD L2 20000 → Calls Tryz.prog 19 #[(.pointer (some ⟨lb, 0, none⟩))] V (RetI F1 V)) := Lib.hid fun V S' h => by
        have h2 := h.code.Free HFa.out.2.2.2.2.ok
        rwa [HFa.out.2.2.2.1] at h2
       clear hs2 hL3; go_wp2_with fail
       go_region_held3 (fun V => V.cell? ⟨bp, 2, none⟩ = some (.pointer (some ⟨lb, 0, none⟩))) (first | exact hc2 | exact ya | exact yb | exact yc | exact yd | exact ye) (first
        | (go_at_call 18; (with_reducible refine (HEnV.out w9.drew _ _ (HP9.out.up ((Gr.refl w9).drew))).mono ?_); rintro e v1 ⟨rfl, h1⟩; have HA1 := Lib.hid ((HP9.out.up ((Gr.refl w9).drew)).up h1); have ya := HA1.out.blk.cell 2; simp at ya)
        | (go_at_call 17; refine (HFu.out v1 _ HA1.out).mono ?_; rintro e v2 ⟨S9, rfl, hcc, huu⟩; have HA2 := Lib.hid (HA1.out.codes hcc huu); have yb := HA2.out.blk.cell 2; simp at yb)
        | (go_at_call 30; refine (HLa.out v2 _ HA2.out).mono ?_; rintro e v3 ⟨rfl, h3⟩; have HA3 := Lib.hid (HA2.out.up h3); have yc := HA3.out.blk.cell 2; simp at yc)
        | (go_at_call 18; (with_reducible refine (HEn3.out v3 _ HA3.out).mono ?_); rintro e v4 ⟨rfl, h4⟩; have HA4 := Lib.hid (HA3.out.up h4); have yd := HA4.out.blk.cell 2; simp at yd)
        | (go_at_call 19; refine (HFr3.out v4 _ HA4.out).mono ?_; rintro e v5 ⟨rfl, h5⟩; have HA5 := Lib.hid (HA4.out.up h5); have ye := HA5.out.blk.cell 2; simp at ye))
       clear hc2 ya yb yc yd ye hcc huu h1 h3 h4 h5; go_wp2_with fail
       go_roundw
       case rel => exact ⟨k + 1, _, s2, L3, HMe.out.1, rfl, by rw [HFa.out.2.2.2.1], HA5, Lib.hid HFa.out.2.2.2.2⟩
       case measure => exact HMe.out.2
     ·
      have g9 : ¬ (k : Int) < (m : Int) := by omega
      clear hf; go_wp2_with fail
      go_roundw
      case rel => exact ⟨k + 1, _, s, L1, HMe.out.1, rfl, by rw [HL1.out.1], HP9, HK1⟩
      case measure => exact HMe.out.2
    | true =>
     by_cases hroom : F < (SZ : Int)
     ·
      have HY : Hid (Y = 5 ∧ L1 = L) := Lib.hid (by
       have h : layE z.c L.free = 5 := by
        unfold layE
        have hz := sizeR_may hm; have h2 := HFF.out; have h3 := HSZ.out; rw [if_pos hm, if_pos (by omega)]
       exact ⟨HD.out.1.trans h, by rw [HD.out.2.2]; exact layL_same (by rw [h]; decide)⟩)
      obtain rfl : Y = 5 := HY.out.1; obtain ⟨F1, hF1⟩ : ∃ F1, F1 = F := ⟨_, rfl⟩; obtain ⟨E1, hE1⟩ : ∃ E1, E1 = E := ⟨_, rfl⟩; have HL1 : Hid (L1.free = F1 ∧ L1.fin = E1) := Lib.hid ⟨by rw [HY.out.2, hF1]; exact HFF.out.symm, by rw [HY.out.2, hE1]; exact HE.out.symm⟩
      have hfw : wrap64 F = F1 := by have := HNum.out; unfold wrap64; omega
      have hea : IntKind.u64.wrap (E : Int) = (E1 : Int) := by have := HNum.out; have := HKn.out; rw [IntKind.wrap_u64]; omega
      have hea2 : (E : Int) % 18446744073709551616 = (E1 : Int) := by have := HNum.out; have := HKn.out; omega
      clear hm HY hF1 hE1; have hc2 := HP7.out.blk.cell 2
      simp at hc2
      have HEnV : Hid (∀ V S' s', PrB w V bp S' T pd pw (.pointer (some ⟨lb, 0, none⟩)) pm s' L1 zeroD L2 20000 → Calls Tryz.prog 18 #[(.pointer (some ⟨lb, 0, none⟩))] V (RetU E1 V)) := Lib.hid fun V S' s' h => by rw [← HL1.out.2]; exact h.code.End HK1.out.ok
      go_wp2_with fail; refine (HEnV.out w7 _ _ HP7.out).mono ?_; rintro e w8 ⟨rfl, g8⟩; have HP8 := Lib.hid (HP7.out.up g8); clear g8 HP7 hc2; have hc2 := HP8.out.blk.cell 2
      simp at hc2
      have HFr : Hid (Calls Tryz.prog 19 #[(.pointer (some ⟨lb, 0, none⟩))] w8 (RetI F1 w8)) := Lib.hid (by rw [← HL1.out.1]; exact HP8.out.code.Free HK1.out.ok); go_wp2_with fail; refine HFr.out.mono ?_; rintro e w9 ⟨rfl, g9⟩; have HP9 := Lib.hid (HP8.out.up g9); clear g9 HP8 hc2 HFr
      have hq : IntKind.i64.wrap ((k : Int) + 1) = ((k + 1 : Nat) : Int) := by have := HKn.out; rw [IntWalk.i64_in _ (by omega)]; omega
      have HMe : Hid (k + 1 ≤ n ∧ n - (k + 1) < n - k) := Lib.hid (by have := HKn.out; omega)
      by_cases hf : k < m
      ·
       have g9 : (k : Int) < (m : Int) := by omega
       obtain ⟨b2, o2, rfl, hfl⟩ := (HB2.out.gr HP9.out.gr).lies (by omega); have hfc := hfl k hf; clear hfl hf
       cases hfb : xs.getD k false with
       | false =>
        rw [hfb] at hfc
        clear hfb; go_wp2_with fail
        go_roundw
        case rel => exact ⟨k + 1, _, s, L1, HMe.out.1, rfl, by rw [HL1.out.1], HP9, HK1⟩
        case measure => exact HMe.out.2
       | true =>
        rw [hfb] at hfc
        clear hfb; have hc2 := HP9.out.blk.cell 2
        simp at hc2
        obtain ⟨s2, hs2⟩ : ∃ s2, s2 = flS s L1 E1 := ⟨_, rfl⟩; obtain ⟨L3, hL3⟩ : ∃ L3, L3 = flL s L1 E1 := ⟨_, rfl⟩
        have HFa : Hid (flE s L1 E1 = 0 ∧ L3.lasts = E1 ∧ L3.fin = E1 ∧ L3.free = F1 ∧ StK (k + 1) s2 L3) := Lib.hid (by
         have h1 := fl_alive HK1.out.al HK1.out.ok; have h2 := flL_facts (s := s) HK1.out.ok L1.fin; have h3 := HK1.out.fl (by have := HK.out.wr; omega)
         rw [HL1.out.2] at h1 h2 h3
         rw [hL3, hs2]
         exact ⟨h1.2.1, h1.2.2, by rw [h2.2.fin, HL1.out.2], by rw [h2.2.free, HL1.out.1], h3⟩)
        have HFu : Hid (∀ V S', PrB w V bp S' T pd pw (.pointer (some ⟨lb, 0, none⟩)) pm s L1 zeroD L2 20000 → Calls Tryz.prog 17 #[(.pointer (some ⟨lb, 0, none⟩)), .int .u64 (E1 : Int)] V (RetC (.int .i64 0) s2 L3 S' pd (.pointer (some ⟨lb, 0, none⟩)) V)) := Lib.hid fun V S' h => by
         have h := h.code.Flush HK1.out.ok (by rw [HK1.out.l, HK1.out.len]; decide) (by have := HK1.out.wr; have := HKn.out; omega) E1 (by have := HK1.out.fin; rw [HL1.out.2] at this; have := HKn.out; omega)
         rw [HFa.out.1, ← hs2, ← hL3] at h
         exact h
        have HLa : Hid (∀ V S', PrB w V bp S' T pd pw (.pointer (some ⟨lb, 0, none⟩)) pm s2 L3 zeroD L2 20000 → Calls Tryz.prog 30 #[(.pointer (some ⟨lb, 0, none⟩))] V (RetU E1 V)) := Lib.hid fun V S' h => by rw [← HFa.out.2.1]; exact h.code.Lasts
        have HEn3 : Hid (∀ V S', PrB w V bp S' T pd pw (.pointer (some ⟨lb, 0, none⟩)) pm s2 L3 zeroD L2 20000 → Calls Tryz.prog 18 #[(.pointer (some ⟨lb, 0, none⟩))] V (RetU E1 V)) := Lib.hid fun V S' h => by
         have h2 := h.code.End HFa.out.2.2.2.2.ok
         rwa [HFa.out.2.2.1] at h2
        have HFr3 : Hid (∀ V S', PrB w V bp S' T pd pw (.pointer (some ⟨lb, 0, none⟩)) pm s2 L3 zeroD L2 20000 → Calls Tryz.prog 19 #[(.pointer (some ⟨lb, 0, none⟩))] V (RetI F1 V)) := Lib.hid fun V S' h => by
         have h2 := h.code.Free HFa.out.2.2.2.2.ok
         rwa [HFa.out.2.2.2.1] at h2
        clear hs2 hL3; go_wp2_with fail
        go_region_held3 (fun V => V.cell? ⟨bp, 2, none⟩ = some (.pointer (some ⟨lb, 0, none⟩))) (first | exact hc2 | exact ya | exact yb | exact yc | exact yd | exact ye) (first
         | (go_at_call 18; (with_reducible refine (HEnV.out w9.drew _ _ (HP9.out.up ((Gr.refl w9).drew))).mono ?_); rintro e v1 ⟨rfl, h1⟩; have HA1 := Lib.hid ((HP9.out.up ((Gr.refl w9).drew)).up h1); have ya := HA1.out.blk.cell 2; simp at ya)
         | (go_at_call 17; refine (HFu.out v1 _ HA1.out).mono ?_; rintro e v2 ⟨S9, rfl, hcc, huu⟩; have HA2 := Lib.hid (HA1.out.codes hcc huu); have yb := HA2.out.blk.cell 2; simp at yb)
         | (go_at_call 30; refine (HLa.out v2 _ HA2.out).mono ?_; rintro e v3 ⟨rfl, h3⟩; have HA3 := Lib.hid (HA2.out.up h3); have yc := HA3.out.blk.cell 2; simp at yc)
         | (go_at_call 18; (with_reducible refine (HEn3.out v3 _ HA3.out).mono ?_); rintro e v4 ⟨rfl, h4⟩; have HA4 := Lib.hid (HA3.out.up h4); have yd := HA4.out.blk.cell 2; simp at yd)
         | (go_at_call 19; refine (HFr3.out v4 _ HA4.out).mono ?_; rintro e v5 ⟨rfl, h5⟩; have HA5 := Lib.hid (HA4.out.up h5); have ye := HA5.out.blk.cell 2; simp at ye))
        clear hc2 ya yb yc yd ye hcc huu h1 h3 h4 h5; go_wp2_with fail
        go_roundw
        case rel => exact ⟨k + 1, _, s2, L3, HMe.out.1, rfl, by rw [HFa.out.2.2.2.1], HA5, Lib.hid HFa.out.2.2.2.2⟩
        case measure => exact HMe.out.2
      ·
       have g9 : ¬ (k : Int) < (m : Int) := by omega
       clear hf; go_wp2_with fail
       go_roundw
       case rel => exact ⟨k + 1, _, s, L1, HMe.out.1, rfl, by rw [HL1.out.1], HP9, HK1⟩
       case measure => exact HMe.out.2
     ·
      have HY : Hid (Y = 0 ∧ X = E ∧ L1.free = F - SZ ∧ L1.fin = E + SZ) := Lib.hid (by
       have h : layE z.c L.free = 0 := by
        unfold layE
        have hz := sizeR_may hm; have h2 := HFF.out; have h3 := HSZ.out; rw [if_pos hm, if_neg (by omega)]
       have h4 := layL_free HK.out.ok z.c h
       rw [← HD.out.2.2, ← HFF.out, ← HSZ.out] at h4
       refine ⟨HD.out.1.trans h, ?_, h4.1, by rw [h4.2, HE.out]⟩; rw [HD.out.2.1, HE.out]
       unfold layA
       rw [if_pos h])
      obtain rfl : Y = 0 := HY.out.1; obtain rfl : X = E := HY.out.2.1; obtain ⟨F1, hF1⟩ : ∃ F1, F1 = F - (SZ : Int) := ⟨_, rfl⟩; obtain ⟨E1, hE1⟩ : ∃ E1, E1 = X + SZ := ⟨_, rfl⟩; have HL1 : Hid (L1.free = F1 ∧ L1.fin = E1) := Lib.hid ⟨by rw [hF1]; exact HY.out.2.2.1, by rw [hE1]; exact HY.out.2.2.2⟩
      have hfw : IntKind.i64.wrap (F - (SZ : Int)) = F1 := by have := HNum.out; rw [IntWalk.i64_in _ (by omega)]; omega
      have hsz : IntKind.u64.wrap (SZ : Int) = (SZ : Int) := by have := HNum.out; rw [IntKind.wrap_u64]; omega
      have hea : IntKind.u64.wrap ((X : Int) + (SZ : Int)) = (E1 : Int) := by have := HNum.out; have := HKn.out; rw [IntKind.wrap_u64]; omega
      clear hm HY hF1 hE1; have hc2 := HP7.out.blk.cell 2
      simp at hc2
      have HEnV : Hid (∀ V S' s', PrB w V bp S' T pd pw (.pointer (some ⟨lb, 0, none⟩)) pm s' L1 zeroD L2 20000 → Calls Tryz.prog 18 #[(.pointer (some ⟨lb, 0, none⟩))] V (RetU E1 V)) := Lib.hid fun V S' s' h => by rw [← HL1.out.2]; exact h.code.End HK1.out.ok
      go_wp2_with fail; refine (HEnV.out w7 _ _ HP7.out).mono ?_; rintro e w8 ⟨rfl, g8⟩; have HP8 := Lib.hid (HP7.out.up g8); clear g8 HP7 hc2; have hc2 := HP8.out.blk.cell 2
      simp at hc2
      have HFr : Hid (Calls Tryz.prog 19 #[(.pointer (some ⟨lb, 0, none⟩))] w8 (RetI F1 w8)) := Lib.hid (by rw [← HL1.out.1]; exact HP8.out.code.Free HK1.out.ok); go_wp2_with fail; refine HFr.out.mono ?_; rintro e w9 ⟨rfl, g9⟩; have HP9 := Lib.hid (HP8.out.up g9); clear g9 HP8 hc2 HFr
      have hq : IntKind.i64.wrap ((k : Int) + 1) = ((k + 1 : Nat) : Int) := by have := HKn.out; rw [IntWalk.i64_in _ (by omega)]; omega
      have HMe : Hid (k + 1 ≤ n ∧ n - (k + 1) < n - k) := Lib.hid (by have := HKn.out; omega)
      by_cases hf : k < m
      ·
       have g9 : (k : Int) < (m : Int) := by omega
       obtain ⟨b2, o2, rfl, hfl⟩ := (HB2.out.gr HP9.out.gr).lies (by omega); have hfc := hfl k hf; clear hfl hf
       cases hfb : xs.getD k false with
       | false =>
        rw [hfb] at hfc
        clear hfb; go_wp2_with fail
        go_roundw
        case rel => exact ⟨k + 1, _, s, L1, HMe.out.1, rfl, by rw [HL1.out.1], HP9, HK1⟩
        case measure => exact HMe.out.2
       | true =>
        rw [hfb] at hfc
        clear hfb; have hc2 := HP9.out.blk.cell 2
        simp at hc2
        obtain ⟨s2, hs2⟩ : ∃ s2, s2 = flS s L1 E1 := ⟨_, rfl⟩; obtain ⟨L3, hL3⟩ : ∃ L3, L3 = flL s L1 E1 := ⟨_, rfl⟩
        have HFa : Hid (flE s L1 E1 = 0 ∧ L3.lasts = E1 ∧ L3.fin = E1 ∧ L3.free = F1 ∧ StK (k + 1) s2 L3) := Lib.hid (by
         have h1 := fl_alive HK1.out.al HK1.out.ok; have h2 := flL_facts (s := s) HK1.out.ok L1.fin; have h3 := HK1.out.fl (by have := HK.out.wr; omega)
         rw [HL1.out.2] at h1 h2 h3
         rw [hL3, hs2]
         exact ⟨h1.2.1, h1.2.2, by rw [h2.2.fin, HL1.out.2], by rw [h2.2.free, HL1.out.1], h3⟩)
        have HFu : Hid (∀ V S', PrB w V bp S' T pd pw (.pointer (some ⟨lb, 0, none⟩)) pm s L1 zeroD L2 20000 → Calls Tryz.prog 17 #[(.pointer (some ⟨lb, 0, none⟩)), .int .u64 (E1 : Int)] V (RetC (.int .i64 0) s2 L3 S' pd (.pointer (some ⟨lb, 0, none⟩)) V)) := Lib.hid fun V S' h => by
         have h := h.code.Flush HK1.out.ok (by rw [HK1.out.l, HK1.out.len]; decide) (by have := HK1.out.wr; have := HKn.out; omega) E1 (by have := HK1.out.fin; rw [HL1.out.2] at this; have := HKn.out; omega)
         rw [HFa.out.1, ← hs2, ← hL3] at h
         exact h
        have HLa : Hid (∀ V S', PrB w V bp S' T pd pw (.pointer (some ⟨lb, 0, none⟩)) pm s2 L3 zeroD L2 20000 → Calls Tryz.prog 30 #[(.pointer (some ⟨lb, 0, none⟩))] V (RetU E1 V)) := Lib.hid fun V S' h => by rw [← HFa.out.2.1]; exact h.code.Lasts
        have HEn3 : Hid (∀ V S', PrB w V bp S' T pd pw (.pointer (some ⟨lb, 0, none⟩)) pm s2 L3 zeroD L2 20000 → Calls Tryz.prog 18 #[(.pointer (some ⟨lb, 0, none⟩))] V (RetU E1 V)) := Lib.hid fun V S' h => by
         have h2 := h.code.End HFa.out.2.2.2.2.ok
         rwa [HFa.out.2.2.1] at h2
        have HFr3 : Hid (∀ V S', PrB w V bp S' T pd pw (.pointer (some ⟨lb, 0, none⟩)) pm s2 L3 zeroD L2 20000 → Calls Tryz.prog 19 #[(.pointer (some ⟨lb, 0, none⟩))] V (RetI F1 V)) := Lib.hid fun V S' h => by
         have h2 := h.code.Free HFa.out.2.2.2.2.ok
         rwa [HFa.out.2.2.2.1] at h2
        clear hs2 hL3; go_wp2_with fail
        go_region_held3 (fun V => V.cell? ⟨bp, 2, none⟩ = some (.pointer (some ⟨lb, 0, none⟩))) (first | exact hc2 | exact ya | exact yb | exact yc | exact yd | exact ye) (first
         | (go_at_call 18; (with_reducible refine (HEnV.out w9.drew _ _ (HP9.out.up ((Gr.refl w9).drew))).mono ?_); rintro e v1 ⟨rfl, h1⟩; have HA1 := Lib.hid ((HP9.out.up ((Gr.refl w9).drew)).up h1); have ya := HA1.out.blk.cell 2; simp at ya)
         | (go_at_call 17; refine (HFu.out v1 _ HA1.out).mono ?_; rintro e v2 ⟨S9, rfl, hcc, huu⟩; have HA2 := Lib.hid (HA1.out.codes hcc huu); have yb := HA2.out.blk.cell 2; simp at yb)
         | (go_at_call 30; refine (HLa.out v2 _ HA2.out).mono ?_; rintro e v3 ⟨rfl, h3⟩; have HA3 := Lib.hid (HA2.out.up h3); have yc := HA3.out.blk.cell 2; simp at yc)
         | (go_at_call 18; (with_reducible refine (HEn3.out v3 _ HA3.out).mono ?_); rintro e v4 ⟨rfl, h4⟩; have HA4 := Lib.hid (HA3.out.up h4); have yd := HA4.out.blk.cell 2; simp at yd)
         | (go_at_call 19; refine (HFr3.out v4 _ HA4.out).mono ?_; rintro e v5 ⟨rfl, h5⟩; have HA5 := Lib.hid (HA4.out.up h5); have ye := HA5.out.blk.cell 2; simp at ye))
        clear hc2 ya yb yc yd ye hcc huu h1 h3 h4 h5; go_wp2_with fail
        go_roundw
        case rel => exact ⟨k + 1, _, s2, L3, HMe.out.1, rfl, by rw [HFa.out.2.2.2.1], HA5, Lib.hid HFa.out.2.2.2.2⟩
        case measure => exact HMe.out.2
      ·
       have g9 : ¬ (k : Int) < (m : Int) := by omega
       clear hf; go_wp2_with fail
       go_roundw
       case rel => exact ⟨k + 1, _, s, L1, HMe.out.1, rfl, by rw [HL1.out.1], HP9, HK1⟩
       case measure => exact HMe.out.2
  ·
   obtain rfl : k = n := by omega
   have g3 : ¬ (k : Int) < (k : Int) := by omega
   clear hlt hk; go_wp2_with fail; refine (wknown_any wr).mono ?_; rintro e w4 ⟨rfl, g5⟩; go_wp2_with fail
   go_ret
   exact ⟨rfl, Gr.trans HP.out.gr g5⟩
set_option maxRecDepth 100000 in
theorem walStands_walk (p : Option Addr) (n c : Nat) (p2 : Option Addr) (m c2 : Nat) (xs : List Bool) (w : World) (hb : Recs w p n c) (hb2 : Bls w p2 m c2 xs) :
  Calls Tryz.prog 7 #[.slice p n c, .slice p2 m c2] w (RetB true w) := by
 by_cases hn : n ≤ 60
 · exact walStands_main p n c p2 m c2 xs w hb hb2 hn
 ·
  have h60 : (60 : Int) < (n : Int) := by omega
  clear hn hb hb2
  go_enter Tryz.func7, Tryz.ntmps7
  go_wp2_with fail; refine (wknown_any w).mono ?_; rintro e w4 ⟨rfl, g5⟩; go_wp2_with fail
  go_ret
  exact ⟨rfl, g5⟩
end Go.Proofs.YtbpgonmoepnnpaaGreat
