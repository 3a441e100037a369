/-
  Texts on locks, put together: LkFree2.
-/
import Derived.Test.YtadopbpfnnpnaaaGreatL41
set_option linter.unusedVariables false
set_option linter.unusedSimpArgs false
/-
  The document's Free, walked.
-/
namespace Go.Proofs.YtadopbpfnnpnaaaGreat
open Go.RowKit Go.Maps

def RetDF (base d : Nat) (hv lv : Value) (r : List Nat × DT) (w : World) (e : Ending) (w' : World) : Prop := ∃ v, e = .returned v ∧ Us w' w.heap.size v r.1 ∧ RetDt base d hv lv r.2 w w'
/-- The table, and the row of the keys. -/
structure FkAt (w0 w : World) (base d : Nat) (hv0 lv0 hv lv kv : Value) (D : DT) (ks : List Key) : Prop where
  tab : DtA w base d hv lv D
  keys : Kr w w0.heap.size kv ks
  kfar : ∀ n, kv.ownBlock = some n → ¬ DB d hv lv n
  tn : DTn w0 w (DB d hv0 lv0) (DB d hv lv)
section
variable {w0 w w' : World} {base d : Nat} {hv0 lv0 hv lv hv' lv' kv : Value} {D D' : DT} {ks : List Key}
theorem FkAt.turn (h : FkAt w0 w base d hv0 lv0 hv lv kv D ks) (t : DtA w' base d hv' lv' D') (k : DTn w w' (DB d hv lv) (DB d hv' lv')) : FkAt w0 w' base d hv0 lv0 hv' lv' kv D' ks := by
  refine ⟨t, kr_stays h.keys fun n hn => k.blk n (kr_lt h.keys n hn).2 (h.kfar n hn), fun n hn e => ?_, h.tn.trans k⟩
  rcases k.sub n e with e2 | e2
  · exact h.kfar n hn e2
  · have := (kr_lt h.keys n hn).2; omega
theorem FkAt.start (h : DtA w0 base d hv lv D) (g : Gr w0 w) (hk : Kr w w0.heap.size kv ks) : FkAt w0 w base d hv lv hv lv kv D ks :=
  ⟨h.gr g, hk, fun n hn e => by have := h.lt n e; have := (kr_lt hk n hn).1; omega, DTn.of_gr g⟩
theorem FkAt.fr (h : FkAt w0 w base d hv0 lv0 hv lv kv D ks) : FrAt w0 w base d hv0 lv0 hv lv (.slice none 0 0) kv D [] ks :=
  ⟨h.tab, Us.nil _ _, h.keys, fun n e => (by cases e), h.kfar, fun n _ e => (by cases e), h.tn⟩
end
set_option maxRecDepth 100000 in
set_option maxHeartbeats 8000000 in
theorem dFree_any {w : World} {base d : Nat} {hv lv : Value} {D : DT} (h : DtA w base d hv lv D) (hbs : base ≤ w.heap.size) (hnd : (D.line.map DL.o).Nodup) (hn : D.held.length + D.line.length ≤ 5000) (o : Nat) :
    Calls Tryz.prog 9 #[.pointer (some ⟨d, 0, none⟩), .int .u64 (o : Int)] w (RetDF base d hv lv (D.free o) w) := by
  have HA := Lib.hid (And.intro h (And.intro hbs (And.intro hnd hn)))
  have HK := Lib.hid fun (W : World) (g : Gr w W) => dKeys_any (h.gr g).at (by omega) o
  have HW := Lib.hid fun (W : World) (g : Gr w W) => dWaits_any (h.gr g).at (by omega) o
  clear h hbs hnd hn
  obtain ⟨I, hI⟩ : ∃ I, I = D.wi o := ⟨_, rfl⟩
  rw [← hI] at HW
  have HI := Lib.hid hI
  clear hI
  go_enter Tryz.func9, Tryz.ntmps9
  go_wp2_with fail
  refine (HK.out w (Gr.refl _)).mono ?_
  rintro e w1 ⟨v1, rfl, hk1, g1⟩
  have G1 := Lib.hid (And.intro g1 hk1)
  clear g1 hk1
  go_wp2_with fail
  refine (HW.out w1 G1.out.1).mono ?_
  rintro e w2 ⟨rfl, g2⟩
  have G2 := Lib.hid (FkAt.start HA.out.1 (G1.out.1.trans g2) (kr_gr G1.out.2 g2))
  have G2g := Lib.hid (G1.out.1.trans g2)
  clear g2 G1 HK HW
  go_upto_if 20 with fail
  go_cut [5] (fun s5 wx => ∃ hv1 lv1, Hid (FkAt w wx base d hv lv hv1 lv1 s5 (D.off o) (D.freeKs o)))
  case first =>
    by_cases hw : D.line.any (ofO o) = true
    · obtain ⟨hwi, hlt, hat⟩ := wi_yes hw
      obtain ⟨A, hAe⟩ : ∃ A, A = D.line.findIdx (ofO o) := ⟨_, rfl⟩
      have hIA : I = (A : Int) := by rw [HI.out, hwi, hAe]
      subst hIA
      rw [← hAe] at hlt hat
      have hks : D.freeKs o = insK (D.line.getD A DL.zero).k (D.keysL o) := by unfold DT.freeKs; rw [if_pos hw, hat]
      have hoff := off_erase HA.out.2.2.1 hw
      rw [← hAe] at hoff
      have hg3 : decide ((A : Int) ≥ 0) = true := decide_eq_true (by omega)
      have hge : (0 : Int) ≤ (A : Int) := by omega
      have T2 := G2.out.tab
      obtain ⟨p, c, hlv⟩ := dform T2.line
      subst hlv
      obtain ⟨N, hN⟩ : ∃ N, N = D.line.length := ⟨_, rfl⟩
      have hds := T2.line.dsl
      rw [← hN] at hds hlt
      obtain ⟨-, hNc, hcell⟩ := hds.at
      obtain ⟨gl, ql, hp, q0, q1, q2, -, -⟩ := hcell A hlt
      subst hp
      have c1 := T2.blk.cell 1
      simp at c1
      rw [← hN] at c1
      obtain ⟨Y, hY⟩ : ∃ Y, Y = (D.line.getD A DL.zero).k := ⟨_, rfl⟩
      rw [← hY] at q1 q2 hks
      have hlt3 : (A : Int) < (N : Int) := by omega
      have HC := Lib.hid (And.intro hks (And.intro hoff (And.intro hN (And.intro hlt c1))))
      clear hks hoff hN hNc hcell hds T2 hat hwi hAe hw q0 hY HI
      go_wp2_with fail
      refine (dinsert_any G2.out.keys G2g.out.size (by
        have := keysOf_len (o := o) D.held []
        have := HA.out.2.2.2
        unfold DT.keysL
        simp only [List.length_nil] at *
        omega) Y).mono ?_
      rintro e w3 ⟨v3, rfl, hk3, g3⟩
      have G3g := Lib.hid (G2g.out.trans g3)
      have G3 := Lib.hid (FkAt.start HA.out.1 G3g.out (by rw [← HC.out.1] at hk3; exact hk3))
      have c3 := (g3.cell (blk_lt' c1)).trans c1
      clear g3 hk3 c1 q1 q2
      go_wp2_with fail
      have hds3 := G3.out.tab.line.dsl
      rw [← HC.out.2.2.1] at hds3
      refine (without_any hds3 (by have := HA.out.2.2.2; omega) (i := A) (by rw [← HC.out.2.2.1]; exact HC.out.2.2.2.1)).mono ?_
      rintro e w4 ⟨v4, rfl, hr4, g4⟩
      obtain ⟨p4, c4, hv4⟩ := dform hr4
      obtain ⟨N4, hN4⟩ : ∃ N4, N4 = (D.line.eraseIdx A).length := ⟨_, rfl⟩
      have hc4 := (G3.out.tab.gr g4).blk.cell 1
      have hf4 := (G3.out.tab.gr g4).blk.frozen 1
      have hpl := G3.out.tab.putLine (Nat.le_trans HA.out.2.1 G3g.out.size) g4 hr4
      rw [hv4, ← hN4] at hpl ⊢
      rw [HC.out.2.1] at hpl
      have HE := Lib.hid (G3.out.turn hpl.1 hpl.2)
      simp at hc4
      rw [← HC.out.2.2.1] at hc4
      clear hds3 hr4 g4 hv4 hN4 hpl c3
      go_wp2_with fail
      go_meet
      exact ⟨_, _, HE⟩
    · have hIA : I = -1 := by rw [HI.out, wi_no hw]
      subst hIA
      have hks : D.freeKs o = D.keysL o := by unfold DT.freeKs; rw [if_neg hw]
      have hoff : D.off o = D := by
        unfold DT.off
        have : D.line.filter (fun x => !ofO o x) = D.line := List.filter_eq_self.2 fun x hx => by
          cases e : ofO o x with
          | false => rfl
          | true => exact absurd (List.any_eq_true.2 ⟨x, hx, e⟩) hw
        rw [this]
      have HE := Lib.hid (show FkAt w w2 base d hv lv hv lv v1 (D.off o) (D.freeKs o) by rw [hks, hoff]; exact G2.out)
      clear hks hoff hw HI
      go_wp2_with fail
      go_meet
      exact ⟨_, _, HE⟩
  case rest =>
    obtain ⟨hv1, lv1, HC⟩ := hcut
    obtain ⟨p1, c1, hhv⟩ := dform HC.out.tab.held
    subst hhv
    have c0 := HC.out.tab.blk.cell 0
    simp at c0
    obtain ⟨H, hH⟩ : ∃ H, H = D.held.length := ⟨_, rfl⟩
    have hH2 : (D.off o).held.length = H := hH.symm
    rw [hH2] at c0 HC
    have hHb : H ≤ 5000 := by have := HA.out.2.2.2; omega
    have hwH : IntKind.i64.wrap ((H : Int) - 1) = (H : Int) - 1 := IntWalk.i64_in _ (by omega)
    have HHl := Lib.hid hH
    clear hH hH2 G2 G2g HI
    go_wp2_with fail
    go_loopw [7] (fun i wr => ∃ (p : Nat) (hv2 lv2 : Value), i = .int .i64 ((p : Int) - 1) ∧ p ≤ H ∧ Hid (FkAt w wr base d hv lv hv2 lv2 u5 ⟨offFrom o D.held p, (D.off o).line⟩ (D.freeKs o))) (fun i _ => (intOf i + 1).toNat)
    case atStart => exact ⟨H, _, _, by simp, Nat.le_refl _, Lib.hid (by rw [HHl.out, offFrom_len]; rw [HHl.out] at HC; exact HC.out)⟩
    case round =>
      obtain ⟨p, hv2, lv2, hi, hp, HF⟩ := hrel
      rcases p with _ | p
      · have hi' : u7 = .int .i64 (-1) := by rw [hi]; simp
        subst hi'
        have HF0 := Lib.hid (show FkAt w wr base d hv lv hv2 lv2 u5 (D.lv o) (D.freeKs o) by
          have := HF.out
          rw [offFrom_zero] at this
          exact this)
        clear hi hp HF HC c0 hwH
        go_wp2_with fail
        have F0 := Lib.hid (And.intro HF0.out.fr (lv_b o HA.out.2.2.1 HA.out.2.2.2))
        obtain ⟨pk, ck, hkv, -⟩ := HF0.out.keys.form
        subst hkv
        obtain ⟨ks, hks⟩ : ∃ ks, ks = D.freeKs o := ⟨_, rfl⟩
        have HR : Hid (DT.nexts (D.lv o) ks = D.free o) := Lib.hid (by rw [hks]; rfl)
        rw [← hks] at F0 ⊢
        obtain ⟨NK, hNK⟩ : ∃ NK, NK = ks.length := ⟨_, rfl⟩
        rw [← hNK] at F0 ⊢
        have hNKb : NK ≤ 10000 := by
          have h1 := freeKs_len D o
          have h2 := HA.out.2.2.2
          rw [← hks] at h1
          omega
        have HNK := Lib.hid hNK
        clear HF0 hks hNK
        go_loopw [9, 8] (fun i s8 wr => ∃ (j : Nat) (D' : DT) (c : List Nat) (hv2 lv2 : Value), i = .int .i64 (j : Int) ∧ j ≤ NK ∧ Hid (FrAt w wr base d hv lv hv2 lv2 s8 (.slice pk NK ck) D' c ks ∧ FrB D' c 5000 ∧ (c ++ (DT.nexts D' (ks.drop j)).1, (DT.nexts D' (ks.drop j)).2) = D.free o)) (fun i _ _ => NK - (intOf i).toNat)
        case atStart => exact ⟨0, D.lv o, [], _, _, rfl, Nat.zero_le _, Lib.hid ⟨F0.out.1, F0.out.2, by simp [HR.out]⟩⟩
        case round =>
          obtain ⟨j, D', c, hv2, lv2, rfl, hj, HI⟩ := hrel
          by_cases hlt : j < NK
          · have g3 : (j : Int) < (NK : Int) := by omega
            have e13 : decide ((j : Int) < (NK : Int)) = true := decide_eq_true g3
            have hw1 : IntKind.i64.wrap ((j : Int) + 1) = ((j + 1 : Nat) : Int) := by rw [IntWalk.i64_in _ (by omega)]; omega
            obtain ⟨Y, hY⟩ : ∃ Y, Y = ks.getD j (0, 0) := ⟨_, rfl⟩
            obtain ⟨R', hR'⟩ : ∃ R', R' = (c ++ (D'.next Y).1, (D'.next Y).2) := ⟨_, rfl⟩
            have HR' := Lib.hid (And.intro hR' hY)
            have HFN := Lib.hid (show FrN R' (D'.lineOf Y).length D' Y c by rw [hR']; exact FrN.from0 D' Y c)
            clear hY hR'
            go_upto_block 3 with fail
            go_cut [8] from 75 to 128 (fun s8 wx => ∃ hv3 lv3, Hid (FrAt w wx base d hv lv hv3 lv3 s8 (.slice pk NK ck) R'.2 R'.1 ks ∧ FrB R'.2 R'.1 5000))
            case first =>
              go_wp2_with fail
              go_loopg [8] ((D'.lineOf Y).length) (fun gg s8 wy => ∃ (D2 : DT) (c2 : List Nat) (hv3 lv3 : Value), Hid (FrAt w wy base d hv lv hv3 lv3 s8 (.slice pk NK ck) D2 c2 ks ∧ FrB D2 c2 5000 ∧ FrN R' gg D2 Y c2))
              case atStart => exact ⟨D', c, hv2, lv2, Lib.hid ⟨HI.out.1, HI.out.2.1, HFN.out⟩⟩
              case round =>
                obtain ⟨D2, c2, hv3, lv3, HJ⟩ := hrel
                obtain ⟨gk', hgk, k0, k1⟩ : ∃ gk', pk = some ⟨gk', 0, none⟩ ∧ wr.cell? ⟨gk', j * 2, none⟩ = some (.int .i64 Y.1) ∧ wr.cell? ⟨gk', j * 2 + 1, none⟩ = some (.int .i64 Y.2) := by
                  obtain ⟨a1, a2, -, -, a3, a4⟩ := Kr.at' HJ.out.1.keys j (by rw [← HNK.out]; exact hlt)
                  rw [← HR'.out.2] at a3 a4
                  exact ⟨a1, a2, a3, a4⟩
                subst hgk
                obtain ⟨y1, y2⟩ := Y
                have HLn := Lib.hid (dLineOf_any HJ.out.1.tab.at (by have := HJ.out.2.1.hl; omega) (y1, y2))
                go_wp2_with fail
                refine HLn.out.mono ?_
                rintro e w5 ⟨v5, rfl, hu5, g5⟩
                have J5 := Lib.hid (HJ.out.1.gr g5)
                have hz : (0 : Int) ≤ 0 := Int.le_refl 0
                clear k0 k1 HLn
                cases hq : D2.lineOf (y1, y2) with
                | nil =>
                  rw [hq] at hu5
                  obtain ⟨p5, c5, hv5⟩ := hu5.form
                  subst hv5
                  have HE := Lib.hid (show FrAt w w5 base d hv lv hv3 lv3 u8 (.slice (some ⟨gk', 0, none⟩) NK ck) R'.2 R'.1 ks ∧ FrB R'.2 R'.1 5000 by rw [HJ.out.2.2.none hq]; exact ⟨J5.out, HJ.out.2.1⟩)
                  clear hu5 g5 hq
                  go_upto_region 16 with fail
                  go_quiet (fail)
                  rename_i nq
                  have HE2 := Lib.hid (And.intro (HE.out.1.gr (grD (Gr.refl _) : Gr w5 (w5.drewN nq))) HE.out.2)
                  go_wp2_with fail
                  go_meet
                  exact ⟨_, _, HE2⟩
                | cons q rs =>
                  rw [hq] at hu5
                  obtain ⟨p5, c5, hv5, hat5⟩ := hu5.usl.form
                  subst hv5
                  obtain ⟨g5', q5, hp5, hn5, hc5⟩ := hat5 0 (by simp)
                  subst hp5
                  obtain ⟨N5, hN5⟩ : ∃ N5, N5 = (q :: rs).length := ⟨_, rfl⟩
                  rw [← hN5] at hn5 ⊢
                  have hN5q : 0 < N5 := by rw [hN5]; simp
                  have hN5p : (0 : Int) < (N5 : Int) := by omega
                  have e83 : ((N5 : Int) == 0) = false := by rw [beq_eq_false_iff_ne]; omega
                  simp at hc5
                  obtain ⟨hwi, hlA, hatq⟩ := wi_yes (lineOf_any hq)
                  obtain ⟨A, hA⟩ : ∃ A, A = D2.line.findIdx (ofO q) := ⟨_, rfl⟩
                  rw [← hA] at hwi hlA hatq
                  have T5 := J5.out.tab
                  obtain ⟨pl, cl, hlv⟩ := dform T5.line
                  subst hlv
                  obtain ⟨N, hN⟩ : ∃ N, N = D2.line.length := ⟨_, rfl⟩
                  have hds := T5.line.dsl
                  rw [← hN] at hds hlA
                  obtain ⟨-, hNc, hcell⟩ := hds.at
                  obtain ⟨gl, ql, hpl, q0, q1, q2, q3, q4⟩ := hcell A hlA
                  subst hpl
                  have c1 := T5.blk.cell 1
                  change _ = some (Value.slice _ D2.line.length _) at c1
                  rw [← hN] at c1
                  rw [← hatq] at q0 q1 q2 q3 q4
                  obtain ⟨MB, hMB⟩ : ∃ MB, MB = D2.may (D2.at q) := ⟨_, rfl⟩
                  obtain ⟨x, hx⟩ : ∃ x, x = D2.at q := ⟨_, rfl⟩
                  have HMy : Hid (∀ V, Gr w5 V → Calls Tryz.prog 32 #[.pointer (some ⟨d, 0, none⟩), dv x] V fun e w' => e = .returned (.bool MB) ∧ Gr V w') := Lib.hid fun V g => by
                    rw [hMB, ← hx]
                    exact dmay_any (T5.gr g).at (by have := HJ.out.2.1.hl; omega) x
                  have HWt : Hid (∀ V, Gr w5 V → Calls Tryz.prog 22 #[.pointer (some ⟨d, 0, none⟩), .int .u64 (q : Int)] V fun e w' => e = .returned (.int .i64 (A : Int)) ∧ Gr V w') := Lib.hid fun V g => by
                    rw [← hwi]
                    exact dWaits_any (T5.gr g).at (by have := HJ.out.2.1.hl; omega) q
                  rw [← hx] at q0 q1 q2 q3 q4
                  obtain ⟨X, ⟨K1, K2⟩, M, U⟩ := x
                  have HSW : Hid (∀ V, Gr w5 V → V.cell? ⟨d, 1, none⟩ = some (.slice (some ⟨gl, ql, none⟩) N cl) ∧ V.cell? ⟨g5', q5, none⟩ = some (.int .u64 (q : Int)) ∧ V.cell? ⟨gl, ql + A * 5, none⟩ = some (.int .u64 (X : Int)) ∧ V.cell? ⟨gl, ql + A * 5 + 1, none⟩ = some (.int .i64 K1) ∧ V.cell? ⟨gl, ql + A * 5 + 2, none⟩ = some (.int .i64 K2) ∧ V.cell? ⟨gl, ql + A * 5 + 3, none⟩ = some (.int .i64 M) ∧ V.cell? ⟨gl, ql + A * 5 + 4, none⟩ = some (.bool U)) := Lib.hid fun V g =>
                    ⟨(g.cell (blk_lt' c1)).trans c1, (g.cell (blk_lt' hc5)).trans hc5, (g.cell (blk_lt' q0)).trans q0, (g.cell (blk_lt' q1)).trans q1, (g.cell (blk_lt' q2)).trans q2, (g.cell (blk_lt' q3)).trans q3, (g.cell (blk_lt' q4)).trans q4⟩
                  have hA0 : (0 : Int) ≤ (A : Int) := by omega
                  have hAN : (A : Int) < (N : Int) := by omega
                  have HQ := Lib.hid (And.intro hq (And.intro hA (And.intro hN (And.intro hlA (And.intro hMB (And.intro hx (HJ.out.2.2.none |> fun _ => True.intro)))))))
                  clear hu5 g5 hn5 hN5 hat5 hc5 hwi hatq hA T5 hds hNc hcell q0 q1 q2 q3 q4 c1 hMB hx hN hq hlA
                  dsimp only [dv] at HMy
                  go_upto_region 16 with fail
                  go_region_held3 (fun V => V.cell? ⟨d, 1, none⟩ = some (.slice (some ⟨gl, ql, none⟩) N cl) ∧ V.cell? ⟨g5', q5, none⟩ = some (.int .u64 (q : Int)) ∧ V.cell? ⟨gl, ql + A * 5, none⟩ = some (.int .u64 (X : Int)) ∧ V.cell? ⟨gl, ql + A * 5 + 1, none⟩ = some (.int .i64 K1) ∧ V.cell? ⟨gl, ql + A * 5 + 2, none⟩ = some (.int .i64 K2) ∧ V.cell? ⟨gl, ql + A * 5 + 3, none⟩ = some (.int .i64 M) ∧ V.cell? ⟨gl, ql + A * 5 + 4, none⟩ = some (.bool U)) (first | exact HSW.out _ (Gr.refl _) | exact HSW.out _ (Gr.refl _).drew | exact HSW.out _ H7.out | exact HSW.out _ H8.out) (first
                    | (go_at_call 22; refine (HWt.out _ (Gr.refl w5).drew).mono ?_; rintro e w7 ⟨rfl, g7⟩; have H7 := Lib.hid (Gr.trans (Gr.refl w5).drew g7); clear g7)
                    | (go_at_call 32; refine (HMy.out w7 H7.out).mono ?_; rintro e w8 ⟨rfl, g8⟩; have H8 := Lib.hid (Gr.trans H7.out g8); clear g8))
                  cases MB with
                  | false =>
                    have HE := Lib.hid (show FrAt w w8 base d hv lv hv3 (.slice (some ⟨gl, ql, none⟩) N cl) u8 (.slice (some ⟨gk', 0, none⟩) NK ck) R'.2 R'.1 ks ∧ FrB R'.2 R'.1 5000 by
                      rw [HJ.out.2.2.no HQ.out.1 HQ.out.2.2.2.2.1.symm]
                      have := J5.out.gr H8.out
                      rw [HQ.out.2.2.1]
                      exact ⟨this, HJ.out.2.1⟩)
                    go_wp2_with fail
                    go_meet
                    exact ⟨_, _, HE⟩
                  | true =>
                    obtain ⟨s0, s1, s2⟩ := HSW.out w8 H8.out
                    clear s2
                    go_wp2_with fail
                    refine (HWt.out w8 H8.out).mono ?_
                    rintro e w9 ⟨rfl, g9⟩
                    have H9 := Lib.hid (Gr.trans H8.out g9)
                    clear g9 s0 s1
                    obtain ⟨s0, s1, s2, s3, s4, s5, s6⟩ := HSW.out w9 H9.out
                    obtain ⟨W10, hW10⟩ : ∃ W10, W10 = w9.alloc (.cells #[.int .u64 (X : Int), .int .i64 K1, .int .i64 K2, .int .i64 M, .bool U] TDl) := ⟨_, rfl⟩
                    have g10 : Gr w9 W10 := by rw [hW10]; exact (Gr.refl _).alloc (Nat.le_refl _) _
                    have b10 := Blk.new w9 TDl #[.int .u64 (X : Int), .int .i64 K1, .int .i64 K2, .int .i64 M, .bool U]
                    rw [← hW10] at b10
                    obtain ⟨bx, hbx⟩ : ∃ bx, bx = w9.heap.size := ⟨_, rfl⟩
                    rw [← hbx] at b10
                    have J10 := Lib.hid (J5.out.gr (Gr.trans H9.out g10))
                    have c10 := (g10.cell (blk_lt' s0)).trans s0
                    have H10 := Lib.hid (And.intro hW10 (And.intro hbx b10))
                    clear s1 g10 hW10 hbx b10
                    go_upto_region 19 with fail
                    rw [show (w9.alloc (.cells #[.int .u64 (X : Int), .int .i64 K1, .int .i64 K2, .int .i64 M, .bool U] 71)) = W10 from H10.out.1.symm, ← H10.out.2.1]
                    clear s0 s2 s3 s4 s5 s6
                    have hds := J10.out.tab.line.dsl
                    change DSl W10 (.slice (some ⟨gl, ql, none⟩) D2.line.length cl) D2.line at hds
                    have HWo := Lib.hid (without_any hds (by have := HJ.out.2.1.hl; omega) (i := A) (by have h1 := HQ.out.2.2.2.1; have h2 := HQ.out.2.2.1; omega))
                    rw [← HQ.out.2.2.1] at HWo
                    clear hds
                    go_wp2_with fail
                    refine HWo.out.mono ?_
                    rintro e w11 ⟨v11, rfl, hr11, g11⟩
                    obtain ⟨p11, c11, hv11⟩ := dform hr11
                    obtain ⟨N11, hN11⟩ : ∃ N11, N11 = (D2.line.eraseIdx A).length := ⟨_, rfl⟩
                    have hc11 := (J10.out.tab.gr g11).blk.cell 1
                    have hf11 := (J10.out.tab.gr g11).blk.frozen 1
                    have hbs : base ≤ W10.heap.size := Nat.le_trans HA.out.2.1 J10.out.tn.size
                    have hpl := J10.out.tab.putLine hbs g11 hr11
                    have hoff : ({ D2 with line := D2.line.eraseIdx A } : DT) = D2.off q := by
                      rw [HQ.out.2.1]
                      exact off_erase HJ.out.2.1.nd (lineOf_any HQ.out.1)
                    rw [hoff] at hpl
                    have hnb : ¬ DB d hv3 v11 bx := by
                      have hlt9 := J5.out.tab.lt
                      have h9 := H9.out.size
                      have hb9 := H10.out.2.1
                      rintro (e | e | e)
                      · have := hlt9 d (.inl rfl); omega
                      · have := hlt9 bx (.inr (.inl e)); omega
                      · have h1 := (hr11.lt bx e).1
                        have h2 : bx < W10.heap.size := H10.out.2.2.lt
                        omega
                    have hbd : bx ≠ d := fun e => hnb (.inl e)
                    rw [hv11, ← hN11] at hpl hnb ⊢
                    change _ = some (Value.slice _ D2.line.length _) at hc11
                    rw [← HQ.out.2.2.1] at hc11
                    have b12 : Blk (w11.setCell ⟨d, 1, none⟩ (.slice p11 N11 c11)) bx TDl #[.int .u64 (X : Int), .int .i64 K1, .int .i64 K2, .int .i64 M, .bool U] := (H10.out.2.2.gr g11).far (p := ⟨d, 1, none⟩) hbd _
                    have y0 := b12.cell 0
                    have y1 := b12.cell 1
                    have y2 := b12.cell 2
                    have y3 := b12.cell 3
                    have y4 := b12.cell 4
                    have HGi := Lib.hid (dgive_any hpl.1 (by
                      have h1 := hpl.2.size
                      exact Nat.le_trans hbs h1) (by have h1 := HJ.out.2.1.hl; show D2.held.length ≤ _; omega) ⟨X, (K1, K2), M, U⟩)
                    have J12 := Lib.hid (And.intro (J10.out.turn hpl.1 hpl.2) (And.intro b12 hnb))
                    dsimp only [dv] at HGi
                    clear hr11 hv11 hN11 hpl hoff hnb hbd b12 hbs g11 c10
                    go_wp2_with fail
                    refine HGi.out.mono ?_
                    rintro e w13 ⟨rfl, hv4, lv4, t13, k13⟩
                    have b13 := J12.out.2.1.stays (k13.blk bx J12.out.2.1.lt J12.out.2.2)
                    have J13 := Lib.hid (J12.out.1.turn t13 k13)
                    have x0 := b13.cell 0
                    obtain ⟨W14, hW14⟩ : ∃ W14, W14 = w13.alloc (.cells #[.int .u64 (X : Int)] TOw) := ⟨_, rfl⟩
                    have g14 : Gr w13 W14 := by rw [hW14]; exact (Gr.refl _).alloc (Nat.le_refl _) _
                    have hy14 : ∀ j, j < [X].length → W14.cell? ⟨w13.heap.size, 0 + j, none⟩ = some (u64v ([X].getD j 0)) := fun j hj => by
                      have : j = 0 := by simpa using hj
                      subst this
                      rw [hW14]
                      exact (Blk.new w13 TOw #[.int .u64 (X : Int)]).cell 0
                    have J14 := Lib.hid (And.intro (J13.out.gr g14) (And.intro hW14 hy14))
                    have hcl : c2.length + [X].length ≤ 1000000000 := by
                      have := HJ.out.2.1.cl
                      simp only [List.length_cons, List.length_nil]
                      omega
                    have hbs : w.heap.size ≤ W14.heap.size := J14.out.1.tn.size
                    clear y0 y1 y2 y3 y4 t13 k13 b13 hW14 g14 hy14 hc11 hf11
                    simp at x0
                    go_wp2_with (at_builtin; rw [show (w13.alloc (.cells #[.int .u64 (X : Int)] 31)) = W14 from J14.out.2.1.symm]; refine wpList_app_us2 rfl (.tmp 124) (.tmp 127) rfl rfl J14.out.1.out rfl J14.out.2.2 hcl hbs (fun v' W9 hv9 hg9 hb9 => ?_))
                    have J15 := Lib.hid (J14.out.1.app hv9 hg9 hb9)
                    clear hv9 hg9 hb9 hcl hbs x0
                    go_wp2_with fail
                    have hny := HJ.out.2.2.yes HJ.out.2.1.nd HQ.out.1 HQ.out.2.2.2.2.1.symm
                    have hob := HJ.out.2.1.step (lineOf_any HQ.out.1) (D2.at q) (D2.at q).o
                    rw [← HQ.out.2.2.2.2.2.1] at hny hob
                    go_roundg (rs.length)
                    case measure => exact hny.2
                    case rel => exact ⟨_, _, _, _, Lib.hid ⟨J15.out, hob, hny.1⟩⟩
            case rest =>
              obtain ⟨hv3, lv3, HF3⟩ := hcut
              go_wp2_with fail
              go_roundw
              case rel => exact ⟨j + 1, R'.2, R'.1, hv3, lv3, by simp, by omega, Lib.hid ⟨HF3.out.1, HF3.out.2, by
                have h1 := HI.out.2.2
                have h2 : ks.drop j = Y :: ks.drop (j + 1) := by
                  have hjl : j < ks.length := by rw [← HNK.out]; exact hlt
                  rw [List.drop_eq_getElem_cons hjl, HR'.out.2]
                  simp [List.getD, hjl]
                rw [h2] at h1
                rw [← h1, HR'.out.1]
                simp only [DT.nexts, List.append_assoc]⟩⟩
              case measure => simp [intOf]; omega
          · have hjN : j = NK := by omega
            subst hjN
            have hg3 : ¬ (j : Int) < (j : Int) := by omega
            have e13 : decide ((j : Int) < (j : Int)) = false := decide_eq_false hg3
            have HE : Hid (RetDF base d hv lv (D.free o) w (.returned u8) wr) := Lib.hid (by
              have h1 := HI.out.2.2
              have h2 : ks.drop j = [] := by rw [HNK.out]; exact List.drop_length
              rw [h2] at h1
              rw [← h1]
              simp only [DT.nexts, List.append_nil]
              exact ⟨_, rfl, HI.out.1.out, hv2, lv2, HI.out.1.tab, HI.out.1.tn⟩)
            clear HI
            go_wp2_with fail
            go_ret
            exact HE.out
      · have hi' : u7 = .int .i64 (p : Int) := by rw [hi]; congr 1; omega
        subst hi'
        obtain ⟨n1, n2⟩ := offFrom_nth (o := o) (L := D.held) (p := p) (by rw [← HHl.out]; omega)
        have hst := offFrom_step (o := o) (L := D.held) (p := p) (by rw [← HHl.out]; omega)
        obtain ⟨L1, hL1⟩ : ∃ L1, L1 = offFrom o D.held (p + 1) := ⟨_, rfl⟩
        rw [← hL1] at n1 n2 HF hst
        have T2 := HF.out.tab
        obtain ⟨p2, c2, hhv⟩ := dform T2.held
        subst hhv
        obtain ⟨N, hN⟩ : ∃ N, N = L1.length := ⟨_, rfl⟩
        have hds := T2.held.dsl
        change DSl wr (.slice p2 L1.length c2) L1 at hds
        rw [← hN] at hds
        obtain ⟨-, hNc, hcell⟩ := hds.at
        obtain ⟨gl, ql, hpp, q0, -⟩ := hcell p (by omega)
        subst hpp
        have c0 := T2.blk.cell 0
        change _ = some (Value.slice _ L1.length _) at c0
        rw [← hN] at c0
        obtain ⟨X, hX⟩ : ∃ X, X = (L1.getD p DL.zero).o := ⟨_, rfl⟩
        rw [← hX] at q0
        have hge : (p : Int) ≥ 0 := by omega
        have hge2 : decide ((p : Int) ≥ 0) = true := decide_eq_true hge
        have hlt3 : (p : Int) < (N : Int) := by omega
        have hw1 : IntKind.i64.wrap ((p : Int) - 1) = (p : Int) - 1 := IntWalk.i64_in _ (by omega)
        have HN := Lib.hid (And.intro hN (And.intro hst (And.intro n2 (And.intro hX (And.intro hL1 (And.intro n1 hp))))))
        clear hds hNc hcell T2 hi
        by_cases he : X = o
        · have e1 : ((X : Int) == (o : Int)) = true := by rw [he]; simp
          have HST := Lib.hid (show offFrom o D.held p = L1.eraseIdx p by
            rw [hst, if_pos]
            rw [← n2]
            exact ofO_iff.2 (by rw [← hX]; exact he))
          clear hN hst n2 hX hL1 n1 he
          go_wp2_with fail
          have hds := HF.out.tab.held.dsl
          change DSl wr (.slice (some ⟨gl, ql, none⟩) L1.length c2) L1 at hds
          rw [← HN.out.1] at hds
          have hLb : L1.length ≤ 1000000000 := by
            have h1 : L1.length ≤ D.held.length := by
              rw [HN.out.2.2.2.2.1]
              unfold offFrom
              have := List.length_filter_le (fun x => !ofO o x) (D.held.drop (p + 1))
              rw [List.length_append, List.length_take]
              rw [List.length_drop] at this
              omega
            have := HHl.out
            omega
          refine (without_any hds hLb (i := p) HN.out.2.2.2.2.2.1).mono ?_
          rintro e w4 ⟨v4, rfl, hr4, g4⟩
          obtain ⟨p4, c4, hv4⟩ := dform hr4
          obtain ⟨N4, hN4⟩ : ∃ N4, N4 = (L1.eraseIdx p).length := ⟨_, rfl⟩
          have hc4 := (HF.out.tab.gr g4).blk.cell 0
          have hf4 := (HF.out.tab.gr g4).blk.frozen 0
          have hpl := HF.out.tab.putHeld (Nat.le_trans HA.out.2.1 HF.out.tn.size) g4 hr4
          rw [hv4, ← hN4] at hpl ⊢
          have HE := Lib.hid (HF.out.turn hpl.1 hpl.2)
          change _ = some (Value.slice _ L1.length _) at hc4
          rw [← HN.out.1] at hc4
          clear hds hLb hr4 g4 hv4 hN4 hpl c0 q0
          go_wp2_with fail
          go_roundw
          case rel => exact ⟨p, _, _, by simp, by have := HN.out.2.2.2.2.2.2; omega, Lib.hid (by rw [HST.out]; exact HE.out)⟩
          case measure => simp [intOf]
        · have e1 : ((X : Int) == (o : Int)) = false := by rw [beq_eq_false_iff_ne]; exact fun e => he (Int.ofNat.inj e)
          have HST := Lib.hid (show offFrom o D.held p = L1 by
            rw [hst, if_neg]
            intro e
            rw [← n2, ofO_iff, ← hX] at e
            exact he e)
          clear hN hst n2 hX hL1 n1 he
          go_wp2_with fail
          go_roundw
          case rel => exact ⟨p, _, _, by simp, by have := HN.out.2.2.2.2.2.2; omega, Lib.hid (by rw [HST.out]; exact HF.out)⟩
          case measure => simp [intOf]
end Go.Proofs.YtadopbpfnnpnaaaGreat

