/-
  Texts on locks, put together: LkRef11 LkRef14 LkRef15.
-/
import Derived.Test.YtadopbpfnnpnaaaGreatL30
import Derived.Test.YtadopbpfnnpnaaaGreatL39
set_option linter.unusedVariables false
set_option linter.unusedSimpArgs false
/-
  The document's give, walked.
-/
namespace Go.Proofs.YtadopbpfnnpnaaaGreat
open Go.RowKit Go.Maps

section
variable {w : World} {base d : Nat} {hv lv : Value} {D : DT}
theorem give_here {x : DL} {j : Nat} (hj : j < D.held.length) (h1 : isOf x.o x.k (D.held.getD j DL.zero) = true) (h2 : ∀ n, n < j → isOf x.o x.k (D.held.getD n DL.zero) = false) : D.give x = { D with held := D.held.set j { D.held.getD j DL.zero with m := x.m } } := by
  unfold DT.give
  rw [if_pos (List.any_eq_true.2 ⟨D.held.getD j DL.zero, by rw [dnth hj]; exact List.getElem_mem _, h1⟩), setM_here hj h1 h2]
theorem give_none {x : DL} (h2 : ∀ n, n < D.held.length → isOf x.o x.k (D.held.getD n DL.zero) = false) : D.give x = { D with held := D.held ++ [⟨x.o, x.k, x.m, false⟩] } := by
  unfold DT.give
  rw [if_neg]
  intro e
  obtain ⟨y, hy, h3⟩ := List.any_eq_true.1 e
  obtain ⟨n, hn, rfl⟩ := List.getElem_of_mem hy
  rw [← dnth hn, h2 n hn] at h3
  cases h3
theorem RetDt.gr {D' : DT} {W W' : World} (h : RetDt base d hv lv D' w W) (g : Gr W W') : RetDt base d hv lv D' w W' := by
  obtain ⟨a, b, h1, h2⟩ := h
  exact ⟨a, b, h1.gr g, h2.trans (DTn.of_gr g)⟩
theorem RetDt.pre {D' : DT} {W W' : World} (g : Gr w W) (h : RetDt base d hv lv D' W W') : RetDt base d hv lv D' w W' := by
  obtain ⟨a, b, h1, h2⟩ := h
  exact ⟨a, b, h1, (DTn.of_gr g).trans h2⟩
theorem Dr.frozen {g N c : Nat} {L : List DL} (h : Dr w base (.slice (some ⟨g, 0, none⟩) N c) L) (i : Nat) : w.frozen? ⟨g, i, none⟩ = false := by
  rcases h.2 with ⟨e, _⟩ | ⟨g', cap, cur, e, hb, hg, _⟩
  · cases e
  · cases e
    exact frozen_of_row w g i cur TDl hg
theorem DSl.one (w : World) (t : TypeId) (x : DL) : DSl (w.alloc (.cells #[.int .u64 (x.o : Int), .int .i64 x.k.1, .int .i64 x.k.2, .int .i64 x.m, .bool x.up] t)) (.slice (some ⟨w.heap.size, 0, none⟩) 1 1) [x] := by
  refine ⟨_, 1, rfl, Nat.le_refl _, by simp only [maxLen]; omega, (fun e => nomatch e), fun a e => ?_⟩
  cases e
  refine ⟨_, 0, rfl, fun _ => by simp, fun i hi j u hu => ?_⟩
  have : i = 0 := by simpa using hi
  subst this
  have h1 := (Blk.new w t #[.int .u64 (x.o : Int), .int .i64 x.k.1, .int .i64 x.k.2, .int .i64 x.m, .bool x.up]).cell j
  have h2 : (dcells x)[j]? = some u := hu
  rw [show 0 + 5 * 0 + j = j by omega, h1, ← h2]
  simp [dcells]
theorem dslice {w : World} {base : Nat} {v : Value} {L : List DL} (h : Dr w base v L) : ∃ p n c, v = .slice p n c := by
  obtain ⟨p, c, e⟩ := dform h
  exact ⟨p, _, c, e⟩
theorem DtA.box (h : DtA w base d hv lv D) {W W' : World} (g : Gr w W) (hg : W.grownBy W' hv.ownBlock) : W'.cell? ⟨d, 0, none⟩ = some hv ∧ W'.frozen? ⟨d, 0, none⟩ = false := by
  have hW := h.gr g
  have b1 : Blk W' d TDt #[hv, lv] := hW.blk.stays (hg.block d hW.blk.lt (fun e => h.dh e.symm))
  exact ⟨b1.cell 0, b1.frozen 0⟩
attribute [-go_sem] Builtin.append_
set_option maxRecDepth 100000 in
theorem dgive_any (h : DtA w base d hv lv D) (hbs : base ≤ w.heap.size) (hn : D.held.length ≤ 100000000) (x : DL) : Calls Tryz.prog 33 #[.pointer (some ⟨d, 0, none⟩), dv x] w fun e w' => e = .returned (.tuple #[]) ∧ RetDt base d hv lv (D.give x) w w' := by
  have HA := Lib.hid h
  have hb := h.blk
  have hl := h.held
  obtain ⟨p, c, rfl⟩ := dform hl
  unfold dv
  obtain ⟨o, ho⟩ : ∃ o, o = x.o := ⟨_, rfl⟩
  obtain ⟨k1, hk1⟩ : ∃ k1, k1 = x.k.1 := ⟨_, rfl⟩
  obtain ⟨k2, hk2⟩ : ∃ k2, k2 = x.k.2 := ⟨_, rfl⟩
  obtain ⟨m, hm⟩ : ∃ m, m = x.m := ⟨_, rfl⟩
  obtain ⟨up, hup⟩ : ∃ up, up = x.up := ⟨_, rfl⟩
  rw [← ho, ← hk1, ← hk2, ← hm, ← hup]
  obtain ⟨N, hN⟩ : ∃ N, N = D.held.length := ⟨_, rfl⟩
  have hat := hl.dsl
  rw [← hN] at hat hn
  obtain ⟨-, hNc, hat⟩ := hat.at
  have c1 := hb.cell 0
  simp at c1
  rw [← hN] at c1
  have hbl : d < w.heap.size := hb.lt
  have g0 : Gr w (w.alloc (.cells #[.int .u64 (o : Int), .int .i64 k1, .int .i64 k2, .int .i64 m, .bool up] TDl)) := (Gr.refl w).alloc (Nat.le_refl _) _
  have b0 := Blk.new w TDl #[.int .u64 (o : Int), .int .i64 k1, .int .i64 k2, .int .i64 m, .bool up]
  obtain ⟨W0, hW0⟩ : ∃ W0, W0 = w.alloc (.cells #[.int .u64 (o : Int), .int .i64 k1, .int .i64 k2, .int .i64 m, .bool up] TDl) := ⟨_, rfl⟩
  rw [← hW0] at g0 b0
  have hxx : o = x.o ∧ m = x.m := ⟨ho, hm⟩
  have HH := Lib.hid (And.intro hat (And.intro hN (And.intro hk1 (And.intro hk2 (And.intro g0 (And.intro b0 (And.intro c1 (And.intro hbl (And.intro hxx hW0)))))))))
  clear h hat hN hb hl hNc hk1 hk2 g0 b0 c1 hbl hW0 ho hm hup hxx
  go_enter Tryz.func33, Tryz.ntmps33
  go_upto_region 2 with fail
  rw [show (w.alloc (.cells #[.int .u64 (o : Int), .int .i64 k1, .int .i64 k2, .int .i64 m, .bool up] 71)) = W0 from HH.out.2.2.2.2.2.2.2.2.2.symm]
  go_wp2_with fail
  go_loopw [4] (fun i wr => ∃ j : Nat, i = .int .i64 (j : Int) ∧ j ≤ N ∧ Hid ((∀ n, n < j → isOf x.o x.k (D.held.getD n DL.zero) = false) ∧ Gr W0 wr)) (fun i _ => N - (intOf i).toNat)
  case atStart => exact ⟨0, rfl, by omega, Lib.hid ⟨fun n hn => by omega, Gr.refl _⟩⟩
  case round =>
    obtain ⟨j, rfl, hj, HR⟩ := hrel
    obtain ⟨hat, hN, hk1, hk2, g0, b0, c1, hbl, ⟨ho, hm⟩, hW0⟩ := HH.out
    have gw := Gr.trans g0 HR.out.2
    have c1' := (gw.cell hbl).trans c1
    have z0 := (b0.gr HR.out.2).cell 0
    have z1 := (b0.gr HR.out.2).cell 1
    have z2 := (b0.gr HR.out.2).cell 2
    have z3 := (b0.gr HR.out.2).cell 3
    have z4 := (b0.gr HR.out.2).cell 4
    simp at z0 z1 z2 z3 z4
    by_cases hlt : j < N
    · have g3 : (j : Int) < (N : Int) := by omega
      obtain ⟨g, q, hp, ha, hb1, hb2, hb3, -⟩ := hat j hlt
      subst hp
      have r0 := (gw.cell (blk_lt' ha)).trans ha
      have r1 := (gw.cell (blk_lt' hb1)).trans hb1
      have r2 := (gw.cell (blk_lt' hb2)).trans hb2
      have r3 := (gw.cell (blk_lt' hb3)).trans hb3
      obtain ⟨X, hX⟩ : ∃ X, X = (D.held.getD j DL.zero).o := ⟨_, rfl⟩
      obtain ⟨Y, hY⟩ : ∃ Y, Y = (D.held.getD j DL.zero).k := ⟨_, rfl⟩
      obtain ⟨M, hM⟩ : ∃ M, M = (D.held.getD j DL.zero).m := ⟨_, rfl⟩
      rw [← hX] at r0
      rw [← hY] at r1 r2
      rw [← hM] at r3
      have hjl : j < D.held.length := by omega
      have hq0 : ∀ W, (Op.equalIn 10000 TKey (.agg #[.int .i64 Y.1, .int .i64 Y.2]) (.agg #[.int .i64 k1, .int .i64 k2])).run Tryz.prog W = .ok (decide (Y = x.k)) W := fun W => by
        rw [hk1, hk2]
        exact eqi_key Y x.k W
      have hw1 : IntKind.i64.wrap ((j : Int) + 1) = ((j + 1 : Nat) : Int) := by rw [IntWalk.i64_in _ (by omega)]; omega
      have hMe : Hid (j + 1 ≤ N ∧ N - (j + 1) < N - j) := Lib.hid ⟨by omega, by omega⟩
      have e13 : decide ((j : Int) < (N : Int)) = true := decide_eq_true g3
      have hp0 : (0 : Int) ≤ (j : Int) := by omega
      have hiso : isOf x.o x.k (D.held.getD j DL.zero) = (decide (X = o) && decide (Y = x.k)) := by unfold isOf; rw [← hX, ← hY, ho]
      have hnext : (decide (X = o) && decide (Y = x.k)) = false → Hid ((∀ n, n < j + 1 → isOf x.o x.k (D.held.getD n DL.zero) = false)) := fun hf => Lib.hid fun n hn => by
        by_cases e : n = j
        · rw [e, hiso]; exact hf
        · exact HR.out.1 n (by omega)
      by_cases he : X = o
      · have e1 : ((X : Int) == (o : Int)) = true := by rw [he]; simp
        by_cases hk : Y = x.k
        · have hq : ∀ W, (Op.equalIn 10000 TKey (.agg #[.int .i64 Y.1, .int .i64 Y.2]) (.agg #[.int .i64 k1, .int .i64 k2])).run Tryz.prog W = .ok true W := fun W => by
            rw [hq0 W]; simp [hk]
          have hgv := give_here (x := x) hjl (by rw [hiso]; simp [he, hk]) HR.out.1
          rw [← hm] at hgv
          have hq0g : q = 0 := by
            rcases HA.out.held.2 with ⟨e, _⟩ | ⟨g', cap, cur, e, _⟩
            · cases e
            · cases e; rfl
          subst hq0g
          simp only [Nat.zero_add] at r0 r1 r2 r3
          have HG := Lib.hid (And.intro gw (And.intro hgv (And.intro hN hjl)))
          clear hat hN hk1 hk2 g0 b0 c1 hbl hW0 ha hb1 hb2 hb3 hX hY hM hjl hq0 hiso hnext he hk gw ho hm hgv
          go_upto_region 4 with fail
          go_quiet (fail)
          rename_i nq
          have g1 : Gr wr (wr.drewN nq) := grD (Gr.refl _)
          have d1 := (g1.cell (blk_lt' c1')).trans c1'
          have d3 := (g1.cell (blk_lt' r3)).trans r3
          have d4 := (g1.cell (blk_lt' z3)).trans z3
          have HG2 := Lib.hid (Gr.trans HG.out.1 g1)
          obtain ⟨W1, hW1⟩ : ∃ W1, W1 = wr.drewN nq := ⟨_, rfl⟩
          rw [← hW1] at d1 d3 d4 HG2 ⊢
          have d5 := (HA.out.gr HG2.out).held.frozen (j * 5 + 3)
          have HE := Lib.hid (show RetDt base d (.slice (some ⟨g, 0, none⟩) D.held.length c) lv (D.give x) w (W1.setCell ⟨g, j * 5 + 3, none⟩ (.int .i64 m)) by
            rw [HG.out.2.1]
            exact RetDt.pre HG2.out ((HA.out.gr HG2.out).setMode rfl HG.out.2.2.2 m))
          clear hW1 g1 c1' r0 r1 r2 r3 z0 z1 z2 z3 z4
          go_upto_region 5 with fail
          go_region
          all_goals go_wp2_with fail
          all_goals exact bodyPost_ret (results_none rfl _ _ _) rfl ⟨rfl, HE.out.gr (grD (Gr.refl _))⟩
        · have hq : ∀ W, (Op.equalIn 10000 TKey (.agg #[.int .i64 Y.1, .int .i64 Y.2]) (.agg #[.int .i64 k1, .int .i64 k2])).run Tryz.prog W = .ok false W := fun W => by
            rw [hq0 W]; simp [hk]
          have HN := hnext (by simp [hk])
          clear hat hN hk1 hk2 g0 b0 c1 hbl hW0 ha hb1 hb2 hb3 hX hY hM hjl hq0 hiso hnext he hk gw ho hm
          go_upto_region 4 with fail
          go_quiet (fail)
          rename_i nq
          have HE := Lib.hid (And.intro HN.out (show Gr W0 (wr.drewN nq) from grD HR.out.2))
          go_wp2_with fail
          go_roundw
          case rel => exact ⟨j + 1, by simp, hMe.out.1, HE⟩
          case measure => simpa [intOf] using hMe.out.2
      · have e1 : ((X : Int) == (o : Int)) = false := by rw [beq_eq_false_iff_ne]; omega
        have HN := hnext (by simp [he])
        clear hat hN hk1 hk2 g0 b0 c1 hbl hW0 ha hb1 hb2 hb3 hX hY hM hjl hq0 hiso hnext he gw ho hm
        go_upto_region 4 with fail
        go_quiet (fail)
        rename_i nq
        have HE := Lib.hid (And.intro HN.out (show Gr W0 (wr.drewN nq) from grD HR.out.2))
        go_wp2_with fail
        go_roundw
        case rel => exact ⟨j + 1, by simp, hMe.out.1, HE⟩
        case measure => simpa [intOf] using hMe.out.2
    · have hjN : j = N := by omega
      subst hjN
      have hgv := give_none (x := x) fun n hn => HR.out.1 n (by omega)
      have HG := Lib.hid (And.intro gw (And.intro hgv (And.intro hN (And.intro hk1 (And.intro hk2 (And.intro ho hm))))))
      have e27 : decide ((j : Int) < (j : Int)) = false := decide_eq_false (by omega)
      clear hat hN hk1 hk2 g0 b0 c1 hW0 gw hbl ho hm hgv
      have hbw : base ≤ (wr.drew.alloc (.cells #[.int .u64 (o : Int), .int .i64 k1, .int .i64 k2, .int .i64 m, .bool false] TDl)).heap.size := Nat.le_trans hbs (Nat.le_trans HG.out.1.size (by simp))
      have hln : D.held.length + [(⟨o, (k1, k2), m, false⟩ : DL)].length ≤ 1000000000 := by have := HG.out.2.2.1; simp only [List.length_cons, List.length_nil]; omega
      have HB := Lib.hid (And.intro hbw hln)
      clear hbw hln hbs hn hlt hj
      have c1'' : wr.cell? ⟨d, 0, none⟩ = some (.slice p D.held.length c) := by rw [← HG.out.2.2.1]; exact c1'
      have gA : Gr wr ((wr.alloc (.cells #[.int .u64 (o : Int), .int .i64 k1, .int .i64 k2, .int .i64 m, .bool false] TDl)).drew) := grD ((Gr.refl wr).alloc (Nat.le_refl _) _)
      have hone : DSl ((wr.alloc (.cells #[.int .u64 (o : Int), .int .i64 k1, .int .i64 k2, .int .i64 m, .bool false] TDl)).drew) (.slice (some ⟨wr.heap.size, 0, none⟩) 1 1) [⟨o, (k1, k2), m, false⟩] := (DSl.one wr TDl ⟨o, (k1, k2), m, false⟩).gr (grD (Gr.refl _))
      obtain ⟨v1, W1, hrun, hv1, hg1, hc1⟩ := run_app_d ((HA.out.gr HG.out.1).held.gr gA) hone HB.out.2 (Nat.le_trans HB.out.1 (by simp)) TDs
      obtain ⟨pv, nv, cv, hvv⟩ := dslice hv1
      subst hvv
      have HX := Lib.hid ((HA.out.gr HG.out.1).newHeld gA hv1 hg1 hc1)
      have e91 := ((HA.out.gr HG.out.1).box gA hg1).1
      have e92 := ((HA.out.gr HG.out.1).box gA hg1).2
      have hdl : d < wr.heap.size := blk_lt' c1''
      rw [← HG.out.2.2.1] at hrun e91
      clear hv1 hg1 hc1 gA hone c1''
      have HE := Lib.hid (show RetDt base d (.slice p D.held.length c) lv (D.give x) w (W1.setCell ⟨d, 0, none⟩ (.slice pv nv cv)) by
        obtain ⟨a1, a2, a3, a4, a5, a6, a7⟩ := HG.out
        have e : (⟨o, (k1, k2), m, false⟩ : DL) = ⟨x.o, x.k, x.m, false⟩ := by rw [a4, a5, a6, a7]
        rw [a2, ← e]
        exact RetDt.pre a1 HX.out)
      go_upto_region 6 with fail
      go_region
      all_goals go_wp2_with fail
      all_goals exact bodyPost_end (results_none rfl _ _ _) rfl ⟨rfl, HE.out⟩
end
end Go.Proofs.YtadopbpfnnpnaaaGreat

/-
  The document's Keys.
-/
namespace Go.Proofs.YtadopbpfnnpnaaaGreat
open Go.RowKit Go.Maps

theorem keysOf_app {o : Nat} : ∀ (H : List DL) (y : DL) (l : List Key), keysOf o (H ++ [y]) l = if y.o = o then insK y.k (keysOf o H l) else keysOf o H l
  | [], y, l => rfl
  | x :: r, y, l => by
    show keysOf o (r ++ [y]) (if x.o = o then insK x.k l else l) = _
    rw [keysOf_app r y]
    rfl
theorem insK_len {k : Key} : ∀ {l : List Key}, (insK k l).length ≤ l.length + 1
  | [] => by unfold insK; simp
  | a :: r => by
    have := insK_len (k := k) (l := r)
    unfold insK
    split
    · simp only [List.length_cons]; omega
    · split <;> simp
theorem keysOf_len {o : Nat} : ∀ (H : List DL) (l : List Key), (keysOf o H l).length ≤ H.length + l.length
  | [], l => by unfold keysOf; simp
  | x :: r, l => by
    have := keysOf_len (o := o) r (if x.o = o then insK x.k l else l)
    have h2 := insK_len (k := x.k) (l := l)
    unfold keysOf
    simp only [List.length_cons]
    split at this <;> rename_i h <;> simp only [h, if_true, if_false] <;> omega
section
variable {w : World} {base d : Nat} {D : DT}
set_option maxRecDepth 100000 in
theorem dKeys_any (h : DtAt w base d D) (hn : D.held.length ≤ 800000000) (o : Nat) : Calls Tryz.prog 29 #[.pointer (some ⟨d, 0, none⟩), .int .u64 (o : Int)] w fun e w' => ∃ v', e = .returned v' ∧ Kr w' w.heap.size v' (D.keysL o) ∧ Gr w w' := by
  obtain ⟨hv, lv, hb, hl, hh, -⟩ := h.ex
  obtain ⟨p, c, rfl⟩ := dform hl
  obtain ⟨N, hN⟩ : ∃ N, N = D.held.length := ⟨_, rfl⟩
  have hat := hl.dsl
  rw [← hN] at hat hn
  obtain ⟨-, hNc, hat⟩ := hat.at
  have c1 := hb.cell 0
  simp at c1
  rw [← hN] at c1
  have hbl : d < w.heap.size := hb.lt
  have HH := Lib.hid (And.intro hat (And.intro hN (And.intro c1 hbl)))
  clear h hat hN hb hh hl hNc c1 hbl
  go_enter Tryz.func29, Tryz.ntmps29
  go_wp2_with fail
  go_loopw [6, 5] (fun i s5 wr => ∃ j : Nat, i = .int .i64 (j : Int) ∧ j ≤ N ∧ Hid (Kr wr w.heap.size s5 (keysOf o (D.held.take j) []) ∧ Gr w wr)) (fun i _ _ => N - (intOf i).toNat)
  case atStart => exact ⟨0, rfl, by omega, Lib.hid ⟨by rw [List.take_zero]; exact kr_nil _ _, Gr.refl _⟩⟩
  case round =>
    obtain ⟨j, rfl, hj, HR⟩ := hrel
    obtain ⟨hat, hN, c1, hbl⟩ := HH.out
    have c1' := (HR.out.2.cell hbl).trans c1
    by_cases hlt : j < N
    · have g3 : (j : Int) < (N : Int) := by omega
      obtain ⟨g, q, hp, ha, hb1, hb2, -⟩ := hat j hlt
      subst hp
      have r0 := (HR.out.2.cell (blk_lt' ha)).trans ha
      have r1 := (HR.out.2.cell (blk_lt' hb1)).trans hb1
      have r2 := (HR.out.2.cell (blk_lt' hb2)).trans hb2
      obtain ⟨X, hX⟩ : ∃ X, X = (D.held.getD j DL.zero).o := ⟨_, rfl⟩
      obtain ⟨Y, hY⟩ : ∃ Y, Y = (D.held.getD j DL.zero).k := ⟨_, rfl⟩
      rw [← hX] at r0
      rw [← hY] at r1 r2
      have hjl : j < D.held.length := by omega
      have htk : D.held.take (j + 1) = D.held.take j ++ [D.held.getD j DL.zero] := by rw [List.take_succ_eq_append_getElem hjl, dnth hjl]
      have hs : keysOf o (D.held.take (j + 1)) [] = if X = o then insK Y (keysOf o (D.held.take j) []) else keysOf o (D.held.take j) [] := by rw [htk, keysOf_app, hX, hY]
      have hlen : (keysOf o (D.held.take j) []).length ≤ 900000000 := by
        have := keysOf_len (o := o) (D.held.take j) []
        rw [List.length_take] at this
        simp only [List.length_nil] at this
        omega
      have hw1 : IntKind.i64.wrap ((j : Int) + 1) = ((j + 1 : Nat) : Int) := by rw [IntWalk.i64_in _ (by omega)]; omega
      have hMe : Hid (j + 1 ≤ N ∧ N - (j + 1) < N - j) := Lib.hid ⟨by omega, by omega⟩
      have e13 : decide ((j : Int) < (N : Int)) = true := decide_eq_true g3
      have hp0 : (0 : Int) ≤ (j : Int) := by omega
      by_cases he : X = o
      · have e1 : ((X : Int) == (o : Int)) = true := by rw [he]; simp
        rw [if_pos he] at hs
        have HS := Lib.hid (And.intro hs hlen)
        clear hat hN c1 hbl ha hb1 hb2 hX hY htk he hs hlen
        go_wp2_with fail
        refine (dinsert_any HR.out.1 HR.out.2.size HS.out.2 Y).mono ?_
        rintro e W2 ⟨v2, rfl, hv2, g2⟩
        have HE := Lib.hid (And.intro (show Kr W2 w.heap.size v2 (keysOf o (D.held.take (j + 1)) []) by rw [HS.out.1]; exact hv2) (Gr.trans HR.out.2 g2))
        clear hv2 g2
        go_wp2_with fail
        go_roundw
        case rel => exact ⟨j + 1, by simp, hMe.out.1, HE⟩
        case measure => simpa [intOf] using hMe.out.2
      · have e1 : ((X : Int) == (o : Int)) = false := by rw [beq_eq_false_iff_ne]; omega
        rw [if_neg he] at hs
        have HE := Lib.hid (And.intro (show Kr wr w.heap.size u5 (keysOf o (D.held.take (j + 1)) []) by rw [hs]; exact HR.out.1) HR.out.2)
        clear hat hN c1 hbl ha hb1 hb2 hX hY htk he hs hlen
        go_wp2_with fail
        go_roundw
        case rel => exact ⟨j + 1, by simp, hMe.out.1, HE⟩
        case measure => simpa [intOf] using hMe.out.2
    · have hjN : j = N := by omega
      subst hjN
      have HE := Lib.hid (show Kr wr w.heap.size u5 (D.keysL o) by
        have := HR.out.1
        rw [hN, List.take_length] at this
        exact this)
      have e27 : decide ((j : Int) < (j : Int)) = false := decide_eq_false (by omega)
      clear hat hN c1 hbl
      go_wp2_with fail
      go_ret
      exact ⟨_, rfl, HE.out, HR.out.2⟩
end
end Go.Proofs.YtadopbpfnnpnaaaGreat

/-
  How the document's table turns: a new row stands in its place; the old one comes back.
-/
namespace Go.Proofs.YtadopbpfnnpnaaaGreat
open Go.RowKit Go.Maps

theorem Dr.base_le {w : World} {b b' : Nat} {v : Value} {xs : List DL} (h : Dr w b v xs) (hb : b' ≤ b) : Dr w b' v xs := by
  refine ⟨h.1, ?_⟩
  rcases h.2 with h2 | ⟨g, cap, cur, e, h0, r⟩
  · exact .inl h2
  · exact .inr ⟨g, cap, cur, e, Nat.le_trans hb h0, r⟩
section
variable {w W W' : World} {base d : Nat} {hv lv v' : Value} {D : DT} {L' : List DL}
/-- A new line. -/
theorem DtA.putLine (h : DtA w base d hv lv D) (hb : base ≤ w.heap.size) (g : Gr w W) (hr : Dr W w.heap.size v' L') :
    DtA (W.setCell ⟨d, 1, none⟩ v') base d hv v' { D with line := L' } ∧ DTn w (W.setCell ⟨d, 1, none⟩ v') (DB d hv lv) (DB d hv v') := by
  have hW := h.gr g
  have hnew : ∀ k, v'.ownBlock = some k → w.heap.size ≤ k := fun k e => (hr.lt k e).1
  have hd : d < w.heap.size := h.blk.lt
  have o1 : ∀ k, k ≠ d → (W.setCell ⟨d, 1, none⟩ v').heap[k]? = W.heap[k]? := fun k hk => heap_setCell_other W ⟨d, 1, none⟩ k v' hk
  have hvd : v'.ownBlock ≠ some d := fun e => by have := hnew d e; omega
  refine ⟨⟨hW.blk.set 1 v', hW.held.stays fun k hk => o1 k (fun e => h.dh (by rw [hk, e])), (hr.base_le hb).stays fun k hk => o1 k (fun e => hvd (by rw [hk, e])), h.dh, hvd, fun k e e2 => ?_⟩, ⟨g.os, g.tape, g.output, by simpa using g.size, fun n hn hq => ?_, fun n hn => ?_⟩⟩
  · have := hnew k e2
    have := (h.held.lt k e).2
    omega
  · rw [o1 n (fun e => hq (.inl e)), g.block n hn]
  · rcases hn with e | e | e
    · exact .inl (.inl e)
    · exact .inl (.inr (.inl e))
    · exact .inr (hnew n e)
/-- A new row of what is held. -/
theorem DtA.putHeld (h : DtA w base d hv lv D) (hb : base ≤ w.heap.size) (g : Gr w W) (hr : Dr W w.heap.size v' L') :
    DtA (W.setCell ⟨d, 0, none⟩ v') base d v' lv { D with held := L' } ∧ DTn w (W.setCell ⟨d, 0, none⟩ v') (DB d hv lv) (DB d v' lv) := by
  have hW := h.gr g
  have hnew : ∀ k, v'.ownBlock = some k → w.heap.size ≤ k := fun k e => (hr.lt k e).1
  have hd : d < w.heap.size := h.blk.lt
  have o1 : ∀ k, k ≠ d → (W.setCell ⟨d, 0, none⟩ v').heap[k]? = W.heap[k]? := fun k hk => heap_setCell_other W ⟨d, 0, none⟩ k v' hk
  have hvd : v'.ownBlock ≠ some d := fun e => by have := hnew d e; omega
  refine ⟨⟨hW.blk.set 0 v', (hr.base_le hb).stays fun k hk => o1 k (fun e => hvd (by rw [hk, e])), hW.line.stays fun k hk => o1 k (fun e => h.dl (by rw [hk, e])), hvd, h.dl, fun k e e2 => ?_⟩, ⟨g.os, g.tape, g.output, by simpa using g.size, fun n hn hq => ?_, fun n hn => ?_⟩⟩
  · have := hnew k e
    have := (h.line.lt k e2).2
    omega
  · rw [o1 n (fun e => hq (.inl e)), g.block n hn]
  · rcases hn with e | e | e
    · exact .inl (.inl e)
    · exact .inr (hnew n e)
    · exact .inl (.inr (.inr e))
/-- The old line comes back. -/
theorem DtA.back (h : DtA w base d hv lv D) (g : Gr w W) (hr : Dr W w.heap.size v' L') (g2 : Gr (W.setCell ⟨d, 1, none⟩ v') W') :
    DtA (W'.setCell ⟨d, 1, none⟩ lv) base d hv lv D ∧ DTn w (W'.setCell ⟨d, 1, none⟩ lv) (DB d hv lv) (DB d hv lv) := by
  have hd : d < w.heap.size := h.blk.lt
  have s1 : (W.setCell ⟨d, 1, none⟩ v').heap.size = W.heap.size := by simp
  have b1 := (h.blk.gr g).set 1 v'
  have b2 := b1.gr g2
  have o1 : ∀ k, k ≠ d → k < w.heap.size → (W'.setCell ⟨d, 1, none⟩ lv).heap[k]? = w.heap[k]? := fun k hk hks => by
    rw [heap_setCell_other W' ⟨d, 1, none⟩ k lv hk, g2.block k (by rw [s1]; exact Nat.lt_of_lt_of_le hks g.size), heap_setCell_other W ⟨d, 1, none⟩ k v' hk, g.block k hks]
  refine ⟨⟨b2.set 1 lv, h.held.stays fun k hk => o1 k (fun e => h.dh (by rw [hk, e])) (h.held.lt k hk).2, h.line.stays fun k hk => o1 k (fun e => h.dl (by rw [hk, e])) (h.line.lt k hk).2, h.dh, h.dl, h.hl⟩, ⟨g2.os.trans g.os, g2.tape.trans g.tape, g2.output.trans g.output, ?_, fun n hn hq => o1 n (fun e => hq (.inl e)) hn, fun n hn => .inl hn⟩⟩
  have := g2.size
  rw [s1] at this
  have s2 : (W'.setCell ⟨d, 1, none⟩ lv).heap.size = W'.heap.size := by simp
  rw [s2]
  exact Nat.le_trans g.size this
end
end Go.Proofs.YtadopbpfnnpnaaaGreat

