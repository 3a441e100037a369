/-
  Texts on locks, put together: LkRef13 LkRef7.
-/
import Derived.Test.YtadopbpfnnpnaaaGreatL29
set_option linter.unusedVariables false
set_option linter.unusedSimpArgs false
/-
  The document's insert, walked.
-/
namespace Go.Proofs.YtadopbpfnnpnaaaGreat
open Go.RowKit Go.Maps

theorem step_app_k {ops : Array Oper} {o : Oper} {a : Act} {w : World} {K : Act → World → Prop} {Q : Exit → Act → World → Prop} {E : Prop} (hg : o.guard = none) (s x : Operand) (ho : o.op = .call { callee := .builtin .append, args := #[s, x], argTypes := #[74, 74] })
    {base : Nat} {v vx : Value} {L M : List Key} (hs : a.eval s = v) (hr : Kr w base v L) (hx : a.eval x = vx) (hy : KSl w vx M) (hk : L.length + M.length ≤ 1000000000) (hb : base ≤ w.heap.size)
    (h : ∀ v' w', Kr w' base v' (L ++ M) → w.grownBy w' v.ownBlock → K (a.put o.dst v') w') :
    if Region.wanted o (yielded ops a.tmps) = true then Oper.wp Tryz.prog o a w K Q else E := by
  obtain ⟨v', w', e1, e2, e3⟩ := run_app_k hr hy hk hb o.type
  exact dstep_run hg s x ho hs hx e1 (h v' w' e2 e3)
theorem KSl.one (w : World) (t : TypeId) (k1 k2 : Int) : KSl (w.alloc (.cells #[.int .i64 k1, .int .i64 k2] t)) (.slice (some ⟨w.heap.size, 0, none⟩) 1 1) [(k1, k2)] := by
  refine ⟨_, 1, rfl, Nat.le_refl _, by simp only [maxLen]; omega, (fun e => nomatch e), fun a e => ?_⟩
  cases e
  refine ⟨_, 0, rfl, fun i hi => ?_⟩
  have : i = 0 := by simpa using hi
  subst this
  exact ⟨(Blk.new w t #[.int .i64 k1, .int .i64 k2]).cell 0, (Blk.new w t #[.int .i64 k1, .int .i64 k2]).cell 1⟩
theorem kr_nil (w : World) (base : Nat) : Kr w base (.slice none 0 0) [] := World.ownsRow_nil _ _ _ _
theorem kr_lt {w : World} {base : Nat} {v : Value} {L : List Key} (h : Kr w base v L) : ∀ n, v.ownBlock = some n → base ≤ n ∧ n < w.heap.size := World.ownsRow.lt h
theorem kr_gr {w w' : World} {base : Nat} {v : Value} {L : List Key} (h : Kr w base v L) (g : Gr w w') : Kr w' base v L := by
  refine ⟨h.1, ?_⟩
  rcases h.2 with h0 | ⟨g', cap, cur, h1, hb, hg, r⟩
  · exact .inl h0
  · exact .inr ⟨g', cap, cur, h1, hb, (g.block g' (kr_lt h g' (by rw [h1]; rfl)).2).trans hg, r⟩
theorem kr_base {w : World} {b b' : Nat} {v : Value} {xs : List Key} (h : Kr w b v xs) (hb : b' ≤ b) : Kr w b' v xs := by
  refine ⟨h.1, ?_⟩
  rcases h.2 with h2 | ⟨g, cap, cur, e, h0, r⟩
  · exact .inl h2
  · exact .inr ⟨g, cap, cur, e, Nat.le_trans hb h0, r⟩
set_option maxRecDepth 100000 in
theorem dinsert_any {w : World} {base : Nat} {v : Value} {l : List Key} (h : Kr w base v l) (hb : base ≤ w.heap.size) (hn : l.length ≤ 900000000) (k : Key) : Calls Tryz.prog 30 #[v, .agg #[.int .i64 k.1, .int .i64 k.2]] w fun e w' => ∃ v', e = .returned v' ∧ Kr w' base v' (insK k l) ∧ Gr w w' := by
  obtain ⟨k1, k2⟩ := k
  have hus := h.ksl
  obtain ⟨p, c, rfl, hlc, hcm, hpn, hat⟩ := hus
  obtain ⟨N, hN⟩ : ∃ N, N = l.length := ⟨_, rfl⟩
  have g0 : Gr w (w.alloc (.cells #[.int .i64 k1, .int .i64 k2] TKey)) := (Gr.refl w).alloc (Nat.le_refl _) _
  have b0 := Blk.new w TKey #[.int .i64 k1, .int .i64 k2]
  obtain ⟨W0, hW0⟩ : ∃ W0, W0 = w.alloc (.cells #[.int .i64 k1, .int .i64 k2] TKey) := ⟨_, rfl⟩
  rw [← hW0] at g0 b0
  have HH := Lib.hid (And.intro h (And.intro (show KSl w (.slice p l.length c) l from ⟨p, c, rfl, hlc, hcm, hpn, hat⟩) (And.intro hat (And.intro hpn (And.intro hN (And.intro g0 (And.intro b0 hW0)))))))
  rw [← hN] at hn hlc ⊢
  clear h hat hN hpn hcm g0 b0 hW0
  go_enter Tryz.func30, Tryz.ntmps30
  go_upto_region 2 with fail
  rw [show (w.alloc (.cells #[.int .i64 k1, .int .i64 k2] 33)) = W0 from HH.out.2.2.2.2.2.2.2.symm]
  go_wp2_with fail
  go_loopw [5] (fun i wr => ∃ j : Nat, i = .int .i64 (j : Int) ∧ j ≤ N ∧ Hid ((∀ n, n < j → lessK (l.getD n (0, 0)) (k1, k2) = true) ∧ Gr W0 wr)) (fun i _ => N - (intOf i).toNat)
  case atStart => exact ⟨0, rfl, Nat.zero_le _, Lib.hid ⟨fun n hn => by omega, Gr.refl _⟩⟩
  case round =>
    obtain ⟨j, rfl, hj, HJ⟩ := hrel
    obtain ⟨h, hus, hat, hpn, hN, g0, b0, hW0⟩ := HH.out
    have gw := Gr.trans g0 HJ.out.2
    have z0 := (b0.gr HJ.out.2).cell 0
    have z1 := (b0.gr HJ.out.2).cell 1
    simp at z0 z1
    by_cases hlt : j < N
    · have g3 : (j : Int) < (N : Int) := by omega
      have e13 : decide ((j : Int) < (N : Int)) = true := decide_eq_true g3
      have hp0 : (0 : Int) ≤ (j : Int) := by omega
      cases p with
      | none => rw [(hpn rfl).1] at hN; simp at hN; omega
      | some a =>
      obtain ⟨g, q, rfl, hcell⟩ := hat a rfl
      obtain ⟨hc1, hc2⟩ := hcell j (by omega)
      obtain ⟨Y, hY⟩ : ∃ Y, Y = l.getD j (0, 0) := ⟨_, rfl⟩
      rw [← hY] at hc1 hc2
      have r1 := (gw.cell (blk_lt' hc1)).trans hc1
      have r2 := (gw.cell (blk_lt' hc2)).trans hc2
      have hw1 : IntKind.i64.wrap ((j : Int) + 1) = ((j + 1 : Nat) : Int) := by rw [IntWalk.i64_in _ (by omega)]; omega
      have HSW : Hid (∀ V, Gr wr V → V.cell? ⟨g, q + j * 2, none⟩ = some (.int .i64 Y.1) ∧ V.cell? ⟨g, q + j * 2 + 1, none⟩ = some (.int .i64 Y.2) ∧ V.cell? ⟨w.heap.size, 0, none⟩ = some (.int .i64 k1) ∧ V.cell? ⟨w.heap.size, 1, none⟩ = some (.int .i64 k2)) := Lib.hid fun V g => ⟨(g.cell (blk_lt' r1)).trans r1, (g.cell (blk_lt' r2)).trans r2, (g.cell (blk_lt' z0)).trans z0, (g.cell (blk_lt' z1)).trans z1⟩
      by_cases he : lessK Y (k1, k2) = true
      · have HL := Lib.hid fun W => dless_any Y (k1, k2) W
        rw [he] at HL
        have HJ2 : Hid (∀ n, n < j + 1 → lessK (l.getD n (0, 0)) (k1, k2) = true) := Lib.hid fun n hn => by
          by_cases e : n = j
          · rw [e, ← hY]; exact he
          · exact HJ.out.1 n (by omega)
        have HMe : Hid (j + 1 ≤ N ∧ N - (j + 1) < N - j) := Lib.hid ⟨by omega, by omega⟩
        have HJ0 := Lib.hid HJ.out.2
        clear h hus hat hpn hN g0 b0 hW0 hY he hcell hc1 hc2 gw hj hlt r1 r2 z0 z1
        go_upto_region 2 with fail
        go_region_held3 (fun V => V.cell? ⟨g, q + j * 2, none⟩ = some (.int .i64 Y.1) ∧ V.cell? ⟨g, q + j * 2 + 1, none⟩ = some (.int .i64 Y.2) ∧ V.cell? ⟨w.heap.size, 0, none⟩ = some (.int .i64 k1) ∧ V.cell? ⟨w.heap.size, 1, none⟩ = some (.int .i64 k2)) (first | exact HSW.out _ (Gr.refl _) | exact HSW.out _ (grD (Gr.refl _)) | exact HSW.out _ HG3.out) ((go_at_call 50; refine (HL.out _).mono ?_; rintro e w3 ⟨rfl, g3'⟩; have HG3 : Hid (Gr wr w3) := Lib.hid (Gr.trans (grD (Gr.refl _)) g3'); clear g3'))
        have HE := Lib.hid (And.intro HJ2.out (Gr.trans HJ0.out HG3.out))
        go_wp2_with fail
        go_roundw
        case rel => exact ⟨j + 1, by simp, HMe.out.1, HE⟩
        case measure => simpa [intOf] using HMe.out.2
      · have he' : lessK Y (k1, k2) = false := by simpa using he
        have HL := Lib.hid fun W => dless_any Y (k1, k2) W
        rw [he'] at HL
        have hsp := insK_split (k := (k1, k2)) (l := l) (i := j) (by omega) HJ.out.1 (fun _ => by rw [← hY]; exact he')
        have HX := Lib.hid (And.intro h (And.intro hus (And.intro hN (And.intro hY (And.intro hsp (And.intro gw (And.intro hj hlt)))))))
        clear h hus hat hpn hN g0 b0 hW0 hY he he' hcell hc1 hc2 gw hj hlt r1 r2 z0 z1 hsp
        go_upto_region 2 with fail
        go_region_held3 (fun V => V.cell? ⟨g, q + j * 2, none⟩ = some (.int .i64 Y.1) ∧ V.cell? ⟨g, q + j * 2 + 1, none⟩ = some (.int .i64 Y.2) ∧ V.cell? ⟨w.heap.size, 0, none⟩ = some (.int .i64 k1) ∧ V.cell? ⟨w.heap.size, 1, none⟩ = some (.int .i64 k2)) (first | exact HSW.out _ (Gr.refl _) | exact HSW.out _ (grD (Gr.refl _)) | exact HSW.out _ HG3.out) ((go_at_call 50; refine (HL.out _).mono ?_; rintro e w3 ⟨rfl, g3'⟩; have HG3 : Hid (Gr wr w3) := Lib.hid (Gr.trans (grD (Gr.refl _)) g3'); clear g3'))
        obtain ⟨h, hus, hN, hY, hsp, gw, hj, hlt⟩ := HX.out
        obtain ⟨r1, r2, z0, z1⟩ := HSW.out w3 HG3.out
        have gw3 := Gr.trans gw HG3.out
        by_cases hk : Y = (k1, k2)
        · have hq : ∀ W, (Op.equalIn 10000 TKey (.agg #[.int .i64 Y.1, .int .i64 Y.2]) (.agg #[.int .i64 k1, .int .i64 k2])).run Tryz.prog W = .ok true W := fun W => by
            have := eqi_key Y (k1, k2) W
            rw [decide_eq_true hk] at this
            exact this
          rw [if_pos ⟨by omega, by rw [← hY]; exact hk⟩] at hsp
          have HE := Lib.hid (And.intro (show Kr w3 base (.slice (some ⟨g, q, none⟩) N c) (insK (k1, k2) l) by rw [hsp, hN]; exact kr_gr h gw3) gw3)
          clear h hus hN hY hsp gw hj hlt gw3 hk
          go_upto_region 4 with fail
          go_quiet (fail)
          rename_i nq
          go_wp2_with fail
          go_ret
          exact ⟨_, rfl, kr_gr HE.out.1 (grD (Gr.refl _)), grD HE.out.2⟩
        · have hq : ∀ W, (Op.equalIn 10000 TKey (.agg #[.int .i64 Y.1, .int .i64 Y.2]) (.agg #[.int .i64 k1, .int .i64 k2])).run Tryz.prog W = .ok false W := fun W => by
            have := eqi_key Y (k1, k2) W
            rw [decide_eq_false hk] at this
            exact this
          rw [if_neg (fun e => hk (by rw [hY]; exact e.2))] at hsp
          have HX2 := Lib.hid (And.intro hus (And.intro hN (And.intro hsp (And.intro gw3 (And.intro hj hlt)))))
          clear h hus hN hY hsp gw hj hlt gw3 hk
          go_upto_region 4 with fail
          go_quiet (fail)
          rename_i nq
          have g4 : Gr w3 (w3.drewN nq) := grD (Gr.refl _)
          obtain ⟨W4, hW4⟩ : ∃ W4, W4 = w3.drewN nq := ⟨_, rfl⟩
          rw [← hW4] at g4 ⊢
          have z0 := (g4.cell (blk_lt' z0)).trans z0
          have z1 := (g4.cell (blk_lt' z1)).trans z1
          obtain ⟨hus, hN, hsp, gw3, hj, hlt⟩ := HX2.out
          have gw := Gr.trans gw3 g4
          have HS2 : Hid (∀ V, Gr W4 V → V.cell? ⟨w.heap.size, 0, none⟩ = some (.int .i64 k1) ∧ V.cell? ⟨w.heap.size, 1, none⟩ = some (.int .i64 k2)) := Lib.hid fun V g => ⟨(g.cell (blk_lt' z0)).trans z0, (g.cell (blk_lt' z1)).trans z1⟩
          have hjc : j ≤ c := by omega
          have hjN : (j : Int) ≤ (N : Int) := by omega
          have hj0 : (0 : Int) ≤ (j : Int) := by omega
          have D1 := ((hN ▸ hus : KSl w (.slice (some ⟨g, q, none⟩) N c) l).take (i := j) (by omega))
          have D2 := ((hN ▸ hus : KSl w (.slice (some ⟨g, q, none⟩) N c) l).drop (i := j) (by omega))
          have hl1 : (l.take j).length = j := by rw [List.length_take]; omega
          have hl2 : (l.drop j).length = N - j := by rw [List.length_drop, hN]
          have HT := Lib.hid (And.intro (D1.gr gw) (And.intro (D2.gr gw) (And.intro hl1 (And.intro hl2 (And.intro hsp (And.intro hb gw))))))
          clear hus hN hsp gw gw3 g4 hW4 D1 D2 hl1 hl2 hj hlt r1 r2
          go_upto_region 6 with fail
          go_region_law (first
            | (refine step_app_k (base := W4.heap.size) (v := v2) (vx := sliced (some ⟨g, q, none⟩) j N c 2) rfl _ _ rfl (by simp [Act.eval, Act.put]) G2.out.1 (by simp [Act.eval, Act.put, sliced, add_lit']) (HT.out.2.1.gr G2.out.2) (by have a1 := HT.out.2.2.1; have a2 := HT.out.2.2.2.1; simp only [List.length_append, List.length_cons, List.length_nil]; omega) G2.out.2.size (fun v3 W3 hv3 hg3 => ?_); have G3 := Lib.hid (And.intro hv3 (dgr_grown G2.out.2 hg3 (fun n hn => (kr_lt G2.out.1 n hn).1))); clear hv3 hg3)
            | (refine step_app_k (base := W4.heap.size) (v := v1) (vx := .slice (some ⟨W1.heap.size, 0, none⟩) 1 1) (M := [(k1, k2)]) rfl _ _ rfl (by simp [Act.eval, Act.put]) (kr_gr G1.out.1 ((Gr.refl _).alloc (Nat.le_refl _) _)) (by simp [Act.eval, Act.put]) (KSl.one W1 TKey k1 k2) (by have a1 := HT.out.2.2.1; simp only [List.length_append, List.length_cons, List.length_nil]; omega) (Nat.le_trans G1.out.2.size ((Gr.refl W1).alloc (Nat.le_refl _) _).size) (fun v2 W2 hv2 hg2 => ?_); have G2 := Lib.hid (And.intro hv2 (dgr_grown (Gr.trans G1.out.2 ((Gr.refl W1).alloc (Nat.le_refl _) _)) hg2 (fun n hn => (kr_lt G1.out.1 n hn).1))); clear hv2 hg2)
            | (refine step_app_k (base := W4.heap.size) (v := v1) (vx := .slice (some ⟨W4.heap.size, 0, none⟩) 1 1) (M := [(k1, k2)]) rfl _ _ rfl (by simp [Act.eval, Act.put]) G1.out.1 (by simp [Act.eval, Act.put]) (G1.out.2.2) (by have a1 := HT.out.2.2.1; simp only [List.length_append, List.length_cons, List.length_nil]; omega) G1.out.2.1.size (fun v2 W2 hv2 hg2 => ?_); have G2 := Lib.hid (And.intro hv2 (dgr_grown G1.out.2.1 hg2 (fun n hn => (kr_lt G1.out.1 n hn).1))); clear hv2 hg2)
            | (refine step_app_k (base := W4.heap.size) (w := W4.drew) (v := .slice none 0 0) (vx := .slice (some ⟨g, q, none⟩) j c) rfl _ _ rfl (by simp [Act.eval, Act.put]) (kr_nil _ _) (by simp [Act.eval, Act.put]) (HT.out.1.gr (grD (Gr.refl _))) (by rw [HT.out.2.2.1]; simp; omega) (Nat.le_refl _) (fun v1 W1 hv1 hg1 => ?_); have G1 := Lib.hid (And.intro hv1 (dgr_grown (grD (Gr.refl _) : Gr W4 W4.drew) hg1 (fun n hn => nomatch hn))); obtain ⟨z0, z1⟩ := HS2.out _ G1.out.2; clear hv1 hg1)
            | (refine step_app_k (base := W4.heap.size) (v := .slice none 0 0) (vx := .slice (some ⟨g, q, none⟩) j c) rfl _ _ rfl (by simp [Act.eval, Act.put]) (kr_nil _ _) (by simp [Act.eval, Act.put]) (HT.out.1.gr ((grD (Gr.refl _) : Gr W4 W4.drew).alloc (Nat.le_refl _) _)) (by rw [HT.out.2.2.1]; simp; omega) ((grD (Gr.refl _) : Gr W4 W4.drew).alloc (Nat.le_refl _) _).size (fun v1 W1 hv1 hg1 => ?_); have G1 := Lib.hid (And.intro hv1 (And.intro (dgr_grown ((grD (Gr.refl _) : Gr W4 W4.drew).alloc (Nat.le_refl _) _) hg1 (fun n hn => nomatch hn)) ((KSl.one W4.drew TKey k1 k2).gr (dgr_grown (Gr.refl _) hg1 (fun n hn => nomatch hn))))); obtain ⟨z0, z1⟩ := HS2.out _ G1.out.2.1; clear hv1 hg1))
          all_goals
            have HE := Lib.hid (show Kr W3 base v3 (insK (k1, k2) l) by
              have := kr_base G3.out.1 (Nat.le_trans HT.out.2.2.2.2.2.1 HT.out.2.2.2.2.2.2.size)
              rw [HT.out.2.2.2.2.1]
              simpa using this)
            go_wp2_with fail
            all_goals go_ret
            all_goals exact ⟨_, rfl, HE.out, Gr.trans HT.out.2.2.2.2.2.2 G3.out.2⟩
    · have hjN' : j = N := by omega
      subst hjN'
      have e13 : decide ((j : Int) < (j : Int)) = false := decide_eq_false (by omega)
      have hsp := insK_split (k := (k1, k2)) (l := l) (i := j) (by omega) HJ.out.1 (fun h => by omega)
      rw [if_neg (fun e => by omega)] at hsp
      have HX2 := Lib.hid (And.intro hus (And.intro hN (And.intro hsp (And.intro gw hj))))
      clear h hus hat hpn hN g0 b0 hW0 hsp gw hlt
      go_upto_region 2 with fail
      go_quiet (fail)
      rename_i nq
      have g4 : Gr wr (wr.drewN nq) := grD (Gr.refl _)
      obtain ⟨W4, hW4⟩ : ∃ W4, W4 = wr.drewN nq := ⟨_, rfl⟩
      rw [← hW4] at g4 ⊢
      have y0 := (g4.cell (blk_lt' z0)).trans z0
      have y1 := (g4.cell (blk_lt' z1)).trans z1
      have G4 := Lib.hid g4
      clear g4 z0 z1 hW4
      go_upto_region 4 with fail
      go_quiet (fail)
      have g5 : Gr W4 (W4.drewN nq) := grD (Gr.refl _)
      obtain ⟨W5, hW5⟩ : ∃ W5, W5 = W4.drewN nq := ⟨_, rfl⟩
      rw [← hW5] at g5 ⊢
      have z0 := (g5.cell (blk_lt' y0)).trans y0
      have z1 := (g5.cell (blk_lt' y1)).trans y1
      obtain ⟨hus, hN, hsp, gw2, hj⟩ := HX2.out
      have gw := Gr.trans gw2 (Gr.trans G4.out g5)
      have HS2 : Hid (∀ V, Gr W5 V → V.cell? ⟨w.heap.size, 0, none⟩ = some (.int .i64 k1) ∧ V.cell? ⟨w.heap.size, 1, none⟩ = some (.int .i64 k2)) := Lib.hid fun V g => ⟨(g.cell (blk_lt' z0)).trans z0, (g.cell (blk_lt' z1)).trans z1⟩
      have hjc : j ≤ c := by omega
      have hjN : (j : Int) ≤ (j : Int) := by omega
      have hj0 : (0 : Int) ≤ (j : Int) := by omega
      have D1 := ((hN ▸ hus : KSl w (.slice p j c) l).take (i := j) (by omega))
      have D2 := ((hN ▸ hus : KSl w (.slice p j c) l).drop (i := j) (by omega))
      have hl1 : (l.take j).length = j := by rw [List.length_take]; omega
      have hl2 : (l.drop j).length = j - j := by rw [List.length_drop, hN]
      have HT := Lib.hid (And.intro (D1.gr gw) (And.intro (D2.gr gw) (And.intro hl1 (And.intro hl2 (And.intro hsp (And.intro hb gw))))))
      clear hus hN hsp gw gw2 g5 hW5 D1 D2 hl1 hl2 hj y0 y1
      go_upto_region 6 with fail
      go_region_law (first
        | (refine step_app_k (base := W5.heap.size) (v := v2) (vx := sliced p j j c 2) rfl _ _ rfl (by simp [Act.eval, Act.put]) G2.out.1 (by simp [Act.eval, Act.put, sliced, add_lit']) (HT.out.2.1.gr G2.out.2) (by have a1 := HT.out.2.2.1; have a2 := HT.out.2.2.2.1; simp only [List.length_append, List.length_cons, List.length_nil]; omega) G2.out.2.size (fun v3 W3 hv3 hg3 => ?_); have G3 := Lib.hid (And.intro hv3 (dgr_grown G2.out.2 hg3 (fun n hn => (kr_lt G2.out.1 n hn).1))); clear hv3 hg3)
        | (refine step_app_k (base := W5.heap.size) (v := v1) (vx := .slice (some ⟨W1.heap.size, 0, none⟩) 1 1) (M := [(k1, k2)]) rfl _ _ rfl (by simp [Act.eval, Act.put]) (kr_gr G1.out.1 ((Gr.refl _).alloc (Nat.le_refl _) _)) (by simp [Act.eval, Act.put]) (KSl.one W1 TKey k1 k2) (by have a1 := HT.out.2.2.1; simp only [List.length_append, List.length_cons, List.length_nil]; omega) (Nat.le_trans G1.out.2.size ((Gr.refl W1).alloc (Nat.le_refl _) _).size) (fun v2 W2 hv2 hg2 => ?_); have G2 := Lib.hid (And.intro hv2 (dgr_grown (Gr.trans G1.out.2 ((Gr.refl W1).alloc (Nat.le_refl _) _)) hg2 (fun n hn => (kr_lt G1.out.1 n hn).1))); clear hv2 hg2)
        | (refine step_app_k (base := W5.heap.size) (v := v1) (vx := .slice (some ⟨W5.heap.size, 0, none⟩) 1 1) (M := [(k1, k2)]) rfl _ _ rfl (by simp [Act.eval, Act.put]) G1.out.1 (by simp [Act.eval, Act.put]) (G1.out.2.2) (by have a1 := HT.out.2.2.1; simp only [List.length_append, List.length_cons, List.length_nil]; omega) G1.out.2.1.size (fun v2 W2 hv2 hg2 => ?_); have G2 := Lib.hid (And.intro hv2 (dgr_grown G1.out.2.1 hg2 (fun n hn => (kr_lt G1.out.1 n hn).1))); clear hv2 hg2)
        | (refine step_app_k (base := W5.heap.size) (w := W5.drew) (v := .slice none 0 0) (vx := .slice p j c) rfl _ _ rfl (by simp [Act.eval, Act.put]) (kr_nil _ _) (by simp [Act.eval, Act.put]) (HT.out.1.gr (grD (Gr.refl _))) (by rw [HT.out.2.2.1]; simp; omega) (Nat.le_refl _) (fun v1 W1 hv1 hg1 => ?_); have G1 := Lib.hid (And.intro hv1 (dgr_grown (grD (Gr.refl _) : Gr W5 W5.drew) hg1 (fun n hn => nomatch hn))); obtain ⟨z0, z1⟩ := HS2.out _ G1.out.2; clear hv1 hg1)
        | (refine step_app_k (base := W5.heap.size) (v := .slice none 0 0) (vx := .slice p j c) rfl _ _ rfl (by simp [Act.eval, Act.put]) (kr_nil _ _) (by simp [Act.eval, Act.put]) (HT.out.1.gr ((grD (Gr.refl _) : Gr W5 W5.drew).alloc (Nat.le_refl _) _)) (by rw [HT.out.2.2.1]; simp; omega) ((grD (Gr.refl _) : Gr W5 W5.drew).alloc (Nat.le_refl _) _).size (fun v1 W1 hv1 hg1 => ?_); have G1 := Lib.hid (And.intro hv1 (And.intro (dgr_grown ((grD (Gr.refl _) : Gr W5 W5.drew).alloc (Nat.le_refl _) _) hg1 (fun n hn => nomatch hn)) ((KSl.one W5.drew TKey k1 k2).gr (dgr_grown (Gr.refl _) hg1 (fun n hn => nomatch hn))))); obtain ⟨z0, z1⟩ := HS2.out _ G1.out.2.1; clear hv1 hg1))
      all_goals
        have HE := Lib.hid (show Kr W3 base v3 (insK (k1, k2) l) by
          have := kr_base G3.out.1 (Nat.le_trans HT.out.2.2.2.2.2.1 HT.out.2.2.2.2.2.2.size)
          rw [HT.out.2.2.2.2.1]
          simpa using this)
        go_wp2_with fail
        all_goals go_ret
        all_goals exact ⟨_, rfl, HE.out, Gr.trans HT.out.2.2.2.2.2.2 G3.out.2⟩
end Go.Proofs.YtadopbpfnnpnaaaGreat

/-
  The document's may: has one place beside the other holders?
-/
namespace Go.Proofs.YtadopbpfnnpnaaaGreat
open Go.RowKit Go.Maps

def dv (x : DL) : Value := .agg #[.int .u64 (x.o : Int), .int .i64 x.k.1, .int .i64 x.k.2, .int .i64 x.m, .bool x.up]
def mayOf (x y : DL) : Bool := !(decide (y.k = x.k) && !decide (y.o = x.o) && !tog y.m x.m)
section
variable {w : World} {base d : Nat} {D : DT}
theorem may_here {x : DL} {j : Nat} (hj : j < D.held.length) (h : mayOf x (D.held.getD j DL.zero) = false) : D.may x = false := by
  cases e : D.may x with
  | false => rfl
  | true =>
    have := List.all_eq_true.1 e (D.held.getD j DL.zero) (by rw [dnth hj]; exact List.getElem_mem _)
    have h2 : mayOf x (D.held.getD j DL.zero) = true := this
    rw [h] at h2
    cases h2
theorem may_all {x : DL} (h : ∀ n, n < D.held.length → mayOf x (D.held.getD n DL.zero) = true) : D.may x = true := by
  refine List.all_eq_true.2 fun y hy => ?_
  obtain ⟨n, hn, rfl⟩ := List.getElem_of_mem hy
  rw [← dnth hn]
  exact h n hn
set_option maxRecDepth 100000 in
theorem dmay_any (h : DtAt w base d D) (hn : D.held.length ≤ 1000000000) (x : DL) : Calls Tryz.prog 32 #[.pointer (some ⟨d, 0, none⟩), dv x] w fun e w' => e = .returned (.bool (D.may x)) ∧ Gr w w' := by
  obtain ⟨hv, lv, hb, hl, hh, -⟩ := h.ex
  obtain ⟨p, c, rfl⟩ := dform hl
  unfold dv
  obtain ⟨o, ho⟩ : ∃ o, o = x.o := ⟨_, rfl⟩
  obtain ⟨k1, hk1⟩ : ∃ k1, k1 = x.k.1 := ⟨_, rfl⟩
  obtain ⟨k2, hk2⟩ : ∃ k2, k2 = x.k.2 := ⟨_, rfl⟩
  obtain ⟨m, hm⟩ : ∃ m, m = x.m := ⟨_, rfl⟩
  obtain ⟨up, hup⟩ : ∃ up, up = x.up := ⟨_, rfl⟩
  rw [← ho, ← hk1, ← hk2, ← hm, ← hup]
  obtain ⟨N, hN⟩ : ∃ N, N = D.held.length := ⟨_, rfl⟩
  obtain ⟨I, hI⟩ : ∃ I, I = D.may x := ⟨_, rfl⟩
  rw [← hI]
  have hat := hl.dsl
  rw [← hN] at hat hn
  obtain ⟨-, hNc, hat⟩ := hat.at
  have c1 := hb.cell 0
  simp at c1
  rw [← hN] at c1
  have hbl : d < w.heap.size := hb.lt
  have g0 : Gr w (w.alloc (.cells #[.int .u64 (o : Int), .int .i64 k1, .int .i64 k2, .int .i64 m, .bool up] TDl)) := (Gr.refl w).alloc (Nat.le_refl _) _
  have b0 := Blk.new w TDl #[.int .u64 (o : Int), .int .i64 k1, .int .i64 k2, .int .i64 m, .bool up]
  obtain ⟨W0, hW0⟩ : ∃ W0, W0 = w.alloc (.cells #[.int .u64 (o : Int), .int .i64 k1, .int .i64 k2, .int .i64 m, .bool up] TDl) := ⟨_, rfl⟩
  rw [← hW0] at g0 b0
  have hxx : o = x.o ∧ m = x.m := ⟨ho, hm⟩
  have HH := Lib.hid (And.intro hat (And.intro hN (And.intro hk1 (And.intro hk2 (And.intro g0 (And.intro b0 (And.intro c1 (And.intro hbl (And.intro hI (And.intro hxx hW0))))))))))
  clear h hat hN hb hh hl hNc hk1 hk2 g0 b0 c1 hbl hW0 hI ho hm hup hxx
  go_enter Tryz.func32, Tryz.ntmps32
  go_upto_region 2 with fail
  rw [show (w.alloc (.cells #[.int .u64 (o : Int), .int .i64 k1, .int .i64 k2, .int .i64 m, .bool up] 71)) = W0 from HH.out.2.2.2.2.2.2.2.2.2.2.symm]
  go_wp2_with fail
  go_loopw [5] (fun i wr => ∃ j : Nat, i = .int .i64 (j : Int) ∧ j ≤ N ∧ Hid ((∀ n, n < j → mayOf x (D.held.getD n DL.zero) = true) ∧ Gr W0 wr)) (fun i _ => N - (intOf i).toNat)
  case atStart => exact ⟨0, rfl, by omega, Lib.hid ⟨fun n hn => by omega, Gr.refl _⟩⟩
  case round =>
    obtain ⟨j, rfl, hj, HR⟩ := hrel
    obtain ⟨hat, hN, hk1, hk2, g0, b0, c1, hbl, hI, ⟨ho, hm⟩, hW0⟩ := HH.out
    have gw := Gr.trans g0 HR.out.2
    have c1' := (gw.cell hbl).trans c1
    have z0 := (b0.gr HR.out.2).cell 0
    have z1 := (b0.gr HR.out.2).cell 1
    have z2 := (b0.gr HR.out.2).cell 2
    have z3 := (b0.gr HR.out.2).cell 3
    simp at z0 z1 z2 z3
    by_cases hlt : j < N
    · have g3 : (j : Int) < (N : Int) := by omega
      obtain ⟨g, q, hp, ha, hb1, hb2, hb3, -⟩ := hat j hlt
      subst hp
      have r0 := (gw.cell (blk_lt' ha)).trans ha
      have r1 := (gw.cell (blk_lt' hb1)).trans hb1
      have r2 := (gw.cell (blk_lt' hb2)).trans hb2
      have r3 := (gw.cell (blk_lt' hb3)).trans hb3
      obtain ⟨X, hX⟩ : ∃ X, X = (D.held.getD j DL.zero).o := ⟨_, rfl⟩
      obtain ⟨Y, hY⟩ : ∃ Y, Y = (D.held.getD j DL.zero).k := ⟨_, rfl⟩
      obtain ⟨M, hM⟩ : ∃ M, M = (D.held.getD j DL.zero).m := ⟨_, rfl⟩
      rw [← hX] at r0
      rw [← hY] at r1 r2
      rw [← hM] at r3
      have hjl : j < D.held.length := by omega
      have hq0 : ∀ W, (Op.equalIn 10000 TKey (.agg #[.int .i64 Y.1, .int .i64 Y.2]) (.agg #[.int .i64 k1, .int .i64 k2])).run Tryz.prog W = .ok (decide (Y = x.k)) W := fun W => by
        rw [hk1, hk2]
        exact eqi_key Y x.k W
      have hw1 : IntKind.i64.wrap ((j : Int) + 1) = ((j + 1 : Nat) : Int) := by rw [IntWalk.i64_in _ (by omega)]; omega
      have hMe : Hid (j + 1 ≤ N ∧ N - (j + 1) < N - j) := Lib.hid ⟨by omega, by omega⟩
      have e13 : decide ((j : Int) < (N : Int)) = true := decide_eq_true g3
      have hp0 : (0 : Int) ≤ (j : Int) := by omega
      have hiso : mayOf x (D.held.getD j DL.zero) = !(decide (Y = x.k) && !decide (X = o) && !tog M m) := by unfold mayOf; rw [← hX, ← hY, ← hM, ho, hm]
      have hnext : (!(decide (Y = x.k) && !decide (X = o) && !tog M m)) = true → Hid ((∀ n, n < j + 1 → mayOf x (D.held.getD n DL.zero) = true)) := fun hf => Lib.hid fun n hn => by
        by_cases e : n = j
        · rw [e, hiso]; exact hf
        · exact HR.out.1 n (by omega)
      have HQ0 := fun W => dtogether_any M m W
      by_cases hk : Y = x.k
      · by_cases he : X = o
        · have hq : ∀ W, (Op.equalIn 10000 TKey (.agg #[.int .i64 Y.1, .int .i64 Y.2]) (.agg #[.int .i64 k1, .int .i64 k2])).run Tryz.prog W = .ok true W := fun W => by
            rw [hq0 W]; simp [hk]
          have e1 : ((X : Int) == (o : Int)) = true := by rw [he]; simp
          have e2 : ((X : Int) != (o : Int)) = false := by rw [he]; simp
          have HN := hnext (by simp [he])
          have HQ := Lib.hid HQ0
          clear hk he HQ0
          clear hat hN hk1 hk2 g0 b0 c1 hbl hI hW0 ha hb1 hb2 hb3 hX hY hM hjl hq0 hiso hnext gw ho hm
          go_upto_region 4 with fail
          go_quiet (exact Calls.quiet_of ((HQ.out _).mono fun _ _ h => ⟨h.1, 0, h.2.symm⟩))
          rename_i nq
          have HE := Lib.hid (And.intro HN.out (show Gr W0 (wr.drewN nq) from grD HR.out.2))
          go_wp2_with fail
          go_roundw
          case rel => exact ⟨j + 1, by simp, hMe.out.1, HE⟩
          case measure => simpa [intOf] using hMe.out.2
        · have e1 : ((X : Int) == (o : Int)) = false := by rw [beq_eq_false_iff_ne]; omega
          have e2 : ((X : Int) != (o : Int)) = true := by rw [bne_iff_ne]; omega
          cases hT : tog M m with
          | true =>
            have hq : ∀ W, (Op.equalIn 10000 TKey (.agg #[.int .i64 Y.1, .int .i64 Y.2]) (.agg #[.int .i64 k1, .int .i64 k2])).run Tryz.prog W = .ok true W := fun W => by
              rw [hq0 W]; simp [hk]
            have HN := hnext (by simp [hT])
            rw [hT] at HQ0
            have HQ := Lib.hid HQ0
            clear hk he HQ0 hT
            clear hat hN hk1 hk2 g0 b0 c1 hbl hI hW0 ha hb1 hb2 hb3 hX hY hM hjl hq0 hiso hnext gw ho hm
            go_upto_region 4 with fail
            go_quiet (exact Calls.quiet_of ((HQ.out _).mono fun _ _ h => ⟨h.1, 0, h.2.symm⟩))
            rename_i nq
            have HE := Lib.hid (And.intro HN.out (show Gr W0 (wr.drewN nq) from grD HR.out.2))
            go_wp2_with fail
            go_roundw
            case rel => exact ⟨j + 1, by simp, hMe.out.1, HE⟩
            case measure => simpa [intOf] using hMe.out.2
          | false =>
            have hq : ∀ W, (Op.equalIn 10000 TKey (.agg #[.int .i64 Y.1, .int .i64 Y.2]) (.agg #[.int .i64 k1, .int .i64 k2])).run Tryz.prog W = .ok true W := fun W => by
              rw [hq0 W]; simp [hk]
            rw [hT] at HQ0
            have HQ := Lib.hid HQ0
            clear HQ0
            have hd : I = false := by
              rw [hI]
              exact may_here hjl (by rw [hiso]; simp [hk, he, hT])
            subst hd
            have HG := Lib.hid gw
            clear hk he hT
            clear hat hN hk1 hk2 g0 b0 c1 hbl hI hW0 ha hb1 hb2 hb3 hX hY hM hjl hq0 hiso hnext gw ho hm
            go_upto_region 4 with fail
            go_quiet (exact Calls.quiet_of ((HQ.out _).mono fun _ _ h => ⟨h.1, 0, h.2.symm⟩))
            rename_i nq
            have HG2 := Lib.hid (show Gr w (wr.drewN nq) from grD HG.out)
            go_wp2_with fail
            go_ret
            exact ⟨rfl, HG2.out⟩
      · have hq : ∀ W, (Op.equalIn 10000 TKey (.agg #[.int .i64 Y.1, .int .i64 Y.2]) (.agg #[.int .i64 k1, .int .i64 k2])).run Tryz.prog W = .ok false W := fun W => by
          rw [hq0 W]; simp [hk]
        have HN := hnext (by simp [hk])
        have HQ := Lib.hid HQ0
        clear hk HQ0
        clear hat hN hk1 hk2 g0 b0 c1 hbl hI hW0 ha hb1 hb2 hb3 hX hY hM hjl hq0 hiso hnext gw ho hm
        go_upto_region 4 with fail
        go_quiet (exact Calls.quiet_of ((HQ.out _).mono fun _ _ h => ⟨h.1, 0, h.2.symm⟩))
        rename_i nq
        have HE := Lib.hid (And.intro HN.out (show Gr W0 (wr.drewN nq) from grD HR.out.2))
        go_wp2_with fail
        go_roundw
        case rel => exact ⟨j + 1, by simp, hMe.out.1, HE⟩
        case measure => simpa [intOf] using hMe.out.2
    · have hjN : j = N := by omega
      subst hjN
      have hd : I = true := by
        rw [hI]
        exact may_all fun n hn => HR.out.1 n (by omega)
      subst hd
      have HG := Lib.hid gw
      have e27 : decide ((j : Int) < (j : Int)) = false := decide_eq_false (by omega)
      clear hat hN hk1 hk2 g0 b0 c1 hW0 gw hbl hI ho hm
      go_wp2_with fail
      go_ret
      exact ⟨rfl, HG.out⟩
end
end Go.Proofs.YtadopbpfnnpnaaaGreat

