/-
  Texts on locks, put together: Lk49 Lk39.
-/
import Derived.Deep.RegionHeld3
import Derived.Deep.RegionWith
import Derived.Deep.CutBlock
import Derived.Deep.DeepCutAuto
import Derived.Test.YtadopbpfnnpnaaaGreatL16
import Derived.Test.YtadopbpfnnpnaaaGreatL22
set_option linter.unusedVariables false
set_option linter.unusedSimpArgs false
/-
  The code's table of locks: leave, of an owner that waits.
-/
namespace Go.Proofs.YtadopbpfnnpnaaaGreat
open Go.RowKit Go.Maps Go.Shelf Go.Sort Go.Lib

section
variable {w : World} {t km om : Nat} {B : Tag → Option Nat} {T : Tb}
set_option maxRecDepth 100000 in
set_option maxHeartbeats 8000000 in
theorem leave_wait (h : TbAt w t km om B T) (hI : Inv T) (hol : T.oo.length ≤ 10000) (hkl : T.kk.length ≤ 10000) {o : Nat} (ho : KO.dom o) (hm : (T.of o).mode ≠ 0) (hmn : 0 ≤ T.many ∧ T.many ≤ 1000000000) (hln : (T.of o).ks.length ≤ 1000000000) :
    Calls Tryz.prog 40 #[.pointer (some ⟨t, 0, none⟩), .int .u64 (o : Int)] w (RetLv t km om B (T.lv o) (T.fks o) w) := by
  have ok := hI.ok (Nat.le_trans hol (by omega))
  obtain ⟨PM, hPM⟩ : ∃ PM, PM = (T.of o).mode := ⟨_, rfl⟩
  have hPM0 : (PM != 0) = true := by rw [bne_iff_ne, hPM]; exact hm
  have HIv := Lib.hid (And.intro hI (And.intro hPM hm))
  have HB9 := Lib.hid (And.intro hol hkl)
  clear hI hm hol hkl
  have hnd : (T.of o).ks.Nodup := by
    unfold Tb.of
    cases e : T.py o with
    | none => exact List.nodup_nil
    | some p => obtain ⟨b, h', h1, h2, h3, h4⟩ := h.py o p e; exact h4.nodup
  have hdom : ∀ k, k ∈ (T.of o).ks → KL.dom k := by
    unfold Tb.of
    cases e : T.py o with
    | none => intro k hk; cases hk
    | some p =>
      obtain ⟨b, h', h1, h2, h3, h4⟩ := h.py o p e
      intro k hk
      exact h4.dom k ((h4.mem k).1 hk)
  have g1 : Gr w (w.alloc (.cells #[.int .u64 (o : Int)] TOw)) := (Gr.refl w).alloc (Nat.le_refl _) _
  have b1 := Blk.new w TOw #[.int .u64 (o : Int)]
  obtain ⟨W1, hW1⟩ : ∃ W1, W1 = w.alloc (.cells #[.int .u64 (o : Int)] TOw) := ⟨_, rfl⟩
  rw [← hW1] at g1 b1
  have HO := Lib.hid (of_any (h.gr g1) ho)
  have c1 := b1.cell 0
  simp at c1
  obtain ⟨hp, hhp⟩ : ∃ hp, hp = B (.pm o) := ⟨_, rfl⟩
  obtain ⟨O1, hO1⟩ : ∃ O1, O1 = (T.of o).key.1 := ⟨_, rfl⟩
  obtain ⟨O2, hO2⟩ : ∃ O2, O2 = (T.of o).key.2 := ⟨_, rfl⟩
  unfold ofV at HO
  rw [← hhp, ← hO1, ← hO2, ← hPM] at HO
  have hhs := h.hs o
  rw [← hhp] at hhs
  obtain ⟨ob, hob⟩ : ∃ ob, ob = w.heap.size := ⟨_, rfl⟩
  rw [← hob] at b1 c1
  have HH := Lib.hid (And.intro h (And.intro ok (And.intro hnd (And.intro hdom (And.intro g1 (And.intro b1 (And.intro hhs hob)))))))
  have HW := Lib.hid (And.intro hW1 hob)
  have HOO := Lib.hid (And.intro hO1 hO2)
  clear h ok hnd hdom g1 b1 hhs hob hW1 hhp hO1 hO2 hPM
  go_enter Tryz.func40, Tryz.ntmps40
  go_upto_region 1 with fail
  rw [show (w.alloc (.cells #[.int .u64 (o : Int)] 31)) = W1 from HW.out.1.symm, ← HW.out.2]
  go_wp2_with fail
  refine HO.out.mono ?_
  rintro e W2 ⟨rfl, g2⟩
  obtain ⟨h, ok, hnd, hdom, g1, b1, hhs, hob⟩ := HH.out
  have c2 := (b1.gr g2).cell 0
  simp at c2
  have g3 : Gr W2 (W2.alloc (.cells #[.map hp, .int .i64 O1, .int .i64 O2, .int .i64 PM] TPy)) := (Gr.refl _).alloc (Nat.le_refl _) _
  have b3 := Blk.new W2 TPy #[.map hp, .int .i64 O1, .int .i64 O2, .int .i64 PM]
  have HS := Lib.hid (sorted_any (W2.alloc (.cells #[.map hp, .int .i64 O1, .int .i64 O2, .int .i64 PM] TPy)) O1 O2 PM (hhs.gr (Gr.trans g1 (Gr.trans g2 g3))) hln)
  have HG3 := Lib.hid (And.intro g2 (And.intro g3 b3))
  clear h ok hnd hdom g1 b1 hhs hob g2 g3 b3
  go_wp2_with fail
  refine HS.out.mono ?_
  rintro e W4 ⟨v, rfl, hv, g4⟩
  obtain ⟨h, ok, hnd, hdom, g1, b1, hhs, hob⟩ := HH.out
  obtain ⟨g2, g3, b3⟩ := HG3.out
  have gw4 := Gr.trans g1 (Gr.trans g2 (Gr.trans g3 g4))
  have h4 := h.gr gw4
  have hvb : Kr W4 w.heap.size v (sortK (T.of o).ks) := hv.base (Gr.trans g1 (Gr.trans g2 g3)).size
  have hFB : ∀ n, FB B n → n < w.heap.size := fun n ⟨a, ha⟩ => h.lt a n ha
  obtain ⟨ks, hks⟩ : ∃ ks, ks = sortK (T.of o).ks := ⟨_, rfl⟩
  have hks1 : ks.Nodup := by rw [hks]; exact nodup_sortK hnd
  have hks2 : ∀ k, k ∈ ks → k ∈ (T.of o).ks := fun k hk => (sortK_perm _).mem_iff.1 (hks ▸ hk)
  have hksl : ks.length = (T.of o).ks.length := by rw [hks, sortK_len]
  rw [← hks] at hvb
  obtain ⟨p, cap, hvf, hvg⟩ := hvb.form
  subst hvf
  obtain ⟨N, hN⟩ : ∃ N, N = ks.length := ⟨_, rfl⟩
  rw [← hN] at hvb hvg
  rw [show (Value.slice p ks.length cap) = .slice p N cap by rw [hN]]
  have cm := h4.c3.2.2
  have cf := h4.blk.frozen 2
  obtain ⟨M, hM⟩ : ∃ M, M = T.many := ⟨_, rfl⟩
  rw [← hM] at cm hmn
  obtain ⟨r5, t5⟩ := h4.setMany (M - (N : Int))
  have ob4 := b1.gr (Gr.trans g2 (Gr.trans g3 g4))
  have b34 := b3.gr g4
  have hT5 : ∀ n, n < W4.heap.size → ¬ FB B n → (W4.setCell ⟨t, 2, none⟩ (.int .i64 (M - (N : Int)))).heap[n]? = W4.heap[n]? := fun n h1 h2 => t5.onl.block n h1 h2
  have HALL := Lib.hid (And.intro r5 (And.intro t5 (And.intro hvb (And.intro hvg (And.intro ob4 (And.intro b34 (And.intro hFB (And.intro hks1 (And.intro hks2 (And.intro gw4 hN))))))))))
  have HKS := Lib.hid (And.intro hks (And.intro hksl (And.intro hM hob)))
  have hN1 : N ≤ 1000000000 := by rw [hN, hksl]; exact hln
  obtain ⟨hM1, hM2⟩ := hmn
  have hob2 : ¬ FB B ob := fun e => by have := hFB ob e; omega
  have HFar : Hid (¬ FB B ob ∧ ¬ FB B W2.heap.size ∧ ob < W4.heap.size ∧ W2.heap.size < W4.heap.size) := Lib.hid ⟨hob2, fun e => by have := hFB _ e; have := (Gr.trans g1 g2).size; omega, ob4.lt, b34.lt⟩
  clear h ok hnd hdom g1 b1 hhs hob g2 g3 b3 hv g4 gw4 h4 hvb hFB hks hks1 hks2 hksl hvg hN hM r5 t5 ob4 b34 hT5 hob2 c1 c2
  go_wp2_with fail
  obtain ⟨W5, hW5⟩ : ∃ W5, W5 = W4.setCell ⟨t, 2, none⟩ (.int .i64 (M - (N : Int))) := ⟨_, rfl⟩
  rw [← hW5]
  have HALL' := HALL.out
  rw [← hW5] at HALL'
  obtain ⟨r5, t5, hvb, hvg, ob4, b34, hFB, hks1, hks2, gw4, hN⟩ := HALL'
  have hv5 : Kr W5 w.heap.size (.slice p N cap) ks := hvb.tn t5 fun g hg e => by have := hvg g hg; have := hFB g e; omega
  have ob5 := t5.blk ob4 HFar.out.1
  have b35 := t5.blk b34 HFar.out.2.1
  have hfar5 : ∀ g, (Value.slice p N cap).ownBlock = some g → ¬ FB B g := fun g hg e => by have := hvg g hg; have := hFB g e; omega
  have H5 := Lib.hid (And.intro r5 (And.intro t5 (And.intro hv5 (And.intro ob5 (And.intro b35 (And.intro hfar5 (And.intro hks1 (And.intro hks2 (And.intro gw4 (And.intro hN hFB))))))))))
  have HW5 := Lib.hid hW5
  clear r5 t5 hvb hvg ob4 b34 hFB hks1 hks2 gw4 hN hv5 ob5 b35 hfar5 hW5 cm cf
  obtain ⟨T5, hT5⟩ : ∃ T5 : Tb, T5 = { T with many := M - (N : Int) } := ⟨_, rfl⟩
  rw [← hT5] at H5
  have HT5 := Lib.hid hT5
  clear hT5
  go_loopw [26] (fun i wr => ∃ j : Nat, i = .int .i64 (j : Int) ∧ j ≤ N ∧ Hid (TbAt wr t km om B (T5.off o (ks.take j)) ∧ Tn W5 wr B B)) (fun i _ => N - (intOf i).toNat)
  case atStart => exact ⟨0, rfl, by omega, Lib.hid ⟨by rw [List.take_zero, off_nil]; exact H5.out.1, Tn.refl _ _⟩⟩
  case round =>
    obtain ⟨j, rfl, hj, HR⟩ := hrel
    by_cases hlt : j < N
    · obtain ⟨tr, tn⟩ := HR.out
      obtain ⟨r5, t5, hv5, ob5, b35, hfar5, hks1, hks2, gw4, hN, hFB⟩ := H5.out
      obtain ⟨h, ok, hnd, hdom, hxx⟩ := HH.out
      clear hxx
      have hjl : j < ks.length := by omega
      have hvr := hv5.tn tn hfar5
      obtain ⟨g, hpg, _, hcap, c0, c1⟩ := Kr.at' hvr j hjl
      have obr := tn.blk ob5 HFar.out.1
      obtain ⟨X, hX⟩ : ∃ X, X = ks.getD j (0, 0) := ⟨_, rfl⟩
      have hXm : X = ks[j] := by rw [hX]; simp [List.getD, hjl]
      have hXk : X ∈ ks := by rw [hXm]; exact List.getElem_mem hjl
      have hXt : X ∉ ks.take j := fun e => by
        obtain ⟨i, hi, e2⟩ := List.getElem_of_mem e
        rw [List.length_take] at hi
        rw [List.getElem_take, hXm] at e2
        exact List.pairwise_iff_getElem.1 hks1 i j (by omega) hjl (by omega) e2
      have hXd := hdom X (hks2 X hXk)
      obtain ⟨l, hl, hol⟩ := ok.holds o X (hks2 X hXk)
      have hl5 : T5.lk X = some l := by rw [HT5.out]; exact hl
      have hlj : (T5.off o (ks.take j)).lk X = some l := by rw [off_lk _ _ _ _ hXt]; exact hl5
      have htk : ks.take (j + 1) = ks.take j ++ [X] := by rw [List.take_succ_eq_append_getElem hjl, hXm]
      rw [← hX] at c0 c1
      obtain ⟨x1, x2⟩ := X
      have g6 : Gr wr (wr.alloc (.cells #[.int .i64 x1, .int .i64 x2] TKey)) := (Gr.refl _).alloc (Nat.le_refl _) _
      have k6 := Blk.new wr TKey #[.int .i64 x1, .int .i64 x2]
      have o6 := obr.gr g6
      obtain ⟨W6, hW6⟩ : ∃ W6, W6 = wr.alloc (.cells #[.int .i64 x1, .int .i64 x2] TKey) := ⟨_, rfl⟩
      rw [← hW6] at g6 k6 o6
      have g6d : Gr wr W6.drew := Gr.trans g6 (Gr.refl _).drew
      have t6 := tr.gr g6d
      have q0 := t6.c3.1
      have ql := t6.look hXd
      obtain ⟨bl, hl', v', e1, e2, lb, lm, ln⟩ := t6.lk (x1, x2) l hlj
      rw [e1, show kv (x1, x2) = .agg #[.int .i64 x1, .int .i64 x2] from rfl] at ql
      have ql' : (Instr.lookup TMk (.map (some km)) (.agg #[.int .i64 x1, .int .i64 x2]) false).run Tryz.prog W6.drew = .ok (.pointer (some ⟨bl, 0, none⟩)) W6.drew := ql
      have qb := lb.cell 1
      obtain ⟨w7, hrun, hM7, hG7⟩ := lm.drop KO_ok (t := TMh) Tryz.underlying53 ho 0
      rw [show KO.val o = .int .u64 (o : Int) from rfl, show KO.ty = TOw from rfl] at hrun
      rw [unitF_del] at hM7
      have hne := @TbAt.ne W6.drew t km om B _ t6
      have hkeep : ∀ n, n < W6.drew.heap.size → n ≠ hl' → w7.heap[n]? = W6.drew.heap[n]? := fun n h1 h2 => hG7.block n h1 fun e => h2 (by cases e; rfl)
      have hlk7 : LkAt w7 (B (.lk (x1, x2))) (B (.hm (x1, x2))) (B (.ln (x1, x2))) { l with hs := delK o l.hs } :=
        ⟨bl, hl', v', e1, e2, lb.stays (hkeep bl lb.lt (hne e1 e2 (by simp))), hM7, ln.stays fun n hn => hkeep n (t6.lt _ _ hn) (hne hn e2 (by simp))⟩
      have hw7 : Onl (fun n => B (.lk (x1, x2)) = some n ∨ B (.hm (x1, x2)) = some n ∨ B (.ln (x1, x2)) = some n) wr w7 := (Onl.of_gr g6d).trans (Onl.of_grown (S := fun n => B (.lk (x1, x2)) = some n ∨ B (.hm (x1, x2)) = some n ∨ B (.ln (x1, x2)) = some n) hG7 (.inr (.inl e2))) (fun _ _ e => e)
      obtain ⟨r7, t7⟩ := tr.setLk hlj hw7 hlk7 (fun n hn => .inl hn)
      rw [updF_self] at r7 t7
      rw [← off_snoc _ _ _ _ hXt l hl5, ← htk] at r7
      have HE := Lib.hid (And.intro r7 (tn.trans t7))
      have hhl : hl' < wr.heap.size := tr.lt _ _ e2
      have p0 := r7.c3.1
      have pl := r7.look hXd
      rw [e1, show kv (x1, x2) = .agg #[.int .i64 x1, .int .i64 x2] from rfl] at pl
      have pl' : (Instr.lookup TMk (.map (some km)) (.agg #[.int .i64 x1, .int .i64 x2]) false).run Tryz.prog w7 = .ok (.pointer (some ⟨bl, 0, none⟩)) w7 := pl
      have pb := (lb.stays (hkeep bl lb.lt (hne e1 e2 (by simp)))).cell 1
      have k7 : Blk w7 wr.heap.size TKey #[.int .i64 x1, .int .i64 x2] := k6.stays (hkeep _ k6.lt (by omega))
      have o7 : Blk w7 ob TOw #[.int .u64 (o : Int)] := o6.stays (hkeep _ o6.lt fun e => HFar.out.1 ⟨_, by rw [e]; exact e2⟩)
      have py0 := k7.cell 0
      have py1 := k7.cell 1
      have pz0 := o7.cell 0
      simp at py0 py1 pz0 pb
      have y0 := k6.cell 0
      have y1 := k6.cell 1
      have z0 := o6.cell 0
      simp at y0 y1 z0 qb
      have e27 : decide ((j : Int) < (N : Int)) = true := decide_eq_true (by omega)
      have hp0 : (0 : Int) ≤ (j : Int) := by omega
      have HW6 := Lib.hid hW6
      subst hpg
      clear tr tn r5 t5 hv5 ob5 b35 hfar5 hks1 hks2 gw4 hN hFB h ok hnd hdom hjl hvr obr hX hXm hXk hXt hXd hl hol hl5 hlj htk g6 k6 o6 g6d t6 ql e1 e2 lb lm ln hM7 hG7 hne hkeep hlk7 hw7 r7 t7 hW6 hhl pl k7 o7
      go_upto_region 7 with fail
      rw [show (wr.alloc (.cells #[.int .i64 x1, .int .i64 x2] 33)) = W6 from HW6.out.symm]
      go_region_held3 (fun V => V.cell? ⟨t, 0, none⟩ = some (.map (some km)) ∧ V.cell? ⟨wr.heap.size, 0, none⟩ = some (.int .i64 x1) ∧ V.cell? ⟨wr.heap.size, 1, none⟩ = some (.int .i64 x2) ∧ V.cell? ⟨ob, 0, none⟩ = some (.int .u64 (o : Int)) ∧ V.cell? ⟨bl, 1, none⟩ = some (.map (some hl')) ∧ (Instr.lookup TMk (.map (some km)) (.agg #[.int .i64 x1, .int .i64 x2]) false).run Tryz.prog V = .ok (.pointer (some ⟨bl, 0, none⟩)) V) (first | exact ⟨q0, y0, y1, z0, qb, ql'⟩ | exact ⟨p0, py0, py1, pz0, pb, pl'⟩) (fail)
      go_wp2_with fail
      go_roundw
      case rel => exact ⟨j + 1, by simp, by omega, HE⟩
      case measure => simp [intOf]; omega
    · have hjN : j = N := by omega
      subst hjN
      obtain ⟨tr, tn⟩ := HR.out
      obtain ⟨r5, t5, hv5, ob5, b35, hfar5, hks1, hks2, gw4, hN, hFB⟩ := H5.out
      obtain ⟨hI, hPM, hPMn⟩ := HIv.out
      obtain ⟨hO1, hO2⟩ := HOO.out
      rw [hN, List.take_length] at tr
      have e27 : decide ((j : Int) < (j : Int)) = false := decide_eq_false (by omega)
      have hvr := hv5.tn tn hfar5
      have obr := tn.blk ob5 HFar.out.1
      have b3r := tn.blk b35 HFar.out.2.1
      have hmn1 : (T5.off o ks).many = M - (j : Int) := by rw [HT5.out]; rfl
      have cm := tr.c3.2.2
      rw [hmn1] at cm
      have cf := tr.blk.frozen 2
      obtain ⟨r6, t6⟩ := tr.setMany (M - (j : Int) - 1)
      have b36 := t6.blk b3r HFar.out.2.1
      have ob6 := t6.blk obr HFar.out.1
      have hv6 := hvr.tn t6 hfar5
      have m3 := b3r.cell 3
      simp at m3
      -- the line in which it stands
      obtain ⟨pk, hpk⟩ : ∃ pk, pk = (T.of o).key := ⟨_, rfl⟩
      obtain ⟨l, hl, hlin⟩ := hI.wt o hPMn
      rw [← hpk] at hl hO1 hO2
      rw [← hPM] at hlin
      have hli := hI.lk pk l hl
      have hkv : kv pk = .agg #[.int .i64 O1, .int .i64 O2] := by rw [hO1, hO2]; rfl
      have hpkd : KL.dom pk := hI.kdm pk ((hI.km pk).2 (by rw [hl]; rfl))
      obtain ⟨a, c, hac⟩ := List.append_of_mem hlin
      have hnd2 := hli.lnd
      rw [hac, List.map_append, List.nodup_append] at hnd2
      obtain ⟨n1, n2, n3⟩ := hnd2
      have n4 := List.nodup_cons.1 n2
      have hna : ∀ x, x ∈ a → x.1 ≠ o := fun x hx => n3 x.1 (List.mem_map.2 ⟨x, hx, rfl⟩) o (by simp)
      have hnc : ∀ x, x ∈ c → x.1 ≠ o := fun x hx e => n4.1 (List.mem_map.2 ⟨x, hx, e⟩)
      have hoff : offLine o l.line = a ++ c := by
        rw [hac]
        unfold offLine
        rw [List.filter_append, List.filter_cons_of_neg (by simp)]
        have e1 := offLine_no (o := o) (ws := a) (fun m hm => hna _ hm rfl)
        have e2 := offLine_no (o := o) (ws := c) (fun m hm => hnc _ hm rfl)
        unfold offLine at e1 e2
        rw [e1, e2]
      obtain ⟨l6, hl6⟩ : ∃ l6 : Lk, l6 = if pk ∈ ks then { l with hs := delK o l.hs } else l := ⟨_, rfl⟩
      have hl6l : l6.line = l.line ∧ l6.pop = l.pop := by rw [hl6]; split <;> exact ⟨rfl, rfl⟩
      have hT6l : ({ T5.off o ks with many := M - (j : Int) - 1 } : Tb).lk pk = some l6 := by
        show (if pk ∈ ks then (T5.lk pk).map fun l => { l with hs := delK o l.hs } else T5.lk pk) = some l6
        rw [HT5.out, hl6]
        show (if pk ∈ ks then (T.lk pk).map fun l => { l with hs := delK o l.hs } else T.lk pk) = _
        rw [hl]
        split <;> rfl
      obtain ⟨W6, hW6⟩ : ∃ W6, W6 = wr.setCell ⟨t, 2, none⟩ (.int .i64 (M - (j : Int) - 1)) := ⟨_, rfl⟩
      rw [← hW6] at r6 t6 b36 ob6 hv6
      obtain ⟨bl, hm', v, e1, e2, lb3, lm4, ln5⟩ := r6.lk pk l6 hT6l
      rw [hl6l.1, hac, hl6l.2] at ln5
      have hlk6 : ∀ q, (Instr.lookup TMk (.map (some km)) (.agg #[.int .i64 O1, .int .i64 O2]) false).run Tryz.prog (W6.drewN q) = .ok (.pointer (some ⟨bl, 0, none⟩)) (W6.drewN q) := fun q => by
        have := (r6.stays (w' := W6.drewN q) (fun _ _ _ => rfl)).look hpkd
        rw [hkv, e1] at this
        exact this
      obtain ⟨lb, off, J, cap2, hv, hBln, hJl⟩ : ∃ lb off J cap2, v = .slice (some ⟨lb, 2 * off, none⟩) (J + 1) cap2 ∧ B (.ln pk) = some lb ∧ J + 1 = l.line.length := by
        rcases ln5 with ⟨_, _, h3⟩ | ⟨b', off', cap', cs', h1, h2, _⟩
        · simp at h3
        · refine ⟨b', off', (a ++ c).length, cap', ?_, h1, by rw [hac]; simp; omega⟩
          rw [h2]
          congr 1
          simp
          omega
      rw [hv, hBln] at ln5
      rw [hv] at lb3
      have hJb : J < 1000000000 := by
        have := hI.line_le hl
        have h9 := HB9.out.1
        omega
      have hobF : ¬ FB B ob := HFar.out.1
      have hoblb : ob ≠ lb := fun e => hobF ⟨_, by rw [e]; exact hBln⟩
      have c0 := r6.c3.1
      have p1 := b36.cell 1
      have p2 := b36.cell 2
      have l2 := lb3.cell 2
      simp at p1 p2 l2
      have HLn := Lib.hid ln5
      have HDel := Lib.hid (fun V (g : Gr W6 V) => ldelete_any (ln5.stays fun n hn => g.block n (ln5.lt n hn)) hJb (ob6.gr g) hoblb hna hnc)
      have HR6 := Lib.hid (And.intro r6 (And.intro t6 (And.intro b36 (And.intro ob6 (And.intro hv6 (And.intro e1 (And.intro hBln (And.intro hT6l (And.intro lb3 hl6l)))))))))
      have HTN := Lib.hid (And.intro tn (And.intro t5 (And.intro gw4 (And.intro hFB (And.intro hks1 hks2)))))
      have HPK := Lib.hid (And.intro hpk (And.intro hkv (And.intro hO1 (And.intro hO2 (And.intro hl (And.intro hac (And.intro hoff hl6)))))))
      have HNN := Lib.hid hN
      have HKl : Hid (ks.length ≤ 10000) := Lib.hid (by rw [HKS.out.2.1]; exact Nat.le_trans (hI.ks_le o) HB9.out.2)
      have HW6 := Lib.hid hW6
      have hwM : IntKind.i64.wrap (M - (j : Int) - 1) = M - (j : Int) - 1 := IntWalk.i64_in _ (by omega)
      clear tr tn r5 t5 hv5 ob5 b35 hfar5 hks1 hks2 gw4 hN hFB hI hPM hPMn hO1 hO2 hvr obr b3r hmn1 r6 t6 b36 ob6 hv6 hpk hl hlin hli hkv hpkd hac n1 n2 n3 n4 hna hnc hoff hl6 hl6l hT6l hW6 e1 e2 lb3 lm4 ln5 hv hBln hJl hJb hobF
      go_upto_region 11 with fail
      rw [show (wr.setCell ⟨t, 2, none⟩ (.int .i64 (M - (j : Int) - 1))) = W6 from HW6.out.symm]
      go_quiet (fail)
      generalize hV1 : World.drewN W6 _ = V1
      have GV : Hid (Gr W6 V1) := Lib.hid (by rw [← hV1]; exact grD (Gr.refl _))
      clear hlk6 c0 p1 p2 hV1 m3 cm cf
      have l2v := (HR6.out.2.2.2.2.2.2.2.2.1.gr GV.out).cell 2
      simp at l2v
      clear l2
      go_wp2_with fail
      refine (HDel.out V1 GV.out).mono ?_
      rintro e W8 ⟨p8, n8, k8, rfl, hln8, hg8⟩
      obtain ⟨r6, t6, b36, ob6, hv6, e1, hBln, hT6l, lb3, hl6l⟩ := HR6.out
      obtain ⟨tn, t5, gw4, hFB, hks1, hks2⟩ := HTN.out
      obtain ⟨r9, t9⟩ := r6.growLine hT6l e1 GV.out (by rw [hBln]; exact hg8) (ob := some lb) (by rw [hl6l.2]; exact hln8) (fun n hn => .inl (by rw [hBln]; exact hn))
      rw [← hBln, updF_self] at r9 t9
      have hbl8 := (lb3.gr GV.out).stays (hg8.block bl (lb3.gr GV.out).lt fun e => r6.ne e1 hBln (by simp) (by cases e; rfl))
      have u2 := hbl8.cell 2
      have f2 := hbl8.frozen 2
      simp at u2
      obtain ⟨W9, hW9⟩ : ∃ W9, W9 = W8.setCell ⟨bl, 2, none⟩ (.slice p8 n8 k8) := ⟨_, rfl⟩
      rw [← hW9] at r9 t9
      have b39 := t9.blk b36 HFar.out.2.1
      have ob9 := t9.blk ob6 HFar.out.1
      have hfar : ∀ g, (Value.slice p j cap).ownBlock = some g → ¬ FB B g := fun g hg e => by have h1 := (World.ownsRow.lt hv6 g hg).1; have := hFB g e; omega
      have hv9 := hv6.tn t9 hfar
      have p1 := b39.cell 1
      have p2 := b39.cell 2
      simp at p1 p2
      have HW9 := Lib.hid hW9
      have HR9 := Lib.hid (And.intro r9 (And.intro b39 (And.intro ob9 (And.intro hv9 ((((Tn.of_gr gw4).trans t5).trans tn).trans (t6.trans t9))))))
      clear r6 t6 b36 ob6 hv6 e1 hBln hT6l lb3 hl6l tn t5 gw4 hFB hks1 hks2 r9 t9 hbl8 hW9 b39 ob9 hfar hv9 hln8 hg8
      go_upto_region 13 with fail
      rw [show (W8.setCell ⟨bl, 2, none⟩ (.slice p8 n8 k8)) = W9 from HW9.out.symm]
      clear u2 f2 l2v
      have HBk : Hid (Blk (W9.alloc (.cells #[.int .i64 O1, .int .i64 O2] TKey)) W9.heap.size TKey #[.int .i64 pk.1, .int .i64 pk.2]) := Lib.hid (by
        rw [← HPK.out.2.2.1, ← HPK.out.2.2.2.1]
        exact Blk.new _ _ _)
      have HKr : Hid (Kr (W9.alloc (.cells #[.int .i64 O1, .int .i64 O2] TKey)) w.heap.size (.slice p j cap) ks) := Lib.hid (World.ownsRow.alloc HR9.out.2.2.2.1 _)
      have HLen : Hid (ks.length ≤ 1000000000 ∧ w.heap.size ≤ (W9.alloc (.cells #[.int .i64 O1, .int .i64 O2] TKey)).heap.size) := Lib.hid ⟨by rw [← HNN.out]; exact hN1, by have := HR9.out.2.2.2.2.onl.size; simp; omega⟩
      go_wp2_with (at_builtin; refine wpList_app_kr rfl (.tmp 67) (.tmp 70) rfl rfl HKr.out rfl HBk.out HLen.out.1 HLen.out.2 (fun v' W11 hv11 hg11 => ?_))
      obtain ⟨g, cap3, cur3, hv', hgb, hgk⟩ : ∃ g cap3 cur3, v' = .slice (some ⟨g, 0, none⟩) (ks ++ [pk]).length cap3 ∧ w.heap.size ≤ g ∧ W11.heap[g]? = some (.cells cur3 TKey (0, 0)) := by
        rcases hv11.2 with ⟨_, h0⟩ | ⟨g, cap3, cur, h1, h2, h3, _⟩
        · simp at h0
        · exact ⟨g, cap3, cur, h1, h2, by assumption⟩
      subst hv'
      obtain ⟨Z, hZ⟩ : ∃ Z, Z = (ks ++ [pk]).length := ⟨_, rfl⟩
      have hso1 := sortFunc_any hv11 (by have := HKl.out; simp; omega)
      rw [← hZ] at hso1 ⊢
      have HSo := Lib.hid hso1
      have HZ := Lib.hid hZ
      clear hso1
      have H11 := Lib.hid (And.intro hg11 (And.intro hgb hgk))
      clear hv11 hg11 hgb hgk hZ
      refine HSo.out.mono ?_
      rintro e W12 ⟨rfl, hk12, hg12⟩
      obtain ⟨hg11, hgb, hgk⟩ := H11.out
      obtain ⟨r9, b39, ob9, hv9, tn9⟩ := HR9.out
      obtain ⟨-, -, -, hFB, hks1, hks2⟩ := HTN.out
      have hFB9 : ∀ n, FB B n → n < w.heap.size := hFB
      have gA : Gr W9 (W9.alloc (.cells #[.int .i64 O1, .int .i64 O2] TKey)) := (Gr.refl _).alloc (Nat.le_refl _) _
      have hold : ∀ m, (Value.slice p j cap).ownBlock = some m → w.heap.size ≤ m := fun m hm => (World.ownsRow.lt hv9 m hm).1
      have r12 := ((r9.gr gA).row hg11 (fun m e F => by have := hold m e; have := hFB9 m F; omega)).row hg12 (fun m e F => by cases e; have := hFB9 _ F; omega)
      have tn12 := ((tn9.trans (Tn.of_gr gA)).row hg11 hold).row hg12 (fun m e => by cases e; exact hgb)
      have hobw : ob = w.heap.size := HKS.out.2.2.2
      have obne : ∀ m, (Value.slice p j cap).ownBlock = some m → m ≠ ob := fun m hm e => by
        rcases hv9.2 with ⟨h0, _⟩ | ⟨g', cap', cur, h0, _, hg', _⟩
        · rw [h0] at hm; cases hm
        · rw [h0] at hm
          cases hm
          have h9 : W9.heap[g']? = some (.cells #[.int .u64 (o : Int)] TOw (0, 0)) := by rw [show g' = ob from e]; exact ob9
          rw [hg'] at h9
          injection h9 with h10
          injection h10 with _ h11
          cases h11
      have ob12 : Blk W12 ob TOw #[.int .u64 (o : Int)] := by
        have o1 := (ob9.gr gA).stays (hg11.block ob (ob9.gr gA).lt fun e => obne ob e.symm rfl)
        refine o1.stays (hg12.block ob o1.lt fun e => ?_)
        cases e
        unfold Blk at o1
        rw [hgk] at o1
        injection o1 with h10
        injection h10 with _ h11
        cases h11
      have z0 := ob12.cell 0
      have q1 := r12.c3.2.1
      simp at z0
      have trd : TbAt W12.drew t km om B _ := r12.gr (Gr.refl _).drew
      obtain ⟨w7, hrun, hM7, hG7⟩ := trd.owners.drop KO_ok (t := TMo) Tryz.underlying49 ho 0
      rw [show KO.val o = .int .u64 (o : Int) from rfl, show KO.ty = TOw from rfl] at hrun
      have hw7 : Onl (fun n => n = om) W12 w7 := (Onl.of_gr (Gr.refl _).drew).trans (Onl.of_grown (S := fun n => n = om) hG7 rfl) (fun _ _ e => e)
      obtain ⟨r7, t7⟩ := r12.delPy hw7 hM7
      have hlv : T.lv o = { ({ ({ T5.off o ks with many := M - (j : Int) - 1 } : Tb) with lk := updF ({ T5.off o ks with many := M - (j : Int) - 1 } : Tb).lk pk (some { l6 with line := a ++ c }) } : Tb) with py := updF (T5.off o ks).py o none, oo := delK o (T5.off o ks).oo } := by
        obtain ⟨k1, k2, k3, k4⟩ := HKS.out
        obtain ⟨hpk, hkv, hO1, hO2, hl, hac, hoff, hl6⟩ := HPK.out
        obtain ⟨-, -, -, -, -, -, -, hT6l, -, hl6l⟩ := HR6.out
        unfold Tb.lv
        rw [if_neg HIv.out.2.2]
        have hll : (T.left o).lk = (T5.off o ks).lk := by
          rw [HT5.out, k1]
          rfl
        have hT6' : (T5.off o ks).lk pk = some l6 := hT6l
        rw [← hpk, hll, hT6']
        show ({ T.left o with many := (T.left o).many - 1, lk := updF (T5.off o ks).lk pk (some { l6 with line := offLine o l6.line }) } : Tb) = _
        rw [hl6l.1, hoff]
        unfold Tb.left
        rw [← k1, k3, HT5.out, ← k2, ← HNN.out, k3]
        rfl
      rw [← hlv] at r7
      have hv7 : Kr w7 w.heap.size (.slice (some ⟨g, 0, none⟩) Z cap3) (sortK (ks ++ [pk])) := hk12.tn t7 (fun n hn F => by cases hn; have := hFB9 g F; omega)
      have hCo : Hid (Calls Tryz.prog 61 #[.slice (some ⟨g, 0, none⟩) Z cap3] w7 fun e w' => ∃ v3, e = .returned v3 ∧ Kr w' w.heap.size v3 (T.fks o) ∧ v3.ownBlock = some g ∧ w7.grownBy w' (some g)) := Lib.hid (by
        have hk0 := HKS.out.1
        have hpk := HPK.out.1
        have hfk : T.fks o = sortK (putK pk (T.of o).ks) := by unfold Tb.fks; rw [if_neg HIv.out.2.2, ← hpk]
        have hks3 : ∀ k, k ∈ (T.of o).ks → k ∈ ks := fun k hk => by rw [hk0]; exact (sortK_perm _).mem_iff.2 hk
        by_cases hin : pk ∈ (T.of o).ks
        · rw [hfk, putK_old hin, ← hk0]
          obtain ⟨a', c', hac'⟩ := List.append_of_mem (hks3 pk hin)
          have hso : sortK (ks ++ [pk]) = (a' ++ [pk]) ++ pk :: c' := by
            rw [hk0] at hac' ⊢
            exact sortK_twice hac'
          have hksn : ks = (a' ++ [pk]) ++ c' := by rw [hac']; simp
          rw [hso] at hv7
          have hnd9 := hks1
          rw [hksn] at hnd9
          have hnA := (List.nodup_append.1 hnd9).1
          have hnC : (pk :: c').Nodup := by
            have h9 := hks1
            rw [hac'] at h9
            exact (List.nodup_append.1 h9).2.1
          have hlen9 : ((a' ++ [pk]) ++ pk :: c').length ≤ 1000000000 := by
            have h9 := HKl.out
            rw [hac'] at h9
            simp at h9 ⊢
            omega
          refine (compact_dup hv7 (nodup_beside hnA) (nodup_beside hnC) hlen9).mono ?_
          rintro e w' ⟨v3, rfl, h1, h2, h3⟩
          exact ⟨v3, rfl, by rw [hksn]; exact h1, h2, h3⟩
        · have hso : sortK (ks ++ [pk]) = T.fks o := by
            rw [hfk, putK_new hin]
            refine sortK_congr ?_
            rw [hk0]
            exact List.perm_append_comm.trans ((sortK_perm _).cons pk)
          rw [hso] at hv7
          have hnd9 : (T.fks o).Nodup := fks_nodup HIv.out.1 o
          have hlen9 : (T.fks o).length ≤ 1000000000 := by
            rw [← hso, sortK_len]
            have h9 := HKl.out
            simp
            omega
          refine (compact_any hv7 (nodup_beside hnd9) hlen9).mono ?_
          rintro e w' ⟨rfl, gg⟩
          exact ⟨_, rfl, World.ownsRow.kept hv7 (row := none) ⟨gg.os, gg.tape, gg.output, gg.size, fun k hk _ => gg.block k hk⟩ (.inr (by simp [Value.ownBlock])), rfl, ⟨gg.os, gg.tape, gg.output, gg.size, fun k hk _ => gg.block k hk⟩⟩)
      have HE := Lib.hid (And.intro r7 (And.intro (tn12.trans t7) (And.intro hgb hFB9)))
      clear r9 b39 ob9 hv9 tn9 hFB hks1 hks2 hFB9 gA hold r12 tn12 hobw obne ob12 trd hM7 hG7 hw7 r7 t7 hlv hv7 hk12 hg12 hg11 hgb hgk HSo
      go_upto_region 15 with fail
      go_region_with (fail)
      all_goals
        go_wp2_with fail
        refine hCo.out.mono ?_
        rintro e w8 ⟨v3, rfl, k8', o8, g8⟩
        have H8 := Lib.hid (And.intro k8' (And.intro o8 g8))
        clear k8' o8 g8
        go_wp2_with fail
        go_ret
        obtain ⟨r7, tT, hgb, hFB⟩ := HE.out
        obtain ⟨k8', o8, g8⟩ := H8.out
        have hBn : ∀ n, FB (updF (updF B (.py o) none) (.pm o) none) n → n < w.heap.size := fun n ⟨a, ha⟩ => hFB n ⟨a, by
          unfold updF at ha
          split at ha
          · cases ha
          · split at ha
            · cases ha
            · exact ha⟩
        exact ⟨_, _, rfl, k8', r7.row g8 (fun m e F => by cases e; have := hBn _ F; omega), tT.row g8 (fun m e => by cases e; exact hgb), fun m hm F => by have hm' : v3.ownBlock = some m := hm; rw [o8] at hm'; cases hm'; have := hBn _ F; omega⟩
end
end Go.Proofs.YtadopbpfnnpnaaaGreat

/-
  One owner that asks alone: it lets all go.
-/
namespace Go.Proofs.YtadopbpfnnpnaaaGreat
open Go.RowKit Go.Maps

section
variable {w : World} {t km om : Nat} {B : Tag → Option Nat} {T : Tb}
theorem TbAt.ks_dom (h : TbAt w t km om B T) (o : Nat) : ∀ k, k ∈ (T.of o).ks → KL.dom k := by
  unfold Tb.of
  cases e : T.py o with
  | none => intro k hk; cases hk
  | some p =>
    obtain ⟨b, h', h1, h2, h3, h4⟩ := h.py o p e
    intro k hk
    exact h4.dom k ((h4.mem k).1 hk)
theorem leave_flat (h : TbAt w t km om B T) (ok : T.Ok) {o : Nat} (ho : KO.dom o) (hm : (T.of o).mode = 0) (hmn : 0 ≤ T.many ∧ T.many ≤ 1000000000) (hln : (T.of o).ks.length ≤ 1000000000) :
    Calls Tryz.prog 40 #[.pointer (some ⟨t, 0, none⟩), .int .u64 (o : Int)] w (RetLv t km om B (T.left o) (sortK (T.of o).ks) w) :=
  (leave_any h ok ho hm hmn hln).mono fun e w' ⟨v, B', he, hk, ht, hn, hf⟩ => ⟨v, B', he, hk, ht, hn, fun g hg hF => by
    have h1 := (World.ownsRow.lt hk g hg).1
    have h2 := hf g hF
    omega⟩
end
end Go.Proofs.YtadopbpfnnpnaaaGreat

