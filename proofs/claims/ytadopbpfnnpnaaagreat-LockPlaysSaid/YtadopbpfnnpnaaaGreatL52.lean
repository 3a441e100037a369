/-
  Texts on locks, put together: LkPlay5 LkPlay6.
-/
import Derived.Test.YtadopbpfnnpnaaaGreatL37
import Derived.Test.YtadopbpfnnpnaaaGreatL38
import Derived.Test.YtadopbpfnnpnaaaGreatL41
import Derived.Test.YtadopbpfnnpnaaaGreatL51
set_option linter.unusedVariables false
set_option linter.unusedSimpArgs false
/-
  The law LockPlays: looks.
-/
namespace Go.Proofs.YtadopbpfnnpnaaaGreat
open Go.RowKit Go.Maps

theorem same_yes {w : World} {b1 b2 : Nat} {v1 v2 : Value} {xs : List Nat} (h1 : Us w b1 v1 xs) (h2 : Us w b2 v2 xs) (hx : xs.length ≤ 1000000000) : Calls Tryz.prog 13 #[v1, v2] w fun e w' => e = .returned (.bool true) ∧ Gr w w' := by
  have := same10_any h1.usl h2.usl hx hx
  rw [decide_eq_true rfl] at this
  exact this
section
variable {w0 w : World} {t km om d : Nat} {B : Tag → Option Nat} {T : Tb} {hv lv : Value} {D : DT} {n o : Nat} {k : Key}
theorem for_doc (h : PmAt w0 w t km om B T d hv lv D) (hs : PlS T D n) (hn : n ≤ 200) (ho : KO.dom o) : Calls Tryz.prog 24 #[.pointer (some ⟨t, 0, none⟩), .int .u64 (o : Int)] w (RetRow (D.forL o) w) :=
  (For_any h.tb hs.inv (by have := hs.oo; omega) ho).mono fun e w' ⟨xs, h1, h2, h3⟩ => by
    have : xs = D.forL o := rise_unique h2 (forL_rise D o) fun q => by rw [h1, hs.rel.forL hs.inv]
    rw [this] at h3
    exact h3
theorem line_doc (h : PmAt w0 w t km om B T d hv lv D) (hs : PlS T D n) (hn : n ≤ 200) (hk : KL.dom k) : Calls Tryz.prog 15 #[.pointer (some ⟨t, 0, none⟩), kv k] w (RetRow (D.lineOf k) w) := by
  rw [hs.rel.lineOf k]
  exact Line_any h.tb hk (by have := hs.inv.lkOf_line k; have := hs.oo; omega)
theorem holds_doc (h : PmAt w0 w t km om B T d hv lv D) (hs : PlS T D n) (hn : n ≤ 200) (ho : KO.dom o) (hk : KL.dom k) : Calls Tryz.prog 16 #[.pointer (some ⟨t, 0, none⟩), .int .u64 (o : Int), kv k] w fun e w' => e = .returned (.int .i64 (D.holds o k)) ∧ Gr w w' := by
  rw [hs.rel.holds hs.inv]
  exact Holds_any h.tb (hs.inv.ok (by have := hs.oo; omega)) ho hk
theorem len_doc (h : PmAt w0 w t km om B T d hv lv D) (hs : PlS T D n) : Calls Tryz.prog 28 #[.pointer (some ⟨t, 0, none⟩)] w fun e w' => e = .returned (.int .i64 ((D.held.length : Int) + (D.line.length : Int))) ∧ Gr w w' :=
  (Len_any h.tb).mono fun e w' ⟨h1, h2⟩ => by
    refine ⟨?_, h2 ▸ Gr.refl _⟩
    rw [h1, hs.rel.many hs.inv]
    simp
theorem line_nat (D : DT) (k : Key) : (D.lineOf k).length ≤ D.line.length := by
  unfold DT.lineOf
  rw [List.length_map]
  exact List.length_filter_le _ _
set_option maxRecDepth 100000 in
set_option maxHeartbeats 16000000 in
theorem looks_any (h : PmAt w0 w t km om B T d hv lv D) (hs : PlS T D n) (hn : n ≤ 200) (ho : KO.dom o) (hk : KL.dom k) (mo : Int) :
    Calls Tryz.prog 8 #[.pointer (some ⟨t, 0, none⟩), .pointer (some ⟨d, 0, none⟩), .int .u64 (o : Int), .agg #[.int .i64 k.1, .int .i64 k.2], .int .i64 mo] w fun e w' => e = .returned (.bool true) ∧ Gr w w' := by
  obtain ⟨k1, k2⟩ := k
  obtain ⟨W1, hW1⟩ : ∃ W1, W1 = w.alloc (.cells #[.int .i64 k1, .int .i64 k2] TKey) := ⟨_, rfl⟩
  have g1 : Gr w W1 := by rw [hW1]; exact gr_alloc _ _
  have b1 := Blk.new w TKey #[.int .i64 k1, .int .i64 k2]
  rw [← hW1] at b1
  obtain ⟨cb, hcb⟩ : ∃ cb, cb = w.heap.size := ⟨_, rfl⟩
  rw [← hcb] at b1
  have HX := Lib.hid (And.intro h (And.intro hs (And.intro hn (And.intro ho hk))))
  have H1 := Lib.hid (And.intro hW1 (And.intro hcb (And.intro g1 b1)))
  have HWt := Lib.hid (Waits_any (h.more g1).tb ho)
  obtain ⟨Q1, hQ1⟩ : ∃ x, x = (T.of o).key.1 := ⟨_, rfl⟩
  obtain ⟨Q2, hQ2⟩ : ∃ x, x = (T.of o).key.2 := ⟨_, rfl⟩
  obtain ⟨MD, hMD⟩ : ∃ x, x = (T.of o).mode := ⟨_, rfl⟩
  obtain ⟨WB, hWB⟩ : ∃ x, x = ((T.of o).mode != 0) := ⟨_, rfl⟩
  dsimp only [kv] at HWt
  rw [← hQ1, ← hQ2, ← hMD] at HWt
  rw [show (MD != 0) = WB by rw [hWB, hMD]] at HWt
  obtain ⟨I, hI⟩ : ∃ I, I = D.wi o := ⟨_, rfl⟩
  have hIW : decide ((0 : Int) ≤ I) = WB := by
    by_cases hw : (T.of o).mode = 0
    · have h1 : ¬ D.line.any (ofO o) = true := fun e => (hs.rel.any hs.inv).1 e hw
      rw [hI, wi_no h1, hWB, hw]
      rfl
    · have h1 := (hs.rel.any hs.inv).2 hw
      rw [hI, (wi_yes h1).1, hWB]
      rw [show ((T.of o).mode != 0) = true from by rw [bne_iff_ne]; exact hw]
      exact decide_eq_true (by omega)
  have hIW2 : decide (I ≥ (0 : Int)) = WB := hIW
  have HQ := Lib.hid (And.intro hQ1 (And.intro hQ2 (And.intro hMD (And.intro hWB hI))))
  clear h hs hn ho hk hW1 hcb g1 b1 hQ1 hQ2 hMD hWB hI
  go_enter Tryz.func8, Tryz.ntmps8
  go_upto_region 1 with fail
  rw [show (w.alloc (.cells #[.int .i64 k1, .int .i64 k2] 33)) = W1 from H1.out.1.symm, ← H1.out.2.1]
  go_wp2_with fail
  refine HWt.out.mono ?_
  rintro e w2 ⟨rfl, g2⟩
  obtain ⟨W3, hW3⟩ : ∃ W3, W3 = w2.alloc (.cells #[.int .i64 Q1, .int .i64 Q2] TKey) := ⟨_, rfl⟩
  have g3 : Gr w2 W3 := by rw [hW3]; exact gr_alloc _ _
  have b3 := Blk.new w2 TKey #[.int .i64 Q1, .int .i64 Q2]
  rw [← hW3] at b3
  obtain ⟨qb, hqb⟩ : ∃ qb, qb = w2.heap.size := ⟨_, rfl⟩
  rw [← hqb] at b3
  have H3 := Lib.hid (And.intro hW3 (And.intro hqb (And.intro (Gr.trans (Gr.trans H1.out.2.2.1 g2) g3) (And.intro b3 (H1.out.2.2.2.gr (Gr.trans g2 g3))))))
  clear hW3 hqb g2 g3 b3
  go_upto_region 2 with fail
  rw [show (w2.alloc (.cells #[.int .i64 Q1, .int .i64 Q2] 33)) = W3 from H3.out.1.symm, ← H3.out.2.1]
  have P3 := Lib.hid (HX.out.1.more H3.out.2.2.1)
  go_wp2_with fail
  refine (dWaits_any P3.out.dt.at (by have := HX.out.2.1.len; have := HX.out.2.2.1; omega) o).mono ?_
  rintro e w4 ⟨rfl, g4⟩
  rw [← HQ.out.2.2.2.2]
  have P4 := Lib.hid (P3.out.more g4)
  have B4 := Lib.hid (And.intro (H3.out.2.2.2.1.gr g4) (And.intro (H3.out.2.2.2.2.gr g4) (Gr.trans H3.out.2.2.1 g4)))
  clear g4
  go_upto_region 5 with fail
  go_cut [66] from 29 to 66 (fun s66 wx => s66 = .bool false ∧ Hid (Gr w4 wx))
  case first =>
    have hq : ∀ W, (Op.equalIn 10000 TKey (.agg #[.int .i64 Q1, .int .i64 Q2]) (.agg #[.int .i64 Q1, .int .i64 Q2])).run Tryz.prog W = .ok true W := fun W => by
      have := eqi_key (Q1, Q2) (Q1, Q2) W
      rw [decide_eq_true rfl] at this
      exact this
    have y0 := B4.out.1.cell 0
    have y1 := B4.out.1.cell 1
    simp at y0 y1
    cases WB with
    | false =>
      have hm0 : (T.of o).mode = 0 := by
        have := HQ.out.2.2.2.1
        cases e : decide ((T.of o).mode = 0) with
        | true => exact of_decide_eq_true e
        | false =>
          have e2 := of_decide_eq_false e
          rw [show ((T.of o).mode != 0) = true from by rw [bne_iff_ne]; exact e2] at this
          cases this
      have hk0 := HX.out.2.1.inv.w0 o hm0
      have e1 : Q1 = 0 := by rw [HQ.out.1, hk0]
      have e2 : Q2 = 0 := by rw [HQ.out.2.1, hk0]
      have e3 : MD = 0 := by rw [HQ.out.2.2.1, hm0]
      subst e1 e2 e3
      clear hm0 hk0 hIW hIW2
      go_quiet (fail)
      rename_i nq
      have HG := Lib.hid (grD (Gr.refl _) : Gr w4 (w4.drewN nq))
      go_wp2_with fail
      go_meet
      exact ⟨rfl, HG⟩
    | true =>
      have hm0 : (T.of o).mode ≠ 0 := by
        have := HQ.out.2.2.2.1
        rw [eq_comm, bne_iff_ne] at this
        exact this
      obtain ⟨x, x1, x2, x3, x4⟩ := HX.out.2.1.rel.waits HX.out.2.1.inv hm0
      have hat : D.at o = x := by rw [← x2]; exact HX.out.2.1.rel.at x1
      obtain ⟨hwi, hlt, hat2⟩ := wi_yes ((HX.out.2.1.rel.any HX.out.2.1.inv).2 hm0)
      rw [hat] at hat2
      obtain ⟨A, hA⟩ : ∃ A, A = D.line.findIdx (ofO o) := ⟨_, rfl⟩
      rw [← hA] at hwi hlt hat2
      have hIA : I = (A : Int) := by rw [HQ.out.2.2.2.2, hwi]
      subst hIA
      have T4 := P4.out.dt
      obtain ⟨pl, cl, hlv⟩ := dform T4.line
      subst hlv
      obtain ⟨N, hN⟩ : ∃ N, N = D.line.length := ⟨_, rfl⟩
      have hds := T4.line.dsl
      rw [← hN] at hds hlt
      obtain ⟨-, hNc, hcell⟩ := hds.at
      obtain ⟨gl, ql, hpl, q0, q1, q2, q3, -⟩ := hcell A hlt
      subst hpl
      have c1 := T4.blk.cell 1
      simp at c1
      rw [← hN] at c1
      rw [← hat2] at q1 q2 q3
      rw [x3, ← HQ.out.1] at q1
      rw [x3, ← HQ.out.2.1] at q2
      rw [x4, ← HQ.out.2.2.1] at q3
      have hA0 : (0 : Int) ≤ (A : Int) := by omega
      have hAN : (A : Int) < (N : Int) := by omega
      clear hm0 x1 x2 x3 x4 hat hwi hat2 hA hN hds hNc hcell T4 q0 hlt
      go_quiet (fail)
      rename_i nq
      have HG := Lib.hid (grD (Gr.refl _) : Gr w4 (w4.drewN nq))
      go_wp2_with fail
      go_meet
      exact ⟨rfl, HG⟩
  case rest =>
    obtain ⟨rfl, G5⟩ := hcut
    have P5 := Lib.hid (P4.out.more G5.out)
    have B5 := Lib.hid (B4.out.2.1.gr G5.out)
    obtain ⟨ph, ch, hhv⟩ := dform P5.out.dt.held
    obtain ⟨pl, cl, hlv⟩ := dform P5.out.dt.line
    subst hhv hlv
    obtain ⟨NH, hNH⟩ : ∃ x, x = D.held.length := ⟨_, rfl⟩
    obtain ⟨NL, hNL⟩ : ∃ x, x = D.line.length := ⟨_, rfl⟩
    have hs0 := P5.out.dt.blk
    rw [← hNH, ← hNL] at hs0
    have HSW : Hid (∀ V, Gr wc V → V.cell? ⟨cb, 0, none⟩ = some (.int .i64 k1) ∧ V.cell? ⟨cb, 1, none⟩ = some (.int .i64 k2) ∧ V.cell? ⟨d, 0, none⟩ = some (.slice ph NH ch) ∧ V.cell? ⟨d, 1, none⟩ = some (.slice pl NL cl)) := Lib.hid fun V g => ⟨(B5.out.gr g).cell 0, (B5.out.gr g).cell 1, (hs0.gr g).cell 0, (hs0.gr g).cell 1⟩
    have hlb := HX.out.2.1.len
    have hnb := HX.out.2.2.1
    have hsum : IntKind.i64.wrap ((NH : Int) + (NL : Int)) = (NH : Int) + (NL : Int) := IntWalk.i64_in _ (by omega)
    obtain ⟨HH, hHH⟩ : ∃ x, x = D.holds o (k1, k2) := ⟨_, rfl⟩
    have C16 : Hid (∀ V, Gr wc V → Calls Tryz.prog 16 #[.pointer (some ⟨t, 0, none⟩), .int .u64 (o : Int), .agg #[.int .i64 k1, .int .i64 k2]] V fun e w' => e = .returned (.int .i64 HH) ∧ Gr V w') := Lib.hid fun V g => by rw [hHH]; exact holds_doc (P5.out.more g) HX.out.2.1 HX.out.2.2.1 HX.out.2.2.2.1 HX.out.2.2.2.2
    have C23 : Hid (∀ V, Gr wc V → Calls Tryz.prog 23 #[.pointer (some ⟨d, 0, none⟩), .int .u64 (o : Int), .agg #[.int .i64 k1, .int .i64 k2]] V fun e w' => e = .returned (.int .i64 HH) ∧ Gr V w') := Lib.hid fun V g => by rw [hHH]; exact dHolds_any (P5.out.more g).dt.at (by omega) o (k1, k2)
    have C24 : Hid (∀ V, Gr wc V → Calls Tryz.prog 24 #[.pointer (some ⟨t, 0, none⟩), .int .u64 (o : Int)] V (RetRow (D.forL o) V)) := Lib.hid fun V g => for_doc (P5.out.more g) HX.out.2.1 HX.out.2.2.1 HX.out.2.2.2.1
    have C25 : Hid (∀ V, Gr wc V → Calls Tryz.prog 25 #[.pointer (some ⟨d, 0, none⟩), .int .u64 (o : Int)] V (RetRow (D.forL o) V)) := Lib.hid fun V g => dFor_any (P5.out.more g).dt.at (by omega) (by omega) o
    have C15 : Hid (∀ V, Gr wc V → Calls Tryz.prog 15 #[.pointer (some ⟨t, 0, none⟩), .agg #[.int .i64 k1, .int .i64 k2]] V (RetRow (D.lineOf (k1, k2)) V)) := Lib.hid fun V g => line_doc (P5.out.more g) HX.out.2.1 HX.out.2.2.1 HX.out.2.2.2.2
    have C26 : Hid (∀ V, Gr wc V → Calls Tryz.prog 26 #[.pointer (some ⟨d, 0, none⟩), .agg #[.int .i64 k1, .int .i64 k2]] V (RetRow (D.lineOf (k1, k2)) V)) := Lib.hid fun V g => dLineOf_any (P5.out.more g).dt.at (by omega) (k1, k2)
    have C27 : Hid (∀ V (m : Int), Gr wc V → Calls Tryz.prog 27 #[.pointer (some ⟨t, 0, none⟩), .pointer (some ⟨d, 0, none⟩), .int .u64 (o : Int), .int .i64 m] V fun e w' => e = .returned (.bool true) ∧ Gr V w') := Lib.hid fun V m g => held_any (P5.out.more g) HX.out.2.1 HX.out.2.2.1 HX.out.2.2.2.1 m
    have C28 : Hid (∀ V, Gr wc V → Calls Tryz.prog 28 #[.pointer (some ⟨t, 0, none⟩)] V fun e w' => e = .returned (.int .i64 ((NH : Int) + (NL : Int))) ∧ Gr V w') := Lib.hid fun V g => by rw [hNH, hNL]; exact len_doc (P5.out.more g) HX.out.2.1
    have HLb : Hid ((D.forL o).length ≤ 1000000000 ∧ (D.lineOf (k1, k2)).length ≤ 1000000000) := Lib.hid ⟨by
      have h1 := nodup_le (D.forL o) T.oo ((forL_rise D o).imp fun hab => Nat.ne_of_lt hab) fun q hq => whom_oo HX.out.2.1.inv ((HX.out.2.1.rel.forL HX.out.2.1.inv).1 hq)
      have := HX.out.2.1.oo
      omega, by have := line_nat D (k1, k2); omega⟩
    have G9 := Lib.hid (Gr.trans B4.out.2.2 G5.out)
    have GR := Lib.hid (Gr.refl wc).drew
    clear hs0 hNH hNL hlb hnb hHH
    go_upto_region 7 with fail
    go_region_held3 (fun V => V.cell? ⟨cb, 0, none⟩ = some (.int .i64 k1) ∧ V.cell? ⟨cb, 1, none⟩ = some (.int .i64 k2) ∧ V.cell? ⟨d, 0, none⟩ = some (.slice ph NH ch) ∧ V.cell? ⟨d, 1, none⟩ = some (.slice pl NL cl)) (first | exact HSW.out _ GR.out | exact HSW.out _ (Gr.refl _)) (first
      | (go_at_call 16; refine (C16.out _ GR.out).mono ?_; rintro e w6 ⟨rfl, g⟩; have GR := Lib.hid (Gr.trans GR.out g); clear g)
      | (go_at_call 23; refine (C23.out _ GR.out).mono ?_; rintro e w6 ⟨rfl, g⟩; have GR := Lib.hid (Gr.trans GR.out g); clear g)
      | (go_at_call 24; refine (C24.out _ GR.out).mono ?_; rintro e w6 ⟨vf, rfl, hu, g⟩; obtain ⟨pf, nf, cf, hvf⟩ := us_form hu; subst hvf; have GR := Lib.hid (Gr.trans GR.out g); have U1 := Lib.hid hu; clear g hu)
      | (go_at_call 25; refine (C25.out _ GR.out).mono ?_; rintro e w6 ⟨vg, rfl, hu, g⟩; obtain ⟨pg, ng, cg, hvg⟩ := us_form hu; subst hvg; have GR := Lib.hid (Gr.trans GR.out g); have U2 := Lib.hid (And.intro (U1.out.gr g) hu); clear g hu)
      | (go_at_call 13; refine (same_yes U4.out.1 U4.out.2 HLb.out.2).mono ?_; rintro e w6 ⟨rfl, g⟩; have GR := Lib.hid (Gr.trans GR.out g); clear g)
      | (go_at_call 13; refine (same_yes U2.out.1 U2.out.2 HLb.out.1).mono ?_; rintro e w6 ⟨rfl, g⟩; have GR := Lib.hid (Gr.trans GR.out g); clear g)
      | (go_at_call 15; refine (C15.out _ GR.out).mono ?_; rintro e w6 ⟨vl, rfl, hu, g⟩; obtain ⟨pf, nf, cf, hvf⟩ := us_form hu; subst hvf; have GR := Lib.hid (Gr.trans GR.out g); have U3 := Lib.hid hu; clear g hu)
      | (go_at_call 26; refine (C26.out _ GR.out).mono ?_; rintro e w6 ⟨vm, rfl, hu, g⟩; obtain ⟨pg, ng, cg, hvg⟩ := us_form hu; subst hvg; have GR := Lib.hid (Gr.trans GR.out g); have U4 := Lib.hid (And.intro (U3.out.gr g) hu); clear g hu)
      | (go_at_call 27; refine (C27.out _ _ GR.out).mono ?_; rintro e w6 ⟨rfl, g⟩; have GR := Lib.hid (Gr.trans GR.out g); clear g)
      | (go_at_call 28; refine (C28.out _ GR.out).mono ?_; rintro e w6 ⟨rfl, g⟩; have GR := Lib.hid (Gr.trans GR.out g); clear g))
    have HE := Lib.hid (Gr.trans G9.out GR.out)
    go_wp2_with fail
    go_ret
    exact ⟨rfl, HE.out⟩
end
end Go.Proofs.YtadopbpfnnpnaaaGreat

/-
  The law LockPlays: how all four tables stand.
-/
namespace Go.Proofs.YtadopbpfnnpnaaaGreat
open Go.RowKit Go.Maps

/-- The document's table behind so many acts. -/
def Dn (f : Nat → LAct) : Nat → DT
  | 0 => ⟨[], []⟩
  | j + 1 => (Dn f j).act (f j)
theorem PlS.act {T : Tb} {D : DT} {n : Nat} (h : PlS T D n) (hn : n ≤ 200) {a : LAct} (ha : a.In) : ∃ T', PlS T' (D.act a) (n + 1) := by
  unfold DT.act
  by_cases hf : a.free = true
  · rw [if_pos hf]
    exact ⟨_, (h.free hn a.ow).2⟩
  · rw [if_neg hf]
    obtain ⟨R, hR⟩ : ∃ R : Bool, R = true ↔ T.Leads (T.of a.ow).ks a.k := by
      by_cases e : T.Leads (T.of a.ow).ks a.k
      · exact ⟨true, by simp [e]⟩
      · exact ⟨false, by simp [e]⟩
    exact ⟨_, (h.ask hn (m := a.m) ha.o ha.k (R := R) fun _ => hR).2⟩
theorem dn_pl {f : Nat → LAct} : ∀ (j : Nat), j ≤ 200 → (∀ i, i < j → (f i).In) → ∃ T, PlS T (Dn f j) j
  | 0, _, _ => ⟨_, PlS.new⟩
  | j + 1, hj, hf => by
    obtain ⟨T, hT⟩ := dn_pl (f := f) j (by omega) fun i hi => hf i (by omega)
    exact hT.act (by omega) (hf j (by omega))
/-- Behind how many acts the copy was made. -/
def mm (n j : Nat) : Nat := if j ≤ n / 2 then 0 else n / 2 + 1
theorem mm_zero (n : Nat) : mm n 0 = 0 := by unfold mm; rw [if_pos (Nat.zero_le _)]
theorem mm_at (n : Nat) : mm n (n / 2 + 1) = n / 2 + 1 := by unfold mm; rw [if_neg (by omega)]
theorem mm_step {n j : Nat} (h : j ≠ n / 2) : mm n (j + 1) = mm n j := by
  unfold mm
  by_cases h1 : j + 1 ≤ n / 2
  · rw [if_pos h1, if_pos (by omega)]
  · rw [if_neg h1, if_neg (by omega)]
theorem mm_all {n : Nat} (h : 0 < n) : mm n n = n / 2 + 1 := by unfold mm; rw [if_neg (by omega)]
structure L1At (w0 V : World) (t km om : Nat) (B : Tag → Option Nat) (T : Tb) (d : Nat) (hv lv : Value) (D : DT) (c kmc omc : Nat) (Bc : Tag → Option Nat) (C : Tb) : Prop where
  a : PmAt w0 V t km om B T d hv lv D
  c : TbAt V c kmc omc Bc C
  cf : ∀ m, FB Bc m → w0.heap.size ≤ m
  ap : ∀ m, PB B d hv lv m → ¬ FB Bc m
structure LpAt (w0 V : World) (t km om : Nat) (B : Tag → Option Nat) (T : Tb) (d : Nat) (hv lv : Value) (D : DT) (c kmc omc : Nat) (Bc : Tag → Option Nat) (C : Tb) (dv : Nat) (hv2 lv2 : Value) (D2 : DT) : Prop where
  a : PmAt w0 V t km om B T d hv lv D
  b : PmAt w0 V c kmc omc Bc C dv hv2 lv2 D2
  ap : ∀ m, PB B d hv lv m → ¬ PB Bc dv hv2 lv2 m
section
variable {w0 V V' : World} {t km om d c kmc omc dv : Nat} {B B' Bc Bc' : Tag → Option Nat} {T T' C C' : Tb} {hv lv hv' lv' hv2 lv2 hv2' lv2' : Value} {D D' D2 D2' : DT}
theorem L1At.more (h : L1At w0 V t km om B T d hv lv D c kmc omc Bc C) (g : Gr V V') : L1At w0 V' t km om B T d hv lv D c kmc omc Bc C := ⟨h.a.more g, h.c.gr g, h.cf, h.ap⟩
theorem L1At.turn (h : L1At w0 V t km om B T d hv lv D c kmc omc Bc C) (k : PmAt w0 V' t km om B' T' d hv' lv' D') (n : DTn V V' (PB B d hv lv) (PB B' d hv' lv')) : L1At w0 V' t km om B' T' d hv' lv' D' c kmc omc Bc C :=
  ⟨k, h.c.stays fun a m hm => n.blk m (h.c.lt a m hm) fun e => h.ap m e ⟨a, hm⟩, h.cf, fun m hm e => by
    rcases n.sub m hm with e2 | e2
    · exact h.ap m e2 e
    · have := h.c.fb_lt m e; omega⟩
/-- A new copy. -/
theorem L1At.copy {c' kmc' omc' : Nat} (h : L1At w0 V t km om B T d hv lv D c kmc omc Bc C) (g : Gr V V') (k : TbAt V' c' kmc' omc' Bc' T) (hn : ∀ m, FB Bc' m → V.heap.size ≤ m) : L1At w0 V' t km om B T d hv lv D c' kmc' omc' Bc' T :=
  ⟨h.a.more g, k, fun m hm => Nat.le_trans h.a.gr.size (hn m hm), fun m hm e => by have := hn m e; have := h.a.lt m hm; omega⟩
/-- The second table of the document comes in. -/
theorem L1At.lp (h : L1At w0 V t km om B T d hv lv D c kmc omc Bc C) (g : Gr V V') (hb : Blk V' V.heap.size TDt #[.slice none 0 0, .slice none 0 0]) : LpAt w0 V' t km om B T d hv lv D c kmc omc Bc C V.heap.size (.slice none 0 0) (.slice none 0 0) ⟨[], []⟩ := by
  have hdb : ∀ m, DB V.heap.size (.slice none 0 0) (.slice none 0 0) m → m = V.heap.size := fun m hm => by
    rcases hm with e | e | e
    · exact e
    · cases e
    · cases e
  refine ⟨h.a.more g, ⟨h.c.gr g, ⟨hb, Dr.nil _ _, Dr.nil _ _, (fun e => by cases e), (fun e => by cases e), fun k e => by cases e⟩, h.cf, fun m hm => ?_, fun m hm e => ?_, Gr.trans h.a.gr g⟩, fun m hm e => ?_⟩
  · rw [hdb m hm]; exact h.a.gr.size
  · have := h.c.fb_lt m hm
    have := hdb m e
    omega
  · rcases e with e | e
    · exact h.ap m hm e
    · have := h.a.lt m hm
      have := hdb m e
      omega
theorem LpAt.more (h : LpAt w0 V t km om B T d hv lv D c kmc omc Bc C dv hv2 lv2 D2) (g : Gr V V') : LpAt w0 V' t km om B T d hv lv D c kmc omc Bc C dv hv2 lv2 D2 := ⟨h.a.more g, h.b.more g, h.ap⟩
/-- The second pair turns. -/
theorem LpAt.turn (h : LpAt w0 V t km om B T d hv lv D c kmc omc Bc C dv hv2 lv2 D2) (k : PmAt w0 V' c kmc omc Bc' C' dv hv2' lv2' D2') (n : DTn V V' (PB Bc dv hv2 lv2) (PB Bc' dv hv2' lv2')) : LpAt w0 V' t km om B T d hv lv D c kmc omc Bc' C' dv hv2' lv2' D2' :=
  ⟨h.a.stay n (fun m hm e => h.ap m hm e) k.gr, k, fun m hm e => by
    rcases n.sub m e with e2 | e2
    · exact h.ap m hm e2
    · have := h.a.lt m hm; omega⟩
/-- The law's first tables. -/
theorem first_pm {w1 : World} (h : TbAt w1 t km om B T) (hB : ∀ n, FB B n → w0.heap.size ≤ n) (g1 : Gr w0 w1) (g : Gr w1 V) (hb : Blk V w1.heap.size TDt #[.slice none 0 0, .slice none 0 0]) : PmAt w0 V t km om B T w1.heap.size (.slice none 0 0) (.slice none 0 0) ⟨[], []⟩ := by
  have hdb : ∀ m, DB w1.heap.size (.slice none 0 0) (.slice none 0 0) m → m = w1.heap.size := fun m hm => by
    rcases hm with e | e | e
    · exact e
    · cases e
    · cases e
  refine ⟨h.gr g, ⟨hb, Dr.nil _ _, Dr.nil _ _, (fun e => by cases e), (fun e => by cases e), fun k e => by cases e⟩, hB, fun m hm => ?_, fun m hm e => ?_, Gr.trans g1 g⟩
  · rw [hdb m hm]; exact g1.size
  · have := h.fb_lt m hm
    have := hdb m e
    omega
end
end Go.Proofs.YtadopbpfnnpnaaaGreat

