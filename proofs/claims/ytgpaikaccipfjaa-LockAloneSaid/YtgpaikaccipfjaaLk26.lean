
/-
  The code's table of locks: ring's own way, where all who hold wait for nothing or for what is held.
-/
import Derived.Test.YtgpaikaccipfjaaLk25
namespace Go.Proofs.Ytgpaikaccipfjaa
open Go.RowKit Go.Maps

theorem Mp.range {α : Type} [DecidableEq α] {P : Program} {K : KK α} {w : World} {m : Nat} {f : α → Option Value} {ks : List α} (O : K.Ok P) (h : Mp P K w m f ks) {t e : TypeId} (ht : P.underlying t = some (.map K.ty e)) :
    ∃ w', (Instr.range t (.map (some m))).run P w = .ok (.pointer (some ⟨w.heap.size, 0, none⟩)) w' ∧ Rg P K w' m w.heap.size f ks (fun a => a ∈ ks) ∧ Gr w w' ∧ w'.heap.size = w.heap.size + 1 := by
  obtain ⟨D, h1, hD⟩ := h
  obtain ⟨w', hr, h2, h3, h4⟩ := h1.range O.keyed ht
  exact ⟨w', hr, ⟨D, _, _, h2, hD, fun a ha => by rw [hD.has a ha]; exact (hD.mem a).symm, fun _ h => h⟩, ⟨h3.os, h3.tape, h3.output, h3.size, fun k hk => h3.block k hk (by simp)⟩, h4⟩
section
variable {w : World} {t km om : Nat} {B : Tag → Option Nat} {T : Tb}
set_option maxRecDepth 100000 in
set_option maxHeartbeats 2000000 in
theorem leads_flat (h : TbAt w t km om B T) {k : Key} (hk : KL.dom k) {l : Lk} (hl : T.lk k = some l) {sb tb mb lb sm : Nat} {ty1 ty2 : TypeId} {hp : Option Nat} {O1 O2 O3 : Int} {ks : List Key}
    (hsb : Blk w sb ty1 #[.map (some sm)]) (hsm : Mp Try.prog KL w sm (unitF []) []) (hnF : ¬ FB B sm) (htb : Blk w tb ty2 #[.pointer (some ⟨t, 0, none⟩)]) (hmb : Blk w mb TPy #[.map hp, .int .i64 O1, .int .i64 O2, .int .i64 O3])
    (hmn : HsAt w hp ks) (hne : ∀ n, hp = some n → n ≠ sm) (hflat : ∀ q, q ∈ l.hs → (T.of q).mode = 0 ∨ (T.of q).key ∈ ks) (hkd : ∀ q, KL.dom (T.of q).key) :
    Calls Try.prog 45 #[kv k, .pointer (some ⟨sb, 0, none⟩), .pointer (some ⟨tb, 0, none⟩), .pointer (some ⟨mb, 0, none⟩), .pointer (some ⟨lb, 0, none⟩)] w
      fun e w' => e = .returned (.bool (l.hs.any fun q => decide ((T.of q).mode ≠ 0))) ∧ w.grownBy w' (some sm) := by
  obtain ⟨k1, hk1⟩ : ∃ x, x = k.1 := ⟨_, rfl⟩
  obtain ⟨k2, hk2⟩ : ∃ x, x = k.2 := ⟨_, rfl⟩
  have hkv : kv k = .agg #[.int .i64 k1, .int .i64 k2] := by rw [hk1, hk2]; rfl
  rw [hkv]
  have g1 : Gr w (w.alloc (.cells #[.int .i64 k1, .int .i64 k2] TKey)) := (Gr.refl w).alloc (Nat.le_refl _) _
  have b6 := (Blk.new w TKey #[.int .i64 k1, .int .i64 k2])
  obtain ⟨W0, hW0⟩ : ∃ W0, W0 = w.alloc (.cells #[.int .i64 k1, .int .i64 k2] TKey) := ⟨_, rfl⟩
  rw [← hW0] at g1 b6
  obtain ⟨w1, hrun, hM1, hG1⟩ := (hsm.stays (g1.block sm hsm.lt)).store KL_ok (by decide) (t := TMs) Try.underlying59 hk (.agg #[])
  rw [show KL.val k = kv k from rfl, hkv] at hrun
  rw [unitF_put] at hM1
  have hsm0 : sm < w.heap.size := hsm.lt
  obtain ⟨kb, hkb⟩ : ∃ kb, kb = w.heap.size := ⟨_, rfl⟩
  rw [← hkb] at b6
  have x0 := b6.cell 0
  have x1 := b6.cell 1
  have s0 := (hsb.gr g1).cell 0
  simp at x0 x1 s0
  have hkeep : ∀ n, n < W0.heap.size → n ≠ sm → w1.heap[n]? = W0.heap[n]? := fun n h1 h2 => hG1.block n h1 fun e => h2 (by cases e; rfl)
  have t1 : TbAt w1 t km om B T := (h.gr g1).row hG1 (fun m e => by cases e; exact hnF)
  have hkbs : kb ≠ sm := by omega
  have b61 := b6.stays (hkeep kb b6.lt hkbs)
  have hne2 : ∀ {n : Nat} {ty : TypeId} {cs : Array Value}, Blk w n ty cs → n ≠ sm := fun {n ty cs} hb e => by
    obtain ⟨es, c, q⟩ := hsm.isMap
    unfold Blk at hb
    rw [e, q] at hb
    cases hb
  have hsb1 := (hsb.gr g1).stays (hkeep sb (hsb.gr g1).lt (hne2 hsb))
  have htb1 := (htb.gr g1).stays (hkeep tb (htb.gr g1).lt (hne2 htb))
  have hmb1 := (hmb.gr g1).stays (hkeep mb (hmb.gr g1).lt (hne2 hmb))
  obtain ⟨bl, hm, v, e1, e2, e3, e4, e5⟩ := t1.lk k l hl
  have hll : ∀ q, (Instr.lookup TMk (.map (some km)) (.agg #[.int .i64 k1, .int .i64 k2]) false).run Try.prog (w1.drewN q) = .ok (.pointer (some ⟨bl, 0, none⟩)) (w1.drewN q) := fun q => by
    have := (t1.stays (w' := w1.drewN q) (fun _ _ _ => rfl)).look hk
    rw [e1, hkv] at this
    exact this
  have hll1 : (Instr.lookup TMk (.map (some km)) (.agg #[.int .i64 k1, .int .i64 k2]) false).run Try.prog w1.drew = .ok (.pointer (some ⟨bl, 0, none⟩)) w1.drew := hll 1
  obtain ⟨w2, hrr, hrg, hgr, hsz⟩ := (show Mp Try.prog KO w1.drew hm (unitF l.hs) l.hs from e4).range KO_ok (t := TMh) Try.underlying67
  have y0 := b61.cell 0
  have y1 := b61.cell 1
  have y2 := htb1.cell 0
  have y3 := t1.c3.1
  have y4 := e3.cell 1
  simp at y0 y1 y2 y4
  have gw1 : w.grownBy w1 (some sm) := ⟨hG1.os.trans g1.os, hG1.tape.trans g1.tape, hG1.output.trans g1.output, Nat.le_trans g1.size hG1.size, fun n h1 h2 => (hG1.block n (Nat.lt_of_lt_of_le h1 g1.size) h2).trans (g1.block n h1)⟩
  have HW := Lib.hid (And.intro hW0 hkb)
  have HA := Lib.hid (And.intro hsb1 (And.intro htb1 (And.intro hmb1 (And.intro hM1 (And.intro t1 (And.intro gw1 (And.intro e4 (And.intro hl hflat))))))))
  have HB := Lib.hid (And.intro hmn (And.intro hne (And.intro hkd hkeep)))
  have HG := Lib.hid g1
  have HR := Lib.hid (And.intro hrg (And.intro hgr hsz))
  clear hrg hgr hsz
  clear h hsb hsm hnF htb hmb hmn hne hflat hkd g1 b6 hW0 hM1 hG1 hkeep t1 b61 hsb1 htb1 hmb1 e1 e2 e3 e5 gw1 hl hkb hk1 hk2 hne2 hkv hsm0 hkbs
  go_enter Try.func45, Try.ntmps45
  go_upto_region 1 with fail
  rw [show (w.alloc (.cells #[.int .i64 k1, .int .i64 k2] 29)) = W0 from HW.out.1.symm, ← HW.out.2]
  go_step3
  go_wp2_with fail
  go_step3
  go_wp2_with fail
  go_cut [24] (fun s24 wx => s24 = .pointer (some ⟨w1.heap.size, 0, none⟩) ∧ wx = w2)
  case first =>
    go_region_with (fail)
    all_goals
      go_wp2_with fail
      go_meet
      exact ⟨rfl, rfl⟩
  case rest =>
    obtain ⟨rfl, rfl⟩ := hcut
    obtain ⟨r, hr⟩ : ∃ r, r = w1.heap.size := ⟨_, rfl⟩
    have hrg1 : Rg Try.prog KO wc hm r (unitF l.hs) l.hs (fun a => a ∈ l.hs) := by rw [hr]; exact HR.out.1
    have G12 : Hid (Gr w1 wc) := Lib.hid (Gr.trans (Gr.refl w1).drew HR.out.2.1)
    rw [← hr]
    have Hr := Lib.hid hr
    clear hrr hll hll1 y0 y1 y2 y3 y4 hr x0 x1 s0 hrun e4
    go_wp2_with fail
    go_loopw [7] (fun s7 wr => s7 = .bool false ∧ ∃ L, Rg Try.prog KO wr hm r (unitF l.hs) l.hs L ∧ Hid (Gr w1 wr) ∧ Hid (∀ q, q ∈ l.hs → ¬ L q → (T.of q).mode = 0)) (fun _ wr => wr.rangeLeft hm r)
    case atStart => exact ⟨rfl, _, hrg1, G12, Lib.hid fun q h1 h2 => absurd h1 h2⟩
    case round =>
      obtain ⟨rfl, L, hrg, HGr, HL⟩ := hrel
      go_wp2_with (first
        | (at_next; refine wpList_next_mp KO_ok rfl _ rfl rfl hrg ?_ ?_)
        | go_in)
      · intro hno
        have hv : (l.hs.any fun q => decide ((T.of q).mode ≠ 0)) = false := by
          rw [List.any_eq_false]
          intro q hq
          simpa using HL.out q hq (hno q)
        have HV := Lib.hid hv
        clear hv hno
        go_wp2_with fail
        rw [Exit.noGoto_ret]
        go_ret
        have gw1 := HA.out.2.2.2.2.2.1
        exact ⟨by rw [HV.out]; rfl, ⟨HGr.out.os.trans gw1.os, HGr.out.tape.trans gw1.tape, HGr.out.output.trans gw1.output, Nat.le_trans gw1.size HGr.out.size, fun n h1 h2 => (HGr.out.block n (Nat.lt_of_lt_of_le h1 gw1.size)).trans (gw1.block n h1 h2)⟩⟩
      · intro q v w3 hLq hqd hfv hrg' hlt hg3 hs3 hen
        have hqin : q ∈ l.hs := ((hrg'.mp KO_ok).mem q).2 (by rw [hfv]; rfl)
        have g13 : Gr w1 w3 := ⟨hg3.os.trans HGr.out.os, hg3.tape.trans HGr.out.tape, hg3.output.trans HGr.out.output, Nat.le_trans HGr.out.size hg3.size, fun n hn => (hg3.block n (Nat.lt_of_lt_of_le hn HGr.out.size) (fun e => by cases e; have := Hr.out; omega)).trans (HGr.out.block n hn)⟩
        obtain ⟨hsb1, htb1, hmb1, hM1, t1, gw1, e4, hl, hflat⟩ := HA.out
        have t3 := t1.gr g13
        have y2 := (htb1.gr g13).cell 0
        simp at y2
        have HO := Lib.hid (of_any t3 hqd)
        obtain ⟨qp, hqp⟩ : ∃ qp, qp = B (.pm q) := ⟨_, rfl⟩
        obtain ⟨Q1, hQ1⟩ : ∃ Q1, Q1 = (T.of q).key.1 := ⟨_, rfl⟩
        obtain ⟨Q2, hQ2⟩ : ∃ Q2, Q2 = (T.of q).key.2 := ⟨_, rfl⟩
        obtain ⟨QM, hQM⟩ : ∃ QM, QM = (T.of q).mode := ⟨_, rfl⟩
        unfold ofV at HO
        rw [← hqp, ← hQ1, ← hQ2, ← hQM] at HO
        rw [show KO.val q = .int .u64 (q : Int) from rfl] at hen ⊢
        have HQ := Lib.hid (And.intro hqin (And.intro g13 (And.intro hrg' (And.intro hlt (And.intro hQM (And.intro hQ1 hQ2))))))
        clear hLq hqd hfv hrg' hlt hg3 hs3 hqin g13 hsb1 htb1 hmb1 hM1 t1 gw1 e4 hl hflat t3 hqp hQ1 hQ2 hQM hrg
        go_wp2_with fail
        refine HO.out.mono ?_
        rintro e W4 ⟨rfl, g4⟩
        obtain ⟨hqin, g13, hrg', hlt, hQM, hQ1, hQ2⟩ := HQ.out
        obtain ⟨hsb1, htb1, hmb1, hM1, t1, gw1, e4, hl, hflat⟩ := HA.out
        have g5 : Gr W4 (W4.alloc (.cells #[.map qp, .int .i64 Q1, .int .i64 Q2, .int .i64 QM] TPy)) := (Gr.refl _).alloc (Nat.le_refl _) _
        have b5 := Blk.new W4 TPy #[.map qp, .int .i64 Q1, .int .i64 Q2, .int .i64 QM]
        obtain ⟨W5, hW5⟩ : ∃ W5, W5 = W4.alloc (.cells #[.map qp, .int .i64 Q1, .int .i64 Q2, .int .i64 QM] TPy) := ⟨_, rfl⟩
        rw [← hW5] at g5 b5
        obtain ⟨pb, hpb⟩ : ∃ pb, pb = W4.heap.size := ⟨_, rfl⟩
        rw [← hpb] at b5
        have g15 : Gr w1 W5 := Gr.trans g13 (Gr.trans g4 g5)
        have z1 := b5.cell 1
        have z2 := b5.cell 2
        have y2 := (hsb1.gr g15).cell 0
        simp at z1 z2 y2
        have hlq := (show HsAt W5 (some sm) (putK k []) from .inr ⟨sm, rfl, hM1.stays (g15.block sm hM1.lt)⟩).look (HB.out.2.2.1 q)
        rw [show kv (T.of q).key = .agg #[.int .i64 Q1, .int .i64 Q2] by rw [hQ1, hQ2]; rfl] at hlq
        obtain ⟨X, hX⟩ : ∃ X, X = decide ((T.of q).key ∈ putK k []) := ⟨_, rfl⟩
        rw [← hX] at hlq
        have g6 : Gr W5 (W5.alloc (.cells #[] 88)) := (Gr.refl _).alloc (Nat.le_refl _) _
        obtain ⟨W6, hW6⟩ : ∃ W6, W6 = W5.alloc (.cells #[] 88) := ⟨_, rfl⟩
        rw [← hW6] at g6
        have b6 := b5.gr g6
        have g16 := Gr.trans g15 g6
        have m6 := hmb1.gr g16
        have u1 := b6.cell 1
        have u2 := b6.cell 2
        have u3 := b6.cell 3
        have m0 := m6.cell 0
        have m1 := m6.cell 1
        have m2 := m6.cell 2
        have m3 := m6.cell 3
        simp at u1 u2 u3 m0 m1 m2 m3
        have HS := Lib.hid (And.intro hW5 (And.intro hpb (And.intro g15 (And.intro hW6 (And.intro g16 (Gr.trans g4 (Gr.trans g5 g6)))))))
        clear hqin g13 hrg' hlt hQM hQ1 hQ2 hsb1 htb1 hmb1 hM1 t1 gw1 e4 hl hflat g4 g5 b5 hW5 hpb g15 hX g6 hW6 b6 g16 m6
        go_upto_region 7 with fail
        rw [show (W4.alloc (.cells #[.map qp, .int .i64 Q1, .int .i64 Q2, .int .i64 QM] 61)) = W5 from HS.out.1.symm, ← HS.out.2.1]
        go_upto_region 8 with fail
        rw [show (W5.alloc (.cells #[] 88)) = W6 from HS.out.2.2.2.1.symm]
        obtain ⟨hqin, g13, hrg', hlt, hQM, hQ1, hQ2⟩ := HQ.out
        have hmeas := hrg'.left_same (w' := W6) HS.out.2.2.2.2.2
        have hrg6 := hrg'.gr HS.out.2.2.2.2.2
        by_cases hQ0 : QM = 0
        · subst hQ0
          have HE := Lib.hid (And.intro hrg6 (And.intro hmeas (And.intro hlt hQM)))
          clear hqin g13 hrg' hlt hQM hQ1 hQ2 hmeas hrg6 hlq z1 z2 y2
          go_wp2_with fail
          go_roundw
          case rel =>
            refine ⟨rfl, _, HE.out.1, Lib.hid HS.out.2.2.2.2.1, Lib.hid fun q' h1 h2 => ?_⟩
            by_cases e : q' = q
            · rw [e]; exact HE.out.2.2.2.symm
            · exact HL.out q' h1 fun e2 => h2 ⟨e2, e⟩
          case measure => exact Nat.lt_of_le_of_lt (Nat.le_of_eq HE.out.2.1) HE.out.2.2.1
        · have hk6 : (T.of q).key ∈ ks := by
            rcases HA.out.2.2.2.2.2.2.2.2 q hqin with h0 | h0
            · exact absurd (hQM.trans h0) hQ0
            · exact h0
          have hs6 : HsAt W6 hp ks := by
            rcases HB.out.1 with ⟨h1, h2⟩ | ⟨n, h1, h2⟩
            · exact .inl ⟨h1, h2⟩
            · refine .inr ⟨n, h1, h2.stays ?_⟩
              have e1 := HS.out.2.2.2.2.1.block n (Nat.lt_of_lt_of_le h2.lt HA.out.2.2.2.2.2.1.size)
              exact e1.trans (HA.out.2.2.2.2.2.1.block n h2.lt (fun e => HB.out.2.1 n h1 (by cases e; rfl)))
          have hHas := has_any W6 (a := .int .i64 O1) (b := .int .i64 O2) (m := .int .i64 O3) rfl rfl rfl hs6 (HB.out.2.2.1 q)
          rw [show kv (T.of q).key = .agg #[.int .i64 Q1, .int .i64 Q2] by rw [hQ1, hQ2]; rfl, decide_eq_true hk6] at hHas
          have hv : (l.hs.any fun q => decide ((T.of q).mode ≠ 0)) = true := List.any_eq_true.2 ⟨q, hqin, by rw [← hQM]; simpa using hQ0⟩
          have HHas := Lib.hid hHas
          have HV := Lib.hid hv
          have hb0 : (QM == 0) = false := by simpa using hQ0
          clear hqin g13 hrg' hlt hQM hQ1 hQ2 hmeas hrg6 hlq z1 z2 y2 hk6 hs6 hHas hv
          go_wp2_with fail
          refine HHas.out.mono ?_
          rintro e W7 ⟨rfl, g7⟩
          have G7 := Lib.hid g7
          clear g7
          go_wp2_with fail
          rw [Exit.noGoto_ret]
          go_ret
          have gw1 := HA.out.2.2.2.2.2.1
          have gw7 := Gr.trans HS.out.2.2.2.2.1 G7.out
          exact ⟨by rw [HV.out]; rfl, ⟨gw7.os.trans gw1.os, gw7.tape.trans gw1.tape, gw7.output.trans gw1.output, Nat.le_trans gw1.size gw7.size, fun n h1 h2 => (gw7.block n (Nat.lt_of_lt_of_le h1 gw1.size)).trans (gw1.block n h1 h2)⟩⟩
end
end Go.Proofs.Ytgpaikaccipfjaa
