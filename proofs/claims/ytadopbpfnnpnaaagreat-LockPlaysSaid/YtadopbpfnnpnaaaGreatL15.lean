/-
  Texts on locks, put together: Lk26 Lk27.
-/
import Derived.Laws.EntriesVeiled
import Derived.Test.YtadopbpfnnpnaaaGreatL14
set_option linter.unusedVariables false
set_option linter.unusedSimpArgs false
/-
  The code's table of locks: ring's own way, where all who hold wait for nothing or for what is held.
-/
namespace Go.Proofs.YtadopbpfnnpnaaaGreat
open Go.RowKit Go.Maps

theorem Mp.range {α : Type} [DecidableEq α] {P : Program} {K : KK α} {w : World} {m : Nat} {f : α → Option Value} {ks : List α} (O : K.Ok P) (h : Mp P K w m f ks) {t e : TypeId} (ht : P.underlying t = some (.map K.ty e)) :
    ∃ w', (Instr.range t (.map (some m))).run P w = .ok (.pointer (some ⟨w.heap.size, 0, none⟩)) w' ∧ Rg P K w' m w.heap.size f ks (fun a => a ∈ ks) ∧ Gr w w' ∧ w'.heap.size = w.heap.size + 1 := by
  obtain ⟨D, h1, hD⟩ := h
  obtain ⟨w', hr, h2, h3, h4⟩ := h1.range O.keyed ht
  exact ⟨w', hr, ⟨D, _, _, h2, hD, fun a ha => by rw [hD.has a ha]; exact (hD.mem a).symm, fun _ h => h⟩, ⟨h3.os, h3.tape, h3.output, h3.size, fun k hk => h3.block k hk (by simp)⟩, h4⟩
section
variable {w : World} {t km om : Nat} {B : Tag → Option Nat} {T : Tb}
set_option maxRecDepth 100000 in
set_option maxHeartbeats 2000000 in
theorem leads_flat (h : TbAt w t km om B T) {k : Key} (hk : KL.dom k) {l : Lk} (hl : T.lk k = some l) {sb tb mb lb sm : Nat} {ty1 ty2 : TypeId} {hp : Option Nat} {O1 O2 O3 : Int} {ks : List Key}
    (hsb : Blk w sb ty1 #[.map (some sm)]) (hsm : Mp Tryz.prog KL w sm (unitF []) []) (hnF : ¬ FB B sm) (htb : Blk w tb ty2 #[.pointer (some ⟨t, 0, none⟩)]) (hmb : Blk w mb TPy #[.map hp, .int .i64 O1, .int .i64 O2, .int .i64 O3])
    (hmn : HsAt w hp ks) (hne : ∀ n, hp = some n → n ≠ sm) (hflat : ∀ q, q ∈ l.hs → (T.of q).mode = 0 ∨ (T.of q).key ∈ ks) (hkd : ∀ q, KL.dom (T.of q).key) :
    Calls Tryz.prog 54 #[kv k, .pointer (some ⟨sb, 0, none⟩), .pointer (some ⟨tb, 0, none⟩), .pointer (some ⟨mb, 0, none⟩), .pointer (some ⟨lb, 0, none⟩)] w
      fun e w' => e = .returned (.bool (l.hs.any fun q => decide ((T.of q).mode ≠ 0))) ∧ w.grownBy w' (some sm) := by
  obtain ⟨k1, hk1⟩ : ∃ x, x = k.1 := ⟨_, rfl⟩
  obtain ⟨k2, hk2⟩ : ∃ x, x = k.2 := ⟨_, rfl⟩
  have hkv : kv k = .agg #[.int .i64 k1, .int .i64 k2] := by rw [hk1, hk2]; rfl
  rw [hkv]
  have g1 : Gr w (w.alloc (.cells #[.int .i64 k1, .int .i64 k2] TKey)) := (Gr.refl w).alloc (Nat.le_refl _) _
  have b6 := (Blk.new w TKey #[.int .i64 k1, .int .i64 k2])
  obtain ⟨W0, hW0⟩ : ∃ W0, W0 = w.alloc (.cells #[.int .i64 k1, .int .i64 k2] TKey) := ⟨_, rfl⟩
  rw [← hW0] at g1 b6
  obtain ⟨w1, hrun, hM1, hG1⟩ := (hsm.stays (g1.block sm hsm.lt)).store KL_ok (by decide) (t := TMs) Tryz.underlying63 hk (.agg #[])
  rw [show KL.val k = kv k from rfl, hkv] at hrun
  rw [unitF_put] at hM1
  have hsm0 : sm < w.heap.size := hsm.lt
  obtain ⟨kb, hkb⟩ : ∃ kb, kb = w.heap.size := ⟨_, rfl⟩
  rw [← hkb] at b6
  have x0 := b6.cell 0
  have x1 := b6.cell 1
  have s0 := (hsb.gr g1).cell 0
  simp at x0 x1 s0
  have hkeep : ∀ n, n < W0.heap.size → n ≠ sm → w1.heap[n]? = W0.heap[n]? := fun n h1 h2 => hG1.block n h1 fun e => h2 (by cases e; rfl)
  have t1 : TbAt w1 t km om B T := (h.gr g1).row hG1 (fun m e => by cases e; exact hnF)
  have hkbs : kb ≠ sm := by omega
  have b61 := b6.stays (hkeep kb b6.lt hkbs)
  have hne2 : ∀ {n : Nat} {ty : TypeId} {cs : Array Value}, Blk w n ty cs → n ≠ sm := fun {n ty cs} hb e => by
    obtain ⟨es, c, q⟩ := hsm.isMap
    unfold Blk at hb
    rw [e, q] at hb
    cases hb
  have hsb1 := (hsb.gr g1).stays (hkeep sb (hsb.gr g1).lt (hne2 hsb))
  have htb1 := (htb.gr g1).stays (hkeep tb (htb.gr g1).lt (hne2 htb))
  have hmb1 := (hmb.gr g1).stays (hkeep mb (hmb.gr g1).lt (hne2 hmb))
  obtain ⟨bl, hm, v, e1, e2, e3, e4, e5⟩ := t1.lk k l hl
  have hll : ∀ q, (Instr.lookup TMk (.map (some km)) (.agg #[.int .i64 k1, .int .i64 k2]) false).run Tryz.prog (w1.drewN q) = .ok (.pointer (some ⟨bl, 0, none⟩)) (w1.drewN q) := fun q => by
    have := (t1.stays (w' := w1.drewN q) (fun _ _ _ => rfl)).look hk
    rw [e1, hkv] at this
    exact this
  have hll1 : (Instr.lookup TMk (.map (some km)) (.agg #[.int .i64 k1, .int .i64 k2]) false).run Tryz.prog w1.drew = .ok (.pointer (some ⟨bl, 0, none⟩)) w1.drew := hll 1
  obtain ⟨w2, hrr, hrg, hgr, hsz⟩ := (show Mp Tryz.prog KO w1.drew hm (unitF l.hs) l.hs from e4).range KO_ok (t := TMh) Tryz.underlying53
  have y0 := b61.cell 0
  have y1 := b61.cell 1
  have y2 := htb1.cell 0
  have y3 := t1.c3.1
  have y4 := e3.cell 1
  simp at y0 y1 y2 y4
  have gw1 : w.grownBy w1 (some sm) := ⟨hG1.os.trans g1.os, hG1.tape.trans g1.tape, hG1.output.trans g1.output, Nat.le_trans g1.size hG1.size, fun n h1 h2 => (hG1.block n (Nat.lt_of_lt_of_le h1 g1.size) h2).trans (g1.block n h1)⟩
  have HW := Lib.hid (And.intro hW0 hkb)
  have HA := Lib.hid (And.intro hsb1 (And.intro htb1 (And.intro hmb1 (And.intro hM1 (And.intro t1 (And.intro gw1 (And.intro e4 (And.intro hl hflat))))))))
  have HB := Lib.hid (And.intro hmn (And.intro hne (And.intro hkd hkeep)))
  have HG := Lib.hid g1
  have HR := Lib.hid (And.intro hrg (And.intro hgr hsz))
  clear hrg hgr hsz
  clear h hsb hsm hnF htb hmb hmn hne hflat hkd g1 b6 hW0 hM1 hG1 hkeep t1 b61 hsb1 htb1 hmb1 e1 e2 e3 e5 gw1 hl hkb hk1 hk2 hne2 hkv hsm0 hkbs
  go_enter Tryz.func54, Tryz.ntmps54
  go_upto_region 1 with fail
  rw [show (w.alloc (.cells #[.int .i64 k1, .int .i64 k2] 33)) = W0 from HW.out.1.symm, ← HW.out.2]
  go_step3
  go_wp2_with fail
  go_step3
  go_wp2_with fail
  go_cut [24] (fun s24 wx => s24 = .pointer (some ⟨w1.heap.size, 0, none⟩) ∧ wx = w2)
  case first =>
    go_region_with (fail)
    all_goals
      go_wp2_with fail
      go_meet
      exact ⟨rfl, rfl⟩
  case rest =>
    obtain ⟨rfl, rfl⟩ := hcut
    obtain ⟨r, hr⟩ : ∃ r, r = w1.heap.size := ⟨_, rfl⟩
    have hrg1 : Rg Tryz.prog KO wc hm r (unitF l.hs) l.hs (fun a => a ∈ l.hs) := by rw [hr]; exact HR.out.1
    have G12 : Hid (Gr w1 wc) := Lib.hid (Gr.trans (Gr.refl w1).drew HR.out.2.1)
    rw [← hr]
    have Hr := Lib.hid hr
    clear hrr hll hll1 y0 y1 y2 y3 y4 hr x0 x1 s0 hrun e4
    go_wp2_with fail
    go_loopw [7] (fun s7 wr => s7 = .bool false ∧ ∃ L, Rg Tryz.prog KO wr hm r (unitF l.hs) l.hs L ∧ Hid (Gr w1 wr) ∧ Hid (∀ q, q ∈ l.hs → ¬ L q → (T.of q).mode = 0)) (fun _ wr => wr.rangeLeft hm r)
    case atStart => exact ⟨rfl, _, hrg1, G12, Lib.hid fun q h1 h2 => absurd h1 h2⟩
    case round =>
      obtain ⟨rfl, L, hrg, HGr, HL⟩ := hrel
      go_wp2_with (first
        | (at_next; refine wpList_next_mp KO_ok rfl _ rfl rfl hrg ?_ ?_)
        | go_in)
      · intro hno
        have hv : (l.hs.any fun q => decide ((T.of q).mode ≠ 0)) = false := by
          rw [List.any_eq_false]
          intro q hq
          simpa using HL.out q hq (hno q)
        have HV := Lib.hid hv
        clear hv hno
        go_wp2_with fail
        rw [Exit.noGoto_ret]
        go_ret
        have gw1 := HA.out.2.2.2.2.2.1
        exact ⟨by rw [HV.out]; rfl, ⟨HGr.out.os.trans gw1.os, HGr.out.tape.trans gw1.tape, HGr.out.output.trans gw1.output, Nat.le_trans gw1.size HGr.out.size, fun n h1 h2 => (HGr.out.block n (Nat.lt_of_lt_of_le h1 gw1.size)).trans (gw1.block n h1 h2)⟩⟩
      · intro q v w3 hLq hqd hfv hrg' hlt hg3 hs3 hen
        have hqin : q ∈ l.hs := ((hrg'.mp KO_ok).mem q).2 (by rw [hfv]; rfl)
        have g13 : Gr w1 w3 := ⟨hg3.os.trans HGr.out.os, hg3.tape.trans HGr.out.tape, hg3.output.trans HGr.out.output, Nat.le_trans HGr.out.size hg3.size, fun n hn => (hg3.block n (Nat.lt_of_lt_of_le hn HGr.out.size) (fun e => by cases e; have := Hr.out; omega)).trans (HGr.out.block n hn)⟩
        obtain ⟨hsb1, htb1, hmb1, hM1, t1, gw1, e4, hl, hflat⟩ := HA.out
        have t3 := t1.gr g13
        have y2 := (htb1.gr g13).cell 0
        simp at y2
        have HO := Lib.hid (of_any t3 hqd)
        obtain ⟨qp, hqp⟩ : ∃ qp, qp = B (.pm q) := ⟨_, rfl⟩
        obtain ⟨Q1, hQ1⟩ : ∃ Q1, Q1 = (T.of q).key.1 := ⟨_, rfl⟩
        obtain ⟨Q2, hQ2⟩ : ∃ Q2, Q2 = (T.of q).key.2 := ⟨_, rfl⟩
        obtain ⟨QM, hQM⟩ : ∃ QM, QM = (T.of q).mode := ⟨_, rfl⟩
        unfold ofV at HO
        rw [← hqp, ← hQ1, ← hQ2, ← hQM] at HO
        rw [show KO.val q = .int .u64 (q : Int) from rfl] at hen ⊢
        have HQ := Lib.hid (And.intro hqin (And.intro g13 (And.intro hrg' (And.intro hlt (And.intro hQM (And.intro hQ1 hQ2))))))
        clear hLq hqd hfv hrg' hlt hg3 hs3 hqin g13 hsb1 htb1 hmb1 hM1 t1 gw1 e4 hl hflat t3 hqp hQ1 hQ2 hQM hrg
        go_wp2_with fail
        refine HO.out.mono ?_
        rintro e W4 ⟨rfl, g4⟩
        obtain ⟨hqin, g13, hrg', hlt, hQM, hQ1, hQ2⟩ := HQ.out
        obtain ⟨hsb1, htb1, hmb1, hM1, t1, gw1, e4, hl, hflat⟩ := HA.out
        have g5 : Gr W4 (W4.alloc (.cells #[.map qp, .int .i64 Q1, .int .i64 Q2, .int .i64 QM] TPy)) := (Gr.refl _).alloc (Nat.le_refl _) _
        have b5 := Blk.new W4 TPy #[.map qp, .int .i64 Q1, .int .i64 Q2, .int .i64 QM]
        obtain ⟨W5, hW5⟩ : ∃ W5, W5 = W4.alloc (.cells #[.map qp, .int .i64 Q1, .int .i64 Q2, .int .i64 QM] TPy) := ⟨_, rfl⟩
        rw [← hW5] at g5 b5
        obtain ⟨pb, hpb⟩ : ∃ pb, pb = W4.heap.size := ⟨_, rfl⟩
        rw [← hpb] at b5
        have g15 : Gr w1 W5 := Gr.trans g13 (Gr.trans g4 g5)
        have z1 := b5.cell 1
        have z2 := b5.cell 2
        have y2 := (hsb1.gr g15).cell 0
        simp at z1 z2 y2
        have hlq := (show HsAt W5 (some sm) (putK k []) from .inr ⟨sm, rfl, hM1.stays (g15.block sm hM1.lt)⟩).look (HB.out.2.2.1 q)
        rw [show kv (T.of q).key = .agg #[.int .i64 Q1, .int .i64 Q2] by rw [hQ1, hQ2]; rfl] at hlq
        obtain ⟨X, hX⟩ : ∃ X, X = decide ((T.of q).key ∈ putK k []) := ⟨_, rfl⟩
        rw [← hX] at hlq
        have g6 : Gr W5 (W5.alloc (.cells #[] 58)) := (Gr.refl _).alloc (Nat.le_refl _) _
        obtain ⟨W6, hW6⟩ : ∃ W6, W6 = W5.alloc (.cells #[] 58) := ⟨_, rfl⟩
        rw [← hW6] at g6
        have b6 := b5.gr g6
        have g16 := Gr.trans g15 g6
        have m6 := hmb1.gr g16
        have u1 := b6.cell 1
        have u2 := b6.cell 2
        have u3 := b6.cell 3
        have m0 := m6.cell 0
        have m1 := m6.cell 1
        have m2 := m6.cell 2
        have m3 := m6.cell 3
        simp at u1 u2 u3 m0 m1 m2 m3
        have HS := Lib.hid (And.intro hW5 (And.intro hpb (And.intro g15 (And.intro hW6 (And.intro g16 (Gr.trans g4 (Gr.trans g5 g6)))))))
        clear hqin g13 hrg' hlt hQM hQ1 hQ2 hsb1 htb1 hmb1 hM1 t1 gw1 e4 hl hflat g4 g5 b5 hW5 hpb g15 hX g6 hW6 b6 g16 m6
        go_upto_region 7 with fail
        rw [show (W4.alloc (.cells #[.map qp, .int .i64 Q1, .int .i64 Q2, .int .i64 QM] 66)) = W5 from HS.out.1.symm, ← HS.out.2.1]
        go_upto_region 8 with fail
        rw [show (W5.alloc (.cells #[] 58)) = W6 from HS.out.2.2.2.1.symm]
        obtain ⟨hqin, g13, hrg', hlt, hQM, hQ1, hQ2⟩ := HQ.out
        have hmeas := hrg'.left_same (w' := W6) HS.out.2.2.2.2.2
        have hrg6 := hrg'.gr HS.out.2.2.2.2.2
        by_cases hQ0 : QM = 0
        · subst hQ0
          have HE := Lib.hid (And.intro hrg6 (And.intro hmeas (And.intro hlt hQM)))
          clear hqin g13 hrg' hlt hQM hQ1 hQ2 hmeas hrg6 hlq z1 z2 y2
          go_wp2_with fail
          go_roundw
          case rel =>
            refine ⟨rfl, _, HE.out.1, Lib.hid HS.out.2.2.2.2.1, Lib.hid fun q' h1 h2 => ?_⟩
            by_cases e : q' = q
            · rw [e]; exact HE.out.2.2.2.symm
            · exact HL.out q' h1 fun e2 => h2 ⟨e2, e⟩
          case measure => exact Nat.lt_of_le_of_lt (Nat.le_of_eq HE.out.2.1) HE.out.2.2.1
        · have hk6 : (T.of q).key ∈ ks := by
            rcases HA.out.2.2.2.2.2.2.2.2 q hqin with h0 | h0
            · exact absurd (hQM.trans h0) hQ0
            · exact h0
          have hs6 : HsAt W6 hp ks := by
            rcases HB.out.1 with ⟨h1, h2⟩ | ⟨n, h1, h2⟩
            · exact .inl ⟨h1, h2⟩
            · refine .inr ⟨n, h1, h2.stays ?_⟩
              have e1 := HS.out.2.2.2.2.1.block n (Nat.lt_of_lt_of_le h2.lt HA.out.2.2.2.2.2.1.size)
              exact e1.trans (HA.out.2.2.2.2.2.1.block n h2.lt (fun e => HB.out.2.1 n h1 (by cases e; rfl)))
          have hHas := has_any W6 (a := .int .i64 O1) (b := .int .i64 O2) (m := .int .i64 O3) rfl rfl rfl hs6 (HB.out.2.2.1 q)
          rw [show kv (T.of q).key = .agg #[.int .i64 Q1, .int .i64 Q2] by rw [hQ1, hQ2]; rfl, decide_eq_true hk6] at hHas
          have hv : (l.hs.any fun q => decide ((T.of q).mode ≠ 0)) = true := List.any_eq_true.2 ⟨q, hqin, by rw [← hQM]; simpa using hQ0⟩
          have HHas := Lib.hid hHas
          have HV := Lib.hid hv
          have hb0 : (QM == 0) = false := by simpa using hQ0
          clear hqin g13 hrg' hlt hQM hQ1 hQ2 hmeas hrg6 hlq z1 z2 y2 hk6 hs6 hHas hv
          go_wp2_with fail
          refine HHas.out.mono ?_
          rintro e W7 ⟨rfl, g7⟩
          have G7 := Lib.hid g7
          clear g7
          go_wp2_with fail
          rw [Exit.noGoto_ret]
          go_ret
          have gw1 := HA.out.2.2.2.2.2.1
          have gw7 := Gr.trans HS.out.2.2.2.2.1 G7.out
          exact ⟨by rw [HV.out]; rfl, ⟨gw7.os.trans gw1.os, gw7.tape.trans gw1.tape, gw7.output.trans gw1.output, Nat.le_trans gw1.size gw7.size, fun n h1 h2 => (gw7.block n (Nat.lt_of_lt_of_le h1 gw1.size)).trans (gw1.block n h1 h2)⟩⟩
end
end Go.Proofs.YtadopbpfnnpnaaaGreat

/-
  The code's table of locks: ring, where all who hold wait for nothing or for what is held.
-/
namespace Go.Proofs.YtadopbpfnnpnaaaGreat
open Go.RowKit Go.Maps

section
variable {w : World} {t km om : Nat} {B : Tag → Option Nat} {T : Tb}
set_option maxRecDepth 100000 in
theorem ring_flat (h : TbAt w t km om B T) (ok : T.Ok) {o : Nat} (ho : KO.dom o) {k : Key} (hk : KL.dom k) {l : Lk} (hl : T.lk k = some l) (hw : T.wanted (T.of o).ks = true) (hflat : ∀ q, q ∈ l.hs → (T.of q).mode = 0 ∨ (T.of q).key ∈ (T.of o).ks) :
    Calls Tryz.prog 38 #[.pointer (some ⟨t, 0, none⟩), .int .u64 (o : Int), kv k] w fun e w' => e = .returned (.bool (l.hs.any fun q => decide ((T.of q).mode ≠ 0))) ∧ Gr w w' := by
  have g1 : Gr w ((w.alloc (.cells #[.pointer (some ⟨t, 0, none⟩)] 24)).alloc (.cells #[.int .i64 k.1, .int .i64 k.2] TKey)) := ((Gr.refl w).alloc (Nat.le_refl _) _).alloc (by simp) _
  have HO := Lib.hid (of_any (h.gr g1) ho)
  have hhs := h.hs o
  obtain ⟨hp, hhp⟩ : ∃ hp, hp = B (.pm o) := ⟨_, rfl⟩
  obtain ⟨O1, hO1⟩ : ∃ O1, O1 = (T.of o).key.1 := ⟨_, rfl⟩
  obtain ⟨O2, hO2⟩ : ∃ O2, O2 = (T.of o).key.2 := ⟨_, rfl⟩
  obtain ⟨PM, hPM⟩ : ∃ PM, PM = (T.of o).mode := ⟨_, rfl⟩
  unfold ofV at HO
  rw [← hhp, ← hO1, ← hO2, ← hPM] at HO
  rw [← hhp] at hhs
  have hb := (Blk.new w 24 #[.pointer (some ⟨t, 0, none⟩)]).gr ((Gr.refl _).alloc (Nat.le_refl _) (.cells #[.int .i64 k.1, .int .i64 k.2] TKey))
  have HWa := Lib.hid (fun W (g : Gr w W) => wanted_any (h.gr g) O1 O2 PM (hhs.gr g) (fun k hk => by obtain ⟨l, e, _⟩ := ok.holds o k hk; rw [e]; rfl))
  rw [hw] at HWa
  have hkb2 := Blk.new (w.alloc (.cells #[.pointer (some ⟨t, 0, none⟩)] 24)) TKey #[.int .i64 k.1, .int .i64 k.2]
  simp only [World.size_alloc] at hkb2
  obtain ⟨W0, hW0⟩ : ∃ W0, W0 = (w.alloc (.cells #[.pointer (some ⟨t, 0, none⟩)] 24)).alloc (.cells #[.int .i64 k.1, .int .i64 k.2] TKey) := ⟨_, rfl⟩
  rw [← hW0] at g1 HO hb hkb2
  obtain ⟨tb, htb⟩ : ∃ tb, tb = w.heap.size := ⟨_, rfl⟩
  rw [← htb] at hb hkb2
  have HKb := Lib.hid hkb2
  clear hkb2
  have x0 := hb.cell 0
  simp at x0
  have HZ := Lib.hid (And.intro h (And.intro ok (And.intro hk (And.intro hl (And.intro hflat hhs)))))
  have HB := Lib.hid (And.intro hb (And.intro g1 (And.intro hW0 htb)))
  show Calls Tryz.prog 38 #[.pointer (some ⟨t, 0, none⟩), .int .u64 (o : Int), .agg #[.int .i64 k.1, .int .i64 k.2]] w _
  clear h ok hk hl hflat hhs hhp hO1 hO2 hPM hb g1 hW0 htb hw
  go_enter Tryz.func38, Tryz.ntmps38
  go_upto_region 1 with fail
  rw [show ((w.alloc (.cells #[.pointer (some ⟨t, 0, none⟩)] 24)).alloc (.cells #[.int .i64 k.1, .int .i64 k.2] 33)) = W0 from HB.out.2.2.1.symm, ← HB.out.2.2.2]
  go_wp2_with fail
  refine HO.out.mono ?_
  rintro e W2 ⟨rfl, g2⟩
  have g3 : Gr W2 (W2.alloc (.cells #[.map hp, .int .i64 O1, .int .i64 O2, .int .i64 PM] TPy)) := (Gr.refl _).alloc (Nat.le_refl _) _
  have b3 := Blk.new W2 TPy #[.map hp, .int .i64 O1, .int .i64 O2, .int .i64 PM]
  obtain ⟨W3, hW3⟩ : ∃ W3, W3 = W2.alloc (.cells #[.map hp, .int .i64 O1, .int .i64 O2, .int .i64 PM] TPy) := ⟨_, rfl⟩
  rw [← hW3] at g3 b3
  obtain ⟨pb, hpb⟩ : ∃ pb, pb = W2.heap.size := ⟨_, rfl⟩
  rw [← hpb] at b3
  have z0 := b3.cell 0
  have z1 := b3.cell 1
  have z2 := b3.cell 2
  have z3 := b3.cell 3
  have x3 := (HB.out.1.gr (Gr.trans g2 g3)).cell 0
  have x2 := (HB.out.1.gr g2).cell 0
  simp at z0 z1 z2 z3 x3 x2
  have HP := Lib.hid b3
  have HX := Lib.hid (HB.out.1.gr (Gr.trans g2 g3))
  have HX2 := Lib.hid (HKb.out.gr (Gr.trans g2 g3))
  have G3 : Hid (Gr w W3) := Lib.hid (Gr.trans HB.out.2.1 (Gr.trans g2 g3))
  have H3 := Lib.hid (And.intro hW3 hpb)
  clear g2 g3 b3 hW3 hpb x0
  go_upto_region 2 with fail
  rw [show (W2.alloc (.cells #[.map hp, .int .i64 O1, .int .i64 O2, .int .i64 PM] 66)) = W3 from H3.out.1.symm, ← H3.out.2]
  go_wp2_with fail
  refine (HWa.out W3 G3.out).mono ?_
  rintro e W4 ⟨rfl, g4⟩
  have G4 : Hid (Gr w W4) := Lib.hid (Gr.trans G3.out g4)
  have b4 := HP.out.gr g4
  have t4 := HX.out.gr g4
  have K4 := Lib.hid (And.intro b4 t4)
  have K5 := Lib.hid (HX2.out.gr g4)
  clear g4 b4 t4 z0 z1 z2 z3 x3 x2
  have hmm := @run_makeMap Tryz.prog
  obtain ⟨h, ok, hk, hl, hflat, hhs⟩ := HZ.out
  obtain ⟨sm, hsm⟩ : ∃ sm, sm = W4.heap.size := ⟨_, rfl⟩
  obtain ⟨fv, hfv⟩ : ∃ fv, fv = Value.func (Fn.func 54) #[] #[.pointer (some ⟨sm + 1, 0, none⟩), .pointer (some ⟨tb, 0, none⟩), .pointer (some ⟨pb, 0, none⟩), .pointer (some ⟨sm + 1 + 1, 0, none⟩)] := ⟨_, rfl⟩
  have ga : Gr W4 (W4.alloc (.map #[] 0)) := (Gr.refl _).alloc (Nat.le_refl _) _
  have gb : Gr (W4.alloc (.map #[] 0)) ((W4.alloc (.map #[] 0)).alloc (.cells #[.map (some sm)] TMs)) := (Gr.refl _).alloc (Nat.le_refl _) _
  have gc : Gr ((W4.alloc (.map #[] 0)).alloc (.cells #[.map (some sm)] TMs)) (((W4.alloc (.map #[] 0)).alloc (.cells #[.map (some sm)] TMs)).alloc (.cells #[.nilFunc] 85)) := (Gr.refl _).alloc (Nat.le_refl _) _
  have m1 : Mp Tryz.prog KL (W4.alloc (.map #[] 0)) W4.heap.size (fun _ => none) [] := Mp.made W4
  have bs := Blk.new (W4.alloc (.map #[] 0)) TMs #[.map (some sm)]
  have bL := Blk.new ((W4.alloc (.map #[] 0)).alloc (.cells #[.map (some sm)] TMs)) 85 #[.nilFunc]
  simp only [World.size_alloc] at bs bL
  rw [← hsm] at m1 bs bL
  obtain ⟨WX, hWX⟩ : ∃ WX, WX = ((W4.alloc (.map #[] 0)).alloc (.cells #[.map (some sm)] TMs)).alloc (.cells #[.nilFunc] 85) := ⟨_, rfl⟩
  have m2 := (m1.stays (gb.block sm m1.lt)).stays (gc.block sm (Nat.lt_of_lt_of_le m1.lt gb.size))
  have bs2 := bs.gr gc
  have gX : Gr W4 WX := by rw [hWX]; exact Gr.trans ga (Gr.trans gb gc)
  rw [← hWX] at bL m2 bs2
  have xL := bL.cell 0
  have fL := bL.frozen 0
  simp at xL
  have hlw : w.heap.size ≤ W4.heap.size := G4.out.size
  have gWY : Gr w (WX.setCell ⟨sm + 1 + 1, 0, none⟩ fv) := ⟨gX.os.trans G4.out.os, gX.tape.trans G4.out.tape, gX.output.trans G4.out.output, by have := gX.size; simp; omega, fun n hn => (Below.heap_setCell _ _ _ _ (by show n ≠ sm + 1 + 1; omega)).trans ((gX.block n (by omega)).trans (G4.out.block n hn))⟩
  have m3 := m2.stays (w' := WX.setCell ⟨sm + 1 + 1, 0, none⟩ fv) (Below.heap_setCell _ _ _ _ (by show sm ≠ sm + 1 + 1; omega))
  have bs3 := bs2.far (p := ⟨sm + 1 + 1, 0, none⟩) (by show sm + 1 ≠ sm + 1 + 1; omega) fv
  have hpb4 := K4.out.1.lt
  have htb4 := K4.out.2.lt
  have bp3 := (K4.out.1.gr gX).far (p := ⟨sm + 1 + 1, 0, none⟩) (by show pb ≠ sm + 1 + 1; omega) fv
  have bt3 := (K4.out.2.gr gX).far (p := ⟨sm + 1 + 1, 0, none⟩) (by show tb ≠ sm + 1 + 1; omega) fv
  have hkb4 := K5.out.lt
  have bk3 := (K5.out.gr gX).far (p := ⟨sm + 1 + 1, 0, none⟩) (by show tb + 1 ≠ sm + 1 + 1; omega) fv
  have y0 := bk3.cell 0
  have y1 := bk3.cell 1
  have yL := (bL.set 0 fv).cell 0
  simp at y0 y1 yL
  have hun : (unitF ([] : List Key)) = fun _ => none := by
    funext a
    rfl
  rw [← hun] at m3
  have hLF := leads_flat (h.gr gWY) hk hl (lb := sm + 1 + 1) bs3 m3 (fun ⟨a, ha⟩ => by have := h.lt a _ ha; omega) bt3 bp3 (hhs.gr gWY) (fun n hn e => by
    rcases hhs with ⟨h1, _⟩ | ⟨n', h1, h2⟩
    · rw [hn] at h1; cases h1
    · rw [hn] at h1; cases h1; have := h2.lt; omega) hflat ok.key
  rw [show kv k = .agg #[.int .i64 k.1, .int .i64 k.2] from rfl] at hLF
  have HLF := Lib.hid hLF
  have HY := Lib.hid (And.intro gWY (And.intro hWX (And.intro hlw hsm)))
  have HFV := Lib.hid hfv
  clear h ok hk hl hflat hhs bk3 hkb4 ga gb gc m1 bs bL m2 bs2 gX gWY m3 bs3 hpb4 htb4 bp3 bt3 hun hLF hWX hsm hlw hfv
  go_upto_region 6 with fail
  rw [← HY.out.2.2.2, show (((W4.alloc (.map #[] 0)).alloc (.cells #[.map (some sm)] 63)).alloc (.cells #[.nilFunc] 85)) = WX from HY.out.2.1.symm]
  go_upto_region 7 with fail
  rw [← HFV.out]
  have eg : ∀ args w, (callFunc 54 args).run Tryz.prog w = .ok (.enter 54 args) w := enters_of Tryz.func54 (by kernel_rfl) rfl
  obtain ⟨WY, hWY⟩ : ∃ WY, WY = WX.setCell ⟨sm + 1 + 1, 0, none⟩ fv := ⟨_, rfl⟩
  rw [← hWY] at y0 y1 yL HLF HY ⊢
  clear hWY xL fL
  have hfv := HFV.out
  subst hfv
  go_wp2_with (go_at_fn 54; refine HLF.out.mono ?_; rintro e W9 ⟨rfl, g9⟩; have G9 := Lib.hid g9; clear g9)
  go_ret
  obtain ⟨gWY, -, hlw, hsm⟩ := HY.out
  exact ⟨by simp, ⟨G9.out.os.trans gWY.os, G9.out.tape.trans gWY.tape, G9.out.output.trans gWY.output, Nat.le_trans gWY.size G9.out.size, fun n hn => (G9.out.block n (Nat.lt_of_lt_of_le hn gWY.size) (fun e => by cases e; omega)).trans (gWY.block n hn)⟩⟩
end
end Go.Proofs.YtadopbpfnnpnaaaGreat

