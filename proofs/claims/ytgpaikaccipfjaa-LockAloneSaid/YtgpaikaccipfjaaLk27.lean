
/-
  The code's table of locks: ring, where all who hold wait for nothing or for what is held.
-/
import Derived.Test.YtgpaikaccipfjaaLk26
import Derived.Laws.EntriesVeiled
namespace Go.Proofs.Ytgpaikaccipfjaa
open Go.RowKit Go.Maps

section
variable {w : World} {t km om : Nat} {B : Tag → Option Nat} {T : Tb}
set_option maxRecDepth 100000 in
theorem ring_flat (h : TbAt w t km om B T) (ok : T.Ok) {o : Nat} (ho : KO.dom o) {k : Key} (hk : KL.dom k) {l : Lk} (hl : T.lk k = some l) (hw : T.wanted (T.of o).ks = true) (hflat : ∀ q, q ∈ l.hs → (T.of q).mode = 0 ∨ (T.of q).key ∈ (T.of o).ks) :
    Calls Try.prog 28 #[.pointer (some ⟨t, 0, none⟩), .int .u64 (o : Int), kv k] w fun e w' => e = .returned (.bool (l.hs.any fun q => decide ((T.of q).mode ≠ 0))) ∧ Gr w w' := by
  have g1 : Gr w ((w.alloc (.cells #[.pointer (some ⟨t, 0, none⟩)] 24)).alloc (.cells #[.int .i64 k.1, .int .i64 k.2] TKey)) := ((Gr.refl w).alloc (Nat.le_refl _) _).alloc (by simp) _
  have HO := Lib.hid (of_any (h.gr g1) ho)
  have hhs := h.hs o
  obtain ⟨hp, hhp⟩ : ∃ hp, hp = B (.pm o) := ⟨_, rfl⟩
  obtain ⟨O1, hO1⟩ : ∃ O1, O1 = (T.of o).key.1 := ⟨_, rfl⟩
  obtain ⟨O2, hO2⟩ : ∃ O2, O2 = (T.of o).key.2 := ⟨_, rfl⟩
  obtain ⟨PM, hPM⟩ : ∃ PM, PM = (T.of o).mode := ⟨_, rfl⟩
  unfold ofV at HO
  rw [← hhp, ← hO1, ← hO2, ← hPM] at HO
  rw [← hhp] at hhs
  have hb := (Blk.new w 24 #[.pointer (some ⟨t, 0, none⟩)]).gr ((Gr.refl _).alloc (Nat.le_refl _) (.cells #[.int .i64 k.1, .int .i64 k.2] TKey))
  have HWa := Lib.hid (fun W (g : Gr w W) => wanted_any (h.gr g) O1 O2 PM (hhs.gr g) (fun k hk => by obtain ⟨l, e, _⟩ := ok.holds o k hk; rw [e]; rfl))
  rw [hw] at HWa
  have hkb2 := Blk.new (w.alloc (.cells #[.pointer (some ⟨t, 0, none⟩)] 24)) TKey #[.int .i64 k.1, .int .i64 k.2]
  simp only [World.size_alloc] at hkb2
  obtain ⟨W0, hW0⟩ : ∃ W0, W0 = (w.alloc (.cells #[.pointer (some ⟨t, 0, none⟩)] 24)).alloc (.cells #[.int .i64 k.1, .int .i64 k.2] TKey) := ⟨_, rfl⟩
  rw [← hW0] at g1 HO hb hkb2
  obtain ⟨tb, htb⟩ : ∃ tb, tb = w.heap.size := ⟨_, rfl⟩
  rw [← htb] at hb hkb2
  have HKb := Lib.hid hkb2
  clear hkb2
  have x0 := hb.cell 0
  simp at x0
  have HZ := Lib.hid (And.intro h (And.intro ok (And.intro hk (And.intro hl (And.intro hflat hhs)))))
  have HB := Lib.hid (And.intro hb (And.intro g1 (And.intro hW0 htb)))
  show Calls Try.prog 28 #[.pointer (some ⟨t, 0, none⟩), .int .u64 (o : Int), .agg #[.int .i64 k.1, .int .i64 k.2]] w _
  clear h ok hk hl hflat hhs hhp hO1 hO2 hPM hb g1 hW0 htb hw
  go_enter Try.func28, Try.ntmps28
  go_upto_region 1 with fail
  rw [show ((w.alloc (.cells #[.pointer (some ⟨t, 0, none⟩)] 24)).alloc (.cells #[.int .i64 k.1, .int .i64 k.2] 29)) = W0 from HB.out.2.2.1.symm, ← HB.out.2.2.2]
  go_wp2_with fail
  refine HO.out.mono ?_
  rintro e W2 ⟨rfl, g2⟩
  have g3 : Gr W2 (W2.alloc (.cells #[.map hp, .int .i64 O1, .int .i64 O2, .int .i64 PM] TPy)) := (Gr.refl _).alloc (Nat.le_refl _) _
  have b3 := Blk.new W2 TPy #[.map hp, .int .i64 O1, .int .i64 O2, .int .i64 PM]
  obtain ⟨W3, hW3⟩ : ∃ W3, W3 = W2.alloc (.cells #[.map hp, .int .i64 O1, .int .i64 O2, .int .i64 PM] TPy) := ⟨_, rfl⟩
  rw [← hW3] at g3 b3
  obtain ⟨pb, hpb⟩ : ∃ pb, pb = W2.heap.size := ⟨_, rfl⟩
  rw [← hpb] at b3
  have z0 := b3.cell 0
  have z1 := b3.cell 1
  have z2 := b3.cell 2
  have z3 := b3.cell 3
  have x3 := (HB.out.1.gr (Gr.trans g2 g3)).cell 0
  have x2 := (HB.out.1.gr g2).cell 0
  simp at z0 z1 z2 z3 x3 x2
  have HP := Lib.hid b3
  have HX := Lib.hid (HB.out.1.gr (Gr.trans g2 g3))
  have HX2 := Lib.hid (HKb.out.gr (Gr.trans g2 g3))
  have G3 : Hid (Gr w W3) := Lib.hid (Gr.trans HB.out.2.1 (Gr.trans g2 g3))
  have H3 := Lib.hid (And.intro hW3 hpb)
  clear g2 g3 b3 hW3 hpb x0
  go_upto_region 2 with fail
  rw [show (W2.alloc (.cells #[.map hp, .int .i64 O1, .int .i64 O2, .int .i64 PM] 61)) = W3 from H3.out.1.symm, ← H3.out.2]
  go_wp2_with fail
  refine (HWa.out W3 G3.out).mono ?_
  rintro e W4 ⟨rfl, g4⟩
  have G4 : Hid (Gr w W4) := Lib.hid (Gr.trans G3.out g4)
  have b4 := HP.out.gr g4
  have t4 := HX.out.gr g4
  have K4 := Lib.hid (And.intro b4 t4)
  have K5 := Lib.hid (HX2.out.gr g4)
  clear g4 b4 t4 z0 z1 z2 z3 x3 x2
  have hmm := @run_makeMap Try.prog
  obtain ⟨h, ok, hk, hl, hflat, hhs⟩ := HZ.out
  obtain ⟨sm, hsm⟩ : ∃ sm, sm = W4.heap.size := ⟨_, rfl⟩
  obtain ⟨fv, hfv⟩ : ∃ fv, fv = Value.func (Fn.func 45) #[] #[.pointer (some ⟨sm + 1, 0, none⟩), .pointer (some ⟨tb, 0, none⟩), .pointer (some ⟨pb, 0, none⟩), .pointer (some ⟨sm + 1 + 1, 0, none⟩)] := ⟨_, rfl⟩
  have ga : Gr W4 (W4.alloc (.map #[] 0)) := (Gr.refl _).alloc (Nat.le_refl _) _
  have gb : Gr (W4.alloc (.map #[] 0)) ((W4.alloc (.map #[] 0)).alloc (.cells #[.map (some sm)] TMs)) := (Gr.refl _).alloc (Nat.le_refl _) _
  have gc : Gr ((W4.alloc (.map #[] 0)).alloc (.cells #[.map (some sm)] TMs)) (((W4.alloc (.map #[] 0)).alloc (.cells #[.map (some sm)] TMs)).alloc (.cells #[.nilFunc] 66)) := (Gr.refl _).alloc (Nat.le_refl _) _
  have m1 : Mp Try.prog KL (W4.alloc (.map #[] 0)) W4.heap.size (fun _ => none) [] := Mp.made W4
  have bs := Blk.new (W4.alloc (.map #[] 0)) TMs #[.map (some sm)]
  have bL := Blk.new ((W4.alloc (.map #[] 0)).alloc (.cells #[.map (some sm)] TMs)) 66 #[.nilFunc]
  simp only [World.size_alloc] at bs bL
  rw [← hsm] at m1 bs bL
  obtain ⟨WX, hWX⟩ : ∃ WX, WX = ((W4.alloc (.map #[] 0)).alloc (.cells #[.map (some sm)] TMs)).alloc (.cells #[.nilFunc] 66) := ⟨_, rfl⟩
  have m2 := (m1.stays (gb.block sm m1.lt)).stays (gc.block sm (Nat.lt_of_lt_of_le m1.lt gb.size))
  have bs2 := bs.gr gc
  have gX : Gr W4 WX := by rw [hWX]; exact Gr.trans ga (Gr.trans gb gc)
  rw [← hWX] at bL m2 bs2
  have xL := bL.cell 0
  have fL := bL.frozen 0
  simp at xL
  have hlw : w.heap.size ≤ W4.heap.size := G4.out.size
  have gWY : Gr w (WX.setCell ⟨sm + 1 + 1, 0, none⟩ fv) := ⟨gX.os.trans G4.out.os, gX.tape.trans G4.out.tape, gX.output.trans G4.out.output, by have := gX.size; simp; omega, fun n hn => (Below.heap_setCell _ _ _ _ (by show n ≠ sm + 1 + 1; omega)).trans ((gX.block n (by omega)).trans (G4.out.block n hn))⟩
  have m3 := m2.stays (w' := WX.setCell ⟨sm + 1 + 1, 0, none⟩ fv) (Below.heap_setCell _ _ _ _ (by show sm ≠ sm + 1 + 1; omega))
  have bs3 := bs2.far (p := ⟨sm + 1 + 1, 0, none⟩) (by show sm + 1 ≠ sm + 1 + 1; omega) fv
  have hpb4 := K4.out.1.lt
  have htb4 := K4.out.2.lt
  have bp3 := (K4.out.1.gr gX).far (p := ⟨sm + 1 + 1, 0, none⟩) (by show pb ≠ sm + 1 + 1; omega) fv
  have bt3 := (K4.out.2.gr gX).far (p := ⟨sm + 1 + 1, 0, none⟩) (by show tb ≠ sm + 1 + 1; omega) fv
  have hkb4 := K5.out.lt
  have bk3 := (K5.out.gr gX).far (p := ⟨sm + 1 + 1, 0, none⟩) (by show tb + 1 ≠ sm + 1 + 1; omega) fv
  have y0 := bk3.cell 0
  have y1 := bk3.cell 1
  have yL := (bL.set 0 fv).cell 0
  simp at y0 y1 yL
  have hun : (unitF ([] : List Key)) = fun _ => none := by
    funext a
    rfl
  rw [← hun] at m3
  have hLF := leads_flat (h.gr gWY) hk hl (lb := sm + 1 + 1) bs3 m3 (fun ⟨a, ha⟩ => by have := h.lt a _ ha; omega) bt3 bp3 (hhs.gr gWY) (fun n hn e => by
    rcases hhs with ⟨h1, _⟩ | ⟨n', h1, h2⟩
    · rw [hn] at h1; cases h1
    · rw [hn] at h1; cases h1; have := h2.lt; omega) hflat ok.key
  rw [show kv k = .agg #[.int .i64 k.1, .int .i64 k.2] from rfl] at hLF
  have HLF := Lib.hid hLF
  have HY := Lib.hid (And.intro gWY (And.intro hWX (And.intro hlw hsm)))
  have HFV := Lib.hid hfv
  clear h ok hk hl hflat hhs bk3 hkb4 ga gb gc m1 bs bL m2 bs2 gX gWY m3 bs3 hpb4 htb4 bp3 bt3 hun hLF hWX hsm hlw hfv
  go_upto_region 6 with fail
  rw [← HY.out.2.2.2, show (((W4.alloc (.map #[] 0)).alloc (.cells #[.map (some sm)] 59)).alloc (.cells #[.nilFunc] 66)) = WX from HY.out.2.1.symm]
  go_upto_region 7 with fail
  rw [← HFV.out]
  have eg : ∀ args w, (callFunc 45 args).run Try.prog w = .ok (.enter 45 args) w := enters_of Try.func45 (by kernel_rfl) rfl
  obtain ⟨WY, hWY⟩ : ∃ WY, WY = WX.setCell ⟨sm + 1 + 1, 0, none⟩ fv := ⟨_, rfl⟩
  rw [← hWY] at y0 y1 yL HLF HY ⊢
  clear hWY xL fL
  have hfv := HFV.out
  subst hfv
  go_wp2_with (go_at_fn 45; refine HLF.out.mono ?_; rintro e W9 ⟨rfl, g9⟩; have G9 := Lib.hid g9; clear g9)
  go_ret
  obtain ⟨gWY, -, hlw, hsm⟩ := HY.out
  exact ⟨by simp, ⟨G9.out.os.trans gWY.os, G9.out.tape.trans gWY.tape, G9.out.output.trans gWY.output, Nat.le_trans gWY.size G9.out.size, fun n hn => (G9.out.block n (Nat.lt_of_lt_of_le hn gWY.size) (fun e => by cases e; omega)).trans (gWY.block n hn)⟩⟩
end
end Go.Proofs.Ytgpaikaccipfjaa
