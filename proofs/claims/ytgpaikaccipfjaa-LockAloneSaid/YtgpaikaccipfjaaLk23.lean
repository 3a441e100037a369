
/-
  The code's table of locks: ring, where nobody stands in the line of what is held.
-/
import Derived.Test.YtgpaikaccipfjaaLk22
namespace Go.Proofs.Ytgpaikaccipfjaa
open Go.RowKit Go.Maps

section
variable {w : World} {t km om : Nat} {B : Tag → Option Nat} {T : Tb}
set_option maxRecDepth 100000 in
theorem ring_no (h : TbAt w t km om B T) (ok : T.Ok) {o : Nat} (ho : KO.dom o) (k : Key) (hw : T.wanted (T.of o).ks = false) :
    Calls Try.prog 28 #[.pointer (some ⟨t, 0, none⟩), .int .u64 (o : Int), kv k] w fun e w' => e = .returned (.bool false) ∧ Gr w w' := by
  have g1 : Gr w ((w.alloc (.cells #[.pointer (some ⟨t, 0, none⟩)] 24)).alloc (.cells #[.int .i64 k.1, .int .i64 k.2] TKey)) := ((Gr.refl w).alloc (Nat.le_refl _) _).alloc (by simp) _
  have HO := Lib.hid (of_any (h.gr g1) ho)
  have hhs := h.hs o
  obtain ⟨hp, hhp⟩ : ∃ hp, hp = B (.pm o) := ⟨_, rfl⟩
  obtain ⟨O1, hO1⟩ : ∃ O1, O1 = (T.of o).key.1 := ⟨_, rfl⟩
  obtain ⟨O2, hO2⟩ : ∃ O2, O2 = (T.of o).key.2 := ⟨_, rfl⟩
  obtain ⟨PM, hPM⟩ : ∃ PM, PM = (T.of o).mode := ⟨_, rfl⟩
  unfold ofV at HO
  rw [← hhp, ← hO1, ← hO2, ← hPM] at HO
  rw [← hhp] at hhs
  have hb := (Blk.new w 24 #[.pointer (some ⟨t, 0, none⟩)]).gr ((Gr.refl _).alloc (Nat.le_refl _) (.cells #[.int .i64 k.1, .int .i64 k.2] TKey))
  have HWa := Lib.hid (fun W (g : Gr w W) => wanted_any (h.gr g) O1 O2 PM (hhs.gr g) (fun k hk => by obtain ⟨l, e, _⟩ := ok.holds o k hk; rw [e]; rfl))
  rw [hw] at HWa
  obtain ⟨W0, hW0⟩ : ∃ W0, W0 = (w.alloc (.cells #[.pointer (some ⟨t, 0, none⟩)] 24)).alloc (.cells #[.int .i64 k.1, .int .i64 k.2] TKey) := ⟨_, rfl⟩
  rw [← hW0] at g1 HO hb
  obtain ⟨tb, htb⟩ : ∃ tb, tb = w.heap.size := ⟨_, rfl⟩
  rw [← htb] at hb
  have x0 := hb.cell 0
  simp at x0
  have HB := Lib.hid (And.intro hb (And.intro g1 (And.intro hW0 htb)))
  show Calls Try.prog 28 #[.pointer (some ⟨t, 0, none⟩), .int .u64 (o : Int), .agg #[.int .i64 k.1, .int .i64 k.2]] w _
  clear h ok hhs hhp hO1 hO2 hPM hb g1 hW0 htb hw
  go_enter Try.func28, Try.ntmps28
  go_upto_region 1 with fail
  rw [show ((w.alloc (.cells #[.pointer (some ⟨t, 0, none⟩)] 24)).alloc (.cells #[.int .i64 k.1, .int .i64 k.2] 29)) = W0 from HB.out.2.2.1.symm, ← HB.out.2.2.2]
  go_wp2_with fail
  refine HO.out.mono ?_
  rintro e W2 ⟨rfl, g2⟩
  have g3 : Gr W2 (W2.alloc (.cells #[.map hp, .int .i64 O1, .int .i64 O2, .int .i64 PM] TPy)) := (Gr.refl _).alloc (Nat.le_refl _) _
  have b3 := Blk.new W2 TPy #[.map hp, .int .i64 O1, .int .i64 O2, .int .i64 PM]
  obtain ⟨W3, hW3⟩ : ∃ W3, W3 = W2.alloc (.cells #[.map hp, .int .i64 O1, .int .i64 O2, .int .i64 PM] TPy) := ⟨_, rfl⟩
  rw [← hW3] at g3 b3
  obtain ⟨pb, hpb⟩ : ∃ pb, pb = W2.heap.size := ⟨_, rfl⟩
  rw [← hpb] at b3
  have z0 := b3.cell 0
  have z1 := b3.cell 1
  have z2 := b3.cell 2
  have z3 := b3.cell 3
  have x3 := (HB.out.1.gr (Gr.trans g2 g3)).cell 0
  have x2 := (HB.out.1.gr g2).cell 0
  simp at z0 z1 z2 z3 x3 x2
  have G3 : Hid (Gr w W3) := Lib.hid (Gr.trans HB.out.2.1 (Gr.trans g2 g3))
  have H3 := Lib.hid (And.intro hW3 hpb)
  clear g2 g3 b3 hW3 hpb x0
  go_upto_region 2 with fail
  rw [show (W2.alloc (.cells #[.map hp, .int .i64 O1, .int .i64 O2, .int .i64 PM] 61)) = W3 from H3.out.1.symm, ← H3.out.2]
  go_wp2_with fail
  refine (HWa.out W3 G3.out).mono ?_
  rintro e W4 ⟨rfl, g4⟩
  have G4 : Hid (Gr w W4) := Lib.hid (Gr.trans G3.out g4)
  clear g4
  go_wp2_with fail
  go_ret
  exact ⟨rfl, G4.out⟩
end
end Go.Proofs.Ytgpaikaccipfjaa
