
/-
  Sectors that bear a name, words, and their sum: the document's.
-/
import Derived.Test.YtanajjfcnedaiaaSealed
import Derived.Test.YtanajjfcnedaiaaRefc
import Derived.Test.YtanajjfcnedaiaaRef2
import Derived.Deep.RegionHeld3
namespace Go.Proofs.Ytanajjfcnedaiaa
open Go.RowKit Cr

set_option maxRecDepth 100000 in
set_option maxHeartbeats 1000000 in
theorem refSealed_any (p : Option Addr) (n c : Nat) (ys : List Int) (w : World) (h : Byt w p n c ys) (h0 : 0 < n) (hn : n ≤ 252) : Calls Try.prog 44 #[.slice p n c] w (RetSec (sealL ys) w) := by
  have hl := h.len
  have hz := zero_sec
  have hB := Blk.new (w.alloc (.cells (sec Sec.zero) TS)) TS (sec Sec.zero)
  simp only [World.size_alloc] at hB
  rw [← Sx_zero] at hB
  have HB := Lib.hid hB
  have HG := Lib.hid (((Gr.refl w).alloc (Nat.le_refl _) (.cells (sec (Sx (List.replicate 256 0))) TS)).alloc (by simp) (.cells (sec (Sx (List.replicate 256 0))) TS))
  have HR0 := Lib.hid ((Blk.new w TS (sec (Sx (List.replicate 256 0)))).alloc (.cells (sec (Sx (List.replicate 256 0))) TS))
  rw [← Sx_zero] at hz
  obtain ⟨Z, hZ⟩ : ∃ Z, Z = List.replicate 256 (0 : Int) := ⟨_, rfl⟩
  have HZ : Hid (IsSec Z ∧ lay Z 0 ys = padTo 256 ys) := Lib.hid ⟨by rw [hZ]; exact zeros_sec, by
    have := padTo_lay (ys := []) (zs := ys) (by rw [hl]; simp; omega)
    rw [hZ]
    simpa [padTo] using this⟩
  rw [← hZ] at HB HG HR0 hz
  have HY := Lib.hid (h.kept HG.out)
  have hHE : IsSec (padTo 256 ys) ∧ ys.length ≤ 252 := ⟨padTo_sec h.small (by omega), by omega⟩
  have HE := Lib.hid hHE
  have HR1 : Hid (∀ cs, Blk (((w.alloc (.cells (sec (Sx Z)) TS)).alloc (.cells (sec (Sx Z)) TS)).setRow (w.heap.size + 1) cs) w.heap.size TS (sec (Sx Z))) := Lib.hid fun cs => HR0.out.other (by omega)
  have HBR : Hid (Blk (((w.alloc (.cells (sec (Sx Z)) TS)).alloc (.cells (sec (Sx Z)) TS)).setRow (w.heap.size + 1) (sec (Sx (padTo 256 ys)))) (w.heap.size + 1) TS (sec (Sx (padTo 256 ys)))) := Lib.hid (HB.out.row _)
  have HGR : Hid (Gr w (((w.alloc (.cells (sec (Sx Z)) TS)).alloc (.cells (sec (Sx Z)) TS)).setRow (w.heap.size + 1) (sec (Sx (padTo 256 ys))))) := Lib.hid (below_setRow HG.out (by omega) _)
  clear hB hZ h hl hHE
  go_enter Try.func44, Try.ntmps44
  go_wp2_with (refine wpList_copy_sec rfl _ _ rfl rfl HB.out HZ.out.1 rfl HY.out h0 (by omega) (by omega) ?_; rw [HZ.out.2])
  clear hz
  have HR2 := Lib.hid (HR1.out (sec (Sx (padTo 256 ys))))
  obtain ⟨W, hW⟩ : ∃ W, W = ((w.alloc (.cells (sec (Sx Z)) TS)).alloc (.cells (sec (Sx Z)) TS)).setRow (w.heap.size + 1) (sec (Sx (padTo 256 ys))) := ⟨_, rfl⟩
  rw [← hW] at HBR HGR HR2
  rw [← hW]
  clear hW HR1 HR0 HB HG HY HZ
  have HQ : Hid (Byt W.drew (some ⟨w.heap.size + 1, 0, none⟩) 252 256 (padTo 252 ys)) := Lib.hid (by
    have h1 := ((HBR.out.byt HE.out.1).pre 252 256 (by omega) (by omega) (by omega)).heap (w' := W.drew) rfl
    rwa [padTo_take HE.out.2] at h1)
  have HSU := Lib.hid (refSum_any _ _ _ _ _ HQ.out)
  obtain ⟨s, hS⟩ : ∃ s, s = (sumW (padTo 252 ys)).toNat := ⟨_, rfl⟩
  have s1 : s < 4294967296 := by rw [hS]; exact (sumW (padTo 252 ys)).isLt
  have HEND : Hid (lay (padTo 256 ys) 252 (Wd.enc 4 s) = sealL ys) := Lib.hid (by rw [padTo_end HE.out.2 (Wd.enc_length _ _), hS]; rfl)
  rw [show U (sumW (padTo 252 ys)) = (s : Int) by rw [hS]; rfl] at HSU
  have HW64 : Hid (IntKind.u64.wrap (s : Int) = (s : Int)) := Lib.hid (by rw [IntKind.wrap_u64]; omega)
  have HPU := Lib.hid (refPut_any s 4 W.drew (by omega) (by omega))
  clear hS
  go_wp2_with fail
  go_region_held3 (fun _ => True) (exact True.intro) (first | (refine step_copy_sec rfl _ _ rfl rfl HB3.out HE.out.1 rfl HE3.out (by omega) (by omega) (by omega) ?_; rw [HEND.out]) | (go_at_call 50; refine HSU.out.mono ?_; rintro e w2 ⟨rfl, rfl⟩) | (go_at_call 43; rw [HW64.out]; refine HPU.out.mono ?_; rintro e w3 ⟨q3, n3, d3, rfl, hby3, g3, hf3⟩; obtain rfl : 4 = n3 := (by rw [← hby3.len, Wd.enc_length]); have HE3 := Lib.hid hby3; have HB3 := Lib.hid ((HBR.out.heap (w' := W.drew) rfl).below g3 HBR.out.lt); have HR3 := Lib.hid ((HR2.out.heap (w' := W.drew) rfl).below g3 HR2.out.lt); have HG3 : Hid (Gr w w3) := Lib.hid (Gr.trans (Gr.trans HGR.out ((Gr.refl W).drew)) g3); clear hby3 g3 hf3))
  have HB4 := Lib.hid (HB3.out.row (sec (Sx (sealL ys))))
  have HR4 := Lib.hid (HR3.out.other (cs' := sec (Sx (sealL ys))) (show w.heap.size ≠ w.heap.size + 1 by omega))
  have HG4 := Lib.hid (below_setRow HG3.out (show w.heap.size ≤ w.heap.size + 1 by omega) (sec (Sx (sealL ys))))
  go_wp2_with (first | (refine wpList_load_x rfl _ rfl HB4.out rfl ?_) | (refine wpList_store_x rfl _ _ rfl HR4.out rfl rfl ?_))
  exact bodyPost_ret (results_x rfl _ _ _ _ rfl (HR4.out.row _)) rfl ⟨rfl, below_setRow HG4.out (Nat.le_refl _) _⟩

end Go.Proofs.Ytanajjfcnedaiaa
