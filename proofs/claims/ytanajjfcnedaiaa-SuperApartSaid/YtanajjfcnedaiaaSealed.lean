
/-
  Sectors that bear a name, words, and their sum.
-/
import Derived.Test.YtanajjfcnedaiaaSeal
namespace Go.Proofs.Ytanajjfcnedaiaa
open Go.RowKit Cr

/-- ys, and noughts up to n. -/
def padTo (n : Nat) (ys : List Int) : List Int := ys ++ List.replicate (n - ys.length) 0
theorem padTo_len {n : Nat} {ys : List Int} (h : ys.length ≤ n) : (padTo n ys).length = n := by simp [padTo]; omega
theorem padTo_small {n : Nat} {ys : List Int} (h : Wd.Small ys) : Wd.Small (padTo n ys) := h.app fun x hx => by rw [List.mem_replicate] at hx; omega
theorem padTo_sec {ys : List Int} (h : Wd.Small ys) (hl : ys.length ≤ 256) : IsSec (padTo 256 ys) := ⟨padTo_len hl, padTo_small h⟩
theorem padTo_lay {ys zs : List Int} (h : ys.length + zs.length ≤ 256) : lay (padTo 256 ys) ys.length zs = padTo 256 (ys ++ zs) := by
  unfold lay padTo
  rw [List.take_left' rfl, List.drop_append, List.drop_of_length_le (by omega), List.nil_append, List.drop_replicate, List.append_assoc, List.length_append]
  congr 3
  omega
theorem padTo_take {ys : List Int} (h : ys.length ≤ 252) : (padTo 256 ys).take 252 = padTo 252 ys := by
  unfold padTo
  rw [List.take_append, List.take_of_length_le h, List.take_replicate]
  congr 2
  omega
theorem padTo_end {ys zs : List Int} (h : ys.length ≤ 252) (hz : zs.length = 4) : lay (padTo 256 ys) 252 zs = padTo 252 ys ++ zs := by
  unfold lay
  rw [padTo_take h, hz, List.drop_of_length_le (by rw [padTo_len (by omega)]; omega), List.append_nil]

/-- A sector's bytes: the first ones, noughts, their sum. -/
def sealL (ys : List Int) : List Int := padTo 252 ys ++ Wd.enc 4 (sumW (padTo 252 ys)).toNat
theorem sealL_sec {ys : List Int} (h : Wd.Small ys) (hl : ys.length ≤ 252) : IsSec (sealL ys) :=
  ⟨by unfold sealL; rw [List.length_append, padTo_len hl, Wd.enc_length], (padTo_small h).app (Wd.enc_small _ _)⟩

/-- The first j words behind the name. -/
def upTo (nm : List Int) (k : Nat) (ns : List Nat) (j : Nat) : List Int := nm ++ ((ns.take j).map (Wd.enc k)).flatten
theorem upTo_succ {nm : List Int} {k : Nat} {ns : List Nat} {j : Nat} (h : j < ns.length) : upTo nm k ns (j + 1) = upTo nm k ns j ++ Wd.enc k (ns.getD j 0) := by
  unfold upTo
  rw [List.take_succ_eq_append_getElem h, List.map_append, List.flatten_append, List.append_assoc]
  simp [List.getD, h]
theorem upTo_len {nm : List Int} {k : Nat} {ns : List Nat} : ∀ {j : Nat}, j ≤ ns.length → (upTo nm k ns j).length = nm.length + j * k
  | 0, _ => by simp [upTo]
  | j + 1, h => by rw [upTo_succ (by omega), List.length_append, upTo_len (by omega), Wd.enc_length, Nat.add_mul]; omega
theorem upTo_small {nm : List Int} {k : Nat} {ns : List Nat} (h : Wd.Small nm) : ∀ {j : Nat}, j ≤ ns.length → Wd.Small (upTo nm k ns j)
  | 0, _ => by simpa [upTo] using h
  | j + 1, hj => by rw [upTo_succ (by omega)]; exact (upTo_small h (by omega)).app (Wd.enc_small _ _)

theorem run_cut (g E : Nat) (h : E ≤ 252) (w : World) : (Instr.sliceAt TS (.pointer (some ⟨g, 0, none⟩)) (some (.int .i64 (E : Int))) (some (.int .i64 252)) none).run Try.prog w = .ok (.slice (some ⟨g, E, none⟩) (252 - E) (256 - E)) w := by
  have hl : Try.prog.arrayLen TS = 256 := by kernel_rfl
  have he : Try.prog.elem TS = 5 := by kernel_rfl
  have hu : Try.prog.underlying TS = some (.array (Try.prog.arrayLen TS) (Try.prog.elem TS)) := by rw [hl, he]; exact under_sec
  rw [run_sliceAt_array_lh w TS ⟨g, 0, none⟩ hu .i64 .i64 (E : Int) 252 (by omega) (by omega) (by rw [hl]; omega), he, size_u8, hl]
  have hne : ¬ (256 = E) := by omega
  simp [slicedAt, Result.andThen, hne, Addr.add]
  omega
theorem grow1' {w w1 : World} {o : Obj} (g : Gr (w.drew.alloc o) w1) : Gr w w1 := Gr.trans (((Gr.refl w).drew).alloc (Nat.le_refl _) _) g
theorem Blk.other {w : World} {g r : Nat} {t : TypeId} {cs cs' : Array Value} (h : Blk w g t cs) (hne : g ≠ r) : Blk (w.setRow r cs') g t cs := (setRow_other w r g cs' hne).trans h

/-- What a sealed sector's maker answers. -/
def RetSec (xs : List Int) (w : World) (e : Ending) (w' : World) : Prop := e = .returned (.agg (sec (Sx xs))) ∧ Gr w w'

theorem sum_fits (s : W) : fitsB s.toNat 4 = true := by
  have := s.isLt
  simp only [fitsB, Bool.and_eq_true, mayB_iff, decide_eq_true_eq]
  exact ⟨by omega, by show s.toNat < 256 ^ 4; omega⟩

theorem enc_same (k : Nat) (s : W) : (U s : Int) = ((s.toNat : Nat) : Int) := rfl

set_option maxRecDepth 100000 in
set_option maxHeartbeats 1000000 in
theorem sealed_any (b : ByteArray) (nm : List Int) (hnm : (b.data.map fun x => Value.int .u8 x.toNat).toList = nm.map (Value.int .u8)) (hsm : Wd.Small nm) (h8 : nm.length = 8) (k : Nat) (hk : k = 4 ∨ k = 8) (a1 a2 a3 gw : Nat)
    (f1 : fitsB a1 k = true) (f2 : fitsB a2 k = true) (f3 : fitsB a3 k = true) (t : TypeId) (w : World) (hw : Blk w gw t #[.int .u64 a1, .int .u64 a2, .int .u64 a3]) :
    Calls Try.prog 42 #[.string b, .int .i64 k, .slice (some ⟨gw, 0, none⟩) 3 3] w (RetSec (sealL (upTo nm k [a1, a2, a3] 3)) w) := by
  obtain ⟨ns, hns⟩ : ∃ ns, ns = [a1, a2, a3] := ⟨_, rfl⟩
  have n3 : ns.length = 3 := by rw [hns]; rfl
  have HF : Hid (∀ j, j < 3 → fitsB (ns.getD j 0) k = true) := Lib.hid fun j hj => by
    have : j = 0 ∨ j = 1 ∨ j = 2 := by omega
    rw [hns]
    rcases this with rfl | rfl | rfl
    · exact f1
    · exact f2
    · exact f3
  have HW : Hid (∀ W, Gr w W → ∀ j, j < 3 → W.cell? ⟨gw, j, none⟩ = some (.int .u64 ((ns.getD j 0 : Nat) : Int))) := Lib.hid fun W g j hj => by
    have hb := hw.below g hw.lt
    have : j = 0 ∨ j = 1 ∨ j = 2 := by omega
    rw [hns]
    rcases this with rfl | rfl | rfl
    · exact hb.cell 0
    · exact hb.cell 1
    · exact hb.cell 2
  have HU : Hid (∀ j, j < 3 → upTo nm k ns (j + 1) = upTo nm k ns j ++ Wd.enc k (ns.getD j 0)) := Lib.hid fun j hj => upTo_succ (by omega)
  have HL : Hid (∀ j, j ≤ 3 → (upTo nm k ns j).length = 8 + j * k) := Lib.hid fun j hj => by rw [upTo_len (by omega), h8]
  have HS : Hid (∀ j, j ≤ 3 → Wd.Small (upTo nm k ns j)) := Lib.hid fun j hj => upTo_small hsm (by omega)
  have H0 : Hid (upTo nm k ns 0 = nm) := Lib.hid (by simp [upTo])
  rw [← hns]
  have HN := Lib.hid hnm
  have HM := Lib.hid hsm
  have H8 := Lib.hid h8
  have hz := zero_sec
  have hgw := hw.lt
  clear hnm hsm f1 f2 f3 hw hns n3 h8
  have hB := Blk.new (w.alloc (.cells (sec Sec.zero) TS)) TS (sec Sec.zero)
  simp only [World.size_alloc] at hB
  rw [← Sx_zero] at hB
  have HB := Lib.hid hB
  have HG := Lib.hid (((Gr.refl w).alloc (Nat.le_refl _) (.cells (sec (Sx (List.replicate 256 0))) TS)).alloc (by simp) (.cells (sec (Sx (List.replicate 256 0))) TS))
  have HR0 := Lib.hid ((Blk.new w TS (sec (Sx (List.replicate 256 0)))).alloc (.cells (sec (Sx (List.replicate 256 0))) TS))
  rw [← Sx_zero] at hz
  clear hB
  obtain ⟨Z, hZ⟩ : ∃ Z, Z = List.replicate 256 (0 : Int) := ⟨_, rfl⟩
  have HZ : Hid (IsSec Z ∧ lay Z 0 nm = padTo 256 nm) := Lib.hid ⟨by rw [hZ]; exact zeros_sec, by
    have := padTo_lay (ys := []) (zs := nm) (by rw [H8.out]; simp)
    rw [hZ]
    simpa [padTo] using this⟩
  rw [← hZ] at HB HG HR0 hz
  clear hZ
  have HR1 : Hid (∀ cs, Blk (((w.alloc (.cells (sec (Sx Z)) TS)).alloc (.cells (sec (Sx Z)) TS)).setRow (w.heap.size + 1) cs) w.heap.size TS (sec (Sx Z))) := Lib.hid fun cs => HR0.out.other (by omega)
  rcases hk with rfl | rfl
  · go_enter Try.func42, Try.ntmps42
    go_wp2_with (refine wpList_copy_str rfl _ _ rfl rfl HB.out HZ.out.1 rfl HN.out HM.out (by rw [H8.out]; omega) (by rw [H8.out]; omega) ?_; rw [HZ.out.2, H8.out])
    clear hz
    go_loopw [8, 16] (fun e i wr => ∃ j E : Nat, j ≤ 3 ∧ i = .int .i64 j ∧ e = .int .i64 (E : Int) ∧ Hid (E = 8 + j * 4) ∧ Hid (Blk wr (w.heap.size + 1) TS (sec (Sx (padTo 256 (upTo nm 4 ns j))))) ∧ Hid (Blk wr w.heap.size TS (sec (Sx Z))) ∧ Hid (Gr w wr)) (fun _ i _ => 3 - (intOf i).toNat)
    case atStart => exact ⟨0, 8, by omega, rfl, rfl, Lib.hid rfl, by rw [H0.out]; exact Lib.hid (HB.out.row _), HR1.out _, Lib.hid (below_setRow HG.out (by omega) _)⟩
    case round =>
      obtain ⟨j, E, hj, rfl, rfl, hE, hb, hr, hg⟩ := hrel
      by_cases hlt : j < 3
      · have hc := HW.out _ hg.out j hlt
        have hl := HL.out j hj
        have hu := HU.out j hlt
        have hf := HF.out j hlt
        have e0 : E ≤ 16 := by have := hE.out; omega
        obtain ⟨N, hN⟩ : ∃ N, N = ns.getD j 0 := ⟨_, rfl⟩
        rw [← hN] at hc hu hf
        have HP := Lib.hid (fun L C hL => put_in (F := E) (L := L) (C := C) _ hb.out (padTo_sec (HS.out j hj) (by omega)) hf hL (by omega))
        have HV : Hid (lay (padTo 256 (upTo nm 4 ns j)) E (Wd.enc 4 N) = padTo 256 (upTo nm 4 ns (j + 1))) := Lib.hid (by
          rw [hu, show E = (upTo nm 4 ns j).length by rw [hl, hE.out]]
          exact padTo_lay (by rw [hl, Wd.enc_length]; omega))
        clear hl hu hf hN
        have hcut := run_cut (w.heap.size + 1) E (by omega)
        go_wp2_with fail
        refine (HP.out (252 - E) (256 - E) (by omega)).mono ?_
        rintro e w2 ⟨rfl, hb2, s2, g2⟩
        rw [HV.out] at hb2
        have HB2 := Lib.hid hb2
        have HR2 : Hid (Blk w2 w.heap.size TS (sec (Sx Z))) := Lib.hid (hr.out.below (g2 (w.heap.size + 1) (Nat.le_refl _)) (by omega))
        have HG2 : Hid (Gr w w2) := Lib.hid (Below.trans hg.out (g2 w.heap.size (by omega)))
        clear hb2 g2 hc HP HV hb hr hg hcut
        go_wp2_with fail
        go_roundw
        case rel => exact ⟨j + 1, E + 4, by omega, by go_num, by go_num, Lib.hid (by rw [hE.out, Nat.add_mul]; omega), HB2, HR2, HG2⟩
        case measure => simp [intOf]; omega
      · obtain rfl : j = 3 := by omega
        have hl := HL.out 3 (Nat.le_refl _)
        have hs := HS.out 3 (Nat.le_refl _)
        obtain ⟨ys, hys⟩ : ∃ ys, ys = upTo nm 4 ns 3 := ⟨_, rfl⟩
        rw [← hys] at hl hs hb ⊢
        have HE : Hid (IsSec (padTo 256 ys) ∧ ys.length ≤ 252) := Lib.hid ⟨padTo_sec hs (by omega), by omega⟩
        have HQ : Hid (Byt wr.drew (some ⟨w.heap.size + 1, 0, none⟩) 252 256 (padTo 252 ys)) := Lib.hid (by
          have h1 := ((hb.out.byt HE.out.1).pre 252 256 (by omega) (by omega) (by omega)).heap (w' := wr.drew) rfl
          rwa [padTo_take HE.out.2] at h1)
        have HSU : Hid (Calls Try.prog 49 #[.slice (some ⟨wr.heap.size, 0, none⟩) 1 1] (wr.drew.alloc (.cells #[.slice (some ⟨w.heap.size + 1, 0, none⟩) 252 256] 71)) fun e w' => e = .returned (.int .u32 (U (sumW (padTo 252 ys)))) ∧ Gr (wr.drew.alloc (.cells #[.slice (some ⟨w.heap.size + 1, 0, none⟩) 252 256] 71)) w') := Lib.hid (by
          have h := sum_any _ 1 1 [padTo 252 ys] (wr.drew.alloc (.cells #[.slice (some ⟨w.heap.size + 1, 0, none⟩) 252 256] 71)) (Rows.one (w := wr.drew) (t := 71) HQ.out rfl)
          rw [show ([padTo 252 ys] : List (List Int)).flatten = padTo 252 ys by simp] at h
          exact h)
        obtain ⟨s, hS⟩ : ∃ s, s = (sumW (padTo 252 ys)).toNat := ⟨_, rfl⟩
        have s1 : s < 4294967296 := by rw [hS]; exact (sumW (padTo 252 ys)).isLt
        have hfs : fitsB s 4 = true := by rw [hS]; exact sum_fits _
        have HEND : Hid (lay (padTo 256 ys) 252 (Wd.enc 4 s) = sealL ys) := Lib.hid (by rw [padTo_end HE.out.2 (Wd.enc_length _ _), hS]; rfl)
        rw [show U (sumW (padTo 252 ys)) = (s : Int) by rw [hS]; rfl] at HSU
        have HFS := Lib.hid hfs
        have HW64 : Hid (IntKind.u64.wrap (s : Int) = (s : Int)) := Lib.hid (by rw [IntKind.wrap_u64]; omega)
        have HYS := Lib.hid hys
        clear hlt HW HF HU HL HS H0 HZ hl hs hys hS hfs hE
        go_wp2_with fail
        go_region_with (first | (go_at_call 49; refine HSU.out.mono ?_; rintro e w2 ⟨rfl, g2⟩; have G2 := Lib.hid (grow1' g2); clear g2; have HB2 := Lib.hid (hb.out.below G2.out hb.out.lt); have HP2 := Lib.hid (put_in (F := 252) (L := 4) (C := 4) (k := 4) w2 HB2.out HE.out.1 HFS.out (Nat.le_refl _) (Nat.le_refl _))) | (go_at_call 48; rw [HW64.out]; refine HP2.out.mono ?_; rintro e w3 ⟨rfl, hb3, s3, g3⟩; rw [HEND.out] at hb3; have HB3 := Lib.hid hb3; have G3 := Lib.hid g3; clear hb3 g3))
        all_goals
          have HR3 : Hid (Blk w3 w.heap.size TS (sec (Sx Z))) := Lib.hid ((hr.out.below G2.out hr.out.lt).below (G3.out (w.heap.size + 1) (Nat.le_refl _)) (by omega))
          have HG3 : Hid (Gr w w3) := Lib.hid (Below.trans (Gr.trans hg.out G2.out) (G3.out w.heap.size (by omega)))
          go_wp2_with (first | (refine wpList_load_x rfl _ rfl HB3.out rfl ?_) | (refine wpList_store_x rfl _ _ rfl HR3.out rfl rfl ?_))
          exact bodyPost_ret (results_x rfl _ _ _ _ rfl (HR3.out.row _)) rfl ⟨by rw [HYS.out], below_setRow HG3.out (Nat.le_refl _) _⟩
  · go_enter Try.func42, Try.ntmps42
    go_wp2_with (refine wpList_copy_str rfl _ _ rfl rfl HB.out HZ.out.1 rfl HN.out HM.out (by rw [H8.out]; omega) (by rw [H8.out]; omega) ?_; rw [HZ.out.2, H8.out])
    clear hz
    go_loopw [8, 16] (fun e i wr => ∃ j E : Nat, j ≤ 3 ∧ i = .int .i64 j ∧ e = .int .i64 (E : Int) ∧ Hid (E = 8 + j * 8) ∧ Hid (Blk wr (w.heap.size + 1) TS (sec (Sx (padTo 256 (upTo nm 8 ns j))))) ∧ Hid (Blk wr w.heap.size TS (sec (Sx Z))) ∧ Hid (Gr w wr)) (fun _ i _ => 3 - (intOf i).toNat)
    case atStart => exact ⟨0, 8, by omega, rfl, rfl, Lib.hid rfl, by rw [H0.out]; exact Lib.hid (HB.out.row _), HR1.out _, Lib.hid (below_setRow HG.out (by omega) _)⟩
    case round =>
      obtain ⟨j, E, hj, rfl, rfl, hE, hb, hr, hg⟩ := hrel
      by_cases hlt : j < 3
      · have hc := HW.out _ hg.out j hlt
        have hl := HL.out j hj
        have hu := HU.out j hlt
        have hf := HF.out j hlt
        have e0 : E ≤ 24 := by have := hE.out; omega
        obtain ⟨N, hN⟩ : ∃ N, N = ns.getD j 0 := ⟨_, rfl⟩
        rw [← hN] at hc hu hf
        have HP := Lib.hid (fun L C hL => put_in (F := E) (L := L) (C := C) _ hb.out (padTo_sec (HS.out j hj) (by omega)) hf hL (by omega))
        have HV : Hid (lay (padTo 256 (upTo nm 8 ns j)) E (Wd.enc 8 N) = padTo 256 (upTo nm 8 ns (j + 1))) := Lib.hid (by
          rw [hu, show E = (upTo nm 8 ns j).length by rw [hl, hE.out]]
          exact padTo_lay (by rw [hl, Wd.enc_length]; omega))
        clear hl hu hf hN
        have hcut := run_cut (w.heap.size + 1) E (by omega)
        go_wp2_with fail
        refine (HP.out (252 - E) (256 - E) (by omega)).mono ?_
        rintro e w2 ⟨rfl, hb2, s2, g2⟩
        rw [HV.out] at hb2
        have HB2 := Lib.hid hb2
        have HR2 : Hid (Blk w2 w.heap.size TS (sec (Sx Z))) := Lib.hid (hr.out.below (g2 (w.heap.size + 1) (Nat.le_refl _)) (by omega))
        have HG2 : Hid (Gr w w2) := Lib.hid (Below.trans hg.out (g2 w.heap.size (by omega)))
        clear hb2 g2 hc HP HV hb hr hg hcut
        go_wp2_with fail
        go_roundw
        case rel => exact ⟨j + 1, E + 8, by omega, by go_num, by go_num, Lib.hid (by rw [hE.out, Nat.add_mul]; omega), HB2, HR2, HG2⟩
        case measure => simp [intOf]; omega
      · obtain rfl : j = 3 := by omega
        have hl := HL.out 3 (Nat.le_refl _)
        have hs := HS.out 3 (Nat.le_refl _)
        obtain ⟨ys, hys⟩ : ∃ ys, ys = upTo nm 8 ns 3 := ⟨_, rfl⟩
        rw [← hys] at hl hs hb ⊢
        have HE : Hid (IsSec (padTo 256 ys) ∧ ys.length ≤ 252) := Lib.hid ⟨padTo_sec hs (by omega), by omega⟩
        have HQ : Hid (Byt wr.drew (some ⟨w.heap.size + 1, 0, none⟩) 252 256 (padTo 252 ys)) := Lib.hid (by
          have h1 := ((hb.out.byt HE.out.1).pre 252 256 (by omega) (by omega) (by omega)).heap (w' := wr.drew) rfl
          rwa [padTo_take HE.out.2] at h1)
        have HSU : Hid (Calls Try.prog 49 #[.slice (some ⟨wr.heap.size, 0, none⟩) 1 1] (wr.drew.alloc (.cells #[.slice (some ⟨w.heap.size + 1, 0, none⟩) 252 256] 71)) fun e w' => e = .returned (.int .u32 (U (sumW (padTo 252 ys)))) ∧ Gr (wr.drew.alloc (.cells #[.slice (some ⟨w.heap.size + 1, 0, none⟩) 252 256] 71)) w') := Lib.hid (by
          have h := sum_any _ 1 1 [padTo 252 ys] (wr.drew.alloc (.cells #[.slice (some ⟨w.heap.size + 1, 0, none⟩) 252 256] 71)) (Rows.one (w := wr.drew) (t := 71) HQ.out rfl)
          rw [show ([padTo 252 ys] : List (List Int)).flatten = padTo 252 ys by simp] at h
          exact h)
        obtain ⟨s, hS⟩ : ∃ s, s = (sumW (padTo 252 ys)).toNat := ⟨_, rfl⟩
        have s1 : s < 4294967296 := by rw [hS]; exact (sumW (padTo 252 ys)).isLt
        have hfs : fitsB s 4 = true := by rw [hS]; exact sum_fits _
        have HEND : Hid (lay (padTo 256 ys) 252 (Wd.enc 4 s) = sealL ys) := Lib.hid (by rw [padTo_end HE.out.2 (Wd.enc_length _ _), hS]; rfl)
        rw [show U (sumW (padTo 252 ys)) = (s : Int) by rw [hS]; rfl] at HSU
        have HFS := Lib.hid hfs
        have HW64 : Hid (IntKind.u64.wrap (s : Int) = (s : Int)) := Lib.hid (by rw [IntKind.wrap_u64]; omega)
        have HYS := Lib.hid hys
        clear hlt HW HF HU HL HS H0 HZ hl hs hys hS hfs hE
        go_wp2_with fail
        go_region_with (first | (go_at_call 49; refine HSU.out.mono ?_; rintro e w2 ⟨rfl, g2⟩; have G2 := Lib.hid (grow1' g2); clear g2; have HB2 := Lib.hid (hb.out.below G2.out hb.out.lt); have HP2 := Lib.hid (put_in (F := 252) (L := 4) (C := 4) (k := 4) w2 HB2.out HE.out.1 HFS.out (Nat.le_refl _) (Nat.le_refl _))) | (go_at_call 48; rw [HW64.out]; refine HP2.out.mono ?_; rintro e w3 ⟨rfl, hb3, s3, g3⟩; rw [HEND.out] at hb3; have HB3 := Lib.hid hb3; have G3 := Lib.hid g3; clear hb3 g3))
        all_goals
          have HR3 : Hid (Blk w3 w.heap.size TS (sec (Sx Z))) := Lib.hid ((hr.out.below G2.out hr.out.lt).below (G3.out (w.heap.size + 1) (Nat.le_refl _)) (by omega))
          have HG3 : Hid (Gr w w3) := Lib.hid (Below.trans (Gr.trans hg.out G2.out) (G3.out w.heap.size (by omega)))
          go_wp2_with (first | (refine wpList_load_x rfl _ rfl HB3.out rfl ?_) | (refine wpList_store_x rfl _ _ rfl HR3.out rfl rfl ?_))
          exact bodyPost_ret (results_x rfl _ _ _ _ rfl (HR3.out.row _)) rfl ⟨by rw [HYS.out], below_setRow HG3.out (Nat.le_refl _) _⟩

end Go.Proofs.Ytanajjfcnedaiaa
