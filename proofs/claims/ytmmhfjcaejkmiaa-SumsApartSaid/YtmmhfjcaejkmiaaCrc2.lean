import Derived.Test.YtmmhfjcaejkmiaaCrc1
namespace Go.Proofs.Ytmmhfjcaejkmiaa
open Go.RowKit Cr

set_option maxRecDepth 100000 in
theorem square_any (n : Nat) (w : World) : Calls Try.prog 22 #[.agg (words 32 (grid (its n)))] w fun e w' => e = .returned (.agg (words 32 (grid (its (n + n))))) ∧ Gr w w' := by
  have hx0 : Blk (((w.alloc (.cells (words 32 (grid (its n))) 47)).alloc (.cells (words 32 fun _ => 0#32) 47)).alloc (.cells (words 32 fun _ => 0#32) 47)) w.heap.size 47 (words 32 (grid (its n))) := ((Blk.new w 47 (words 32 (grid (its n)))).alloc _).alloc _
  have ha0 : Blk (((w.alloc (.cells (words 32 (grid (its n))) 47)).alloc (.cells (words 32 fun _ => 0#32) 47)).alloc (.cells (words 32 fun _ => 0#32) 47)) (w.heap.size + 1) 47 (words 32 fun _ => 0#32) := by
    have := Blk.alloc (Blk.new (w.alloc (.cells (words 32 (grid (its n))) 47)) 47 (words 32 fun _ => 0#32)) (.cells (words 32 fun _ => 0#32) 47)
    simpa using this
  have hb0 : Blk (((w.alloc (.cells (words 32 (grid (its n))) 47)).alloc (.cells (words 32 fun _ => 0#32) 47)).alloc (.cells (words 32 fun _ => 0#32) 47)) (w.heap.size + 2) 47 (words 32 fun _ => 0#32) := by
    have := Blk.new ((w.alloc (.cells (words 32 (grid (its n))) 47)).alloc (.cells (words 32 fun _ => 0#32) 47)) 47 (words 32 fun _ => 0#32)
    simpa using this
  have hg0 : Gr w (((w.alloc (.cells (words 32 (grid (its n))) 47)).alloc (.cells (words 32 fun _ => 0#32) 47)).alloc (.cells (words 32 fun _ => 0#32) 47)) := (((Gr.refl w).alloc (Nat.le_refl _) _).alloc (by simp) _).alloc (by simp; omega) _
  have hx1 := hx0
  rw [words32_zero] at hx1
  have HX0 := Lib.hid hx0
  have HX1 := Lib.hid hx1
  have HA0 := Lib.hid ha0
  have HB0 := Lib.hid hb0
  have HG0 := Lib.hid hg0
  clear hx0 ha0 hb0 hg0 hx1
  have HS : Hid (∀ f, (Try.prog.info? 47).map (·.size) = some (words 32 f).size) := Lib.hid fun f => by rw [words_size]; exact sz_grid
  have HI := Lib.hid (fun i (hi : i < 32) => ix_grid (grid (its n)) i hi)
  go_enter Try.func22, Try.ntmps22
  go_wp2_with (refine wpList_load_row rfl 47 _ rfl _ rfl _ _ _ _ HX1.out Try.underlying47 rfl (HS.out _) ?_)
  rw [← words32_zero]
  have hx := HX0.out
  have ha := HA0.out
  have hb := HB0.out
  have hg := HG0.out
  clear HX0 HX1 HA0 HB0 HG0
  generalize (((w.alloc (.cells (words 32 (grid (its n))) 47)).alloc (.cells (words 32 fun _ => 0#32) 47)).alloc (.cells (words 32 fun _ => 0#32) 47)) = w0 at *
  have HX0 := Lib.hid hx
  have HA0 := Lib.hid ha
  have HB0 := Lib.hid hb
  have HG0 := Lib.hid hg
  clear hx ha hb hg
  go_loopw [7] (fun i wr => ∃ k : Nat, ∃ f : Nat → W, k ≤ 32 ∧ i = .int .i64 k ∧ Blk wr w.heap.size 47 (words 32 (grid (its n))) ∧ Blk wr (w.heap.size + 2) 47 (words 32 f) ∧ Blk wr (w.heap.size + 1) 47 (words 32 fun _ => 0#32) ∧ Gr w wr ∧ ∀ j, j < k → f j = grid (its (n + n)) j) (fun i _ => 32 - (intOf i).toNat)
  case atStart => exact ⟨0, _, Nat.zero_le _, rfl, HX0.out, HB0.out, HA0.out, HG0.out, fun j h => by omega⟩
  case round =>
    clear HX0 HB0 HA0 HG0
    obtain ⟨k, f, hk, rfl, hx, hb, ha, hg, hf⟩ := hrel
    have HX := Lib.hid hx
    have HB := Lib.hid hb
    have HA := Lib.hid ha
    have HG := Lib.hid hg
    have HF := Lib.hid hf
    clear hx hb ha hg hf
    by_cases hlt : k < 32
    · have ix := HI.out k hlt
      go_wp2_with (refine wpList_load_row rfl 47 _ rfl _ rfl _ _ _ _ HX.out Try.underlying47 rfl (HS.out _) ?_)
      refine (times_any _ _ _).mono ?_
      rintro e w1 ⟨rfl, g1⟩
      have HB1 := Lib.hid (HB.out.below g1 HB.out.lt)
      have HX1 := Lib.hid (HX.out.below g1 HX.out.lt)
      have HA1 := Lib.hid (HA.out.below g1 HA.out.lt)
      have HG1 := Lib.hid (HG.out.trans g1)
      clear g1
      have hcell := (HB1.out.cell k).trans (words_get f hlt)
      have hfr := HB1.out.frozen k
      go_wp2
      go_roundw
      case rel =>
        refine ⟨k + 1, put f k (its n (grid (its n) k)), by omega, by go_num, HX1.out.far (by simp; omega) _, ?_, HA1.out.far (by simp) _, HG1.out.setCell (by simp; omega) _, ?_⟩
        · rw [← words_put]; exact HB1.out.set _ _
        · intro j hj
          unfold put
          split
          · rename_i e; subst e; exact (its_add n n _).symm
          · exact HF.out j (by omega)
      case measure => simp [intOf]; omega
    · obtain rfl : k = 32 := by omega
      have HE := Lib.hid (words_congr (n := 32) HF.out)
      go_wp2_with (first | (refine wpList_load_row rfl 47 _ rfl _ rfl _ _ _ _ HB.out Try.underlying47 rfl (HS.out _) ?_) | (refine wpList_store_row rfl 47 _ _ rfl _ _ rfl rfl _ _ HA.out (HS.out _) (by rw [words_size, words_size]) (words_one _ _) ?_))
      exact bodyPost_ret (v := .agg (words 32 f)) (results_cell_row rfl _ _ _ _ _ _ _ rfl (HA.out.row (words 32 f)) Try.underlying47 rfl (HS.out _)) rfl ⟨by rw [HE.out], below_setRow HG.out (by omega) _⟩

theorem and_one (m : Nat) (h : m < 9223372036854775808) : bits .and .i64 (m : Int) 1 = ((m % 2 : Nat) : Int) := by
  have hx : m &&& 1 < 2 ^ 63 := Nat.and_lt_two_pow _ (by omega)
  show IntKind.i64.wrap ((BitVec.ofInt 64 (m : Int) &&& BitVec.ofInt 64 ((1 : Nat) : Int)).toNat : Int) = _
  have h2 : (BitVec.ofInt 64 ((m : Nat) : Int)).toNat = m := by rw [BitVec.ofInt_natCast, BitVec.toNat_ofNat]; exact Nat.mod_eq_of_lt (by omega)
  have h3 : (BitVec.ofInt 64 ((1 : Nat) : Int)).toNat = 1 := rfl
  rw [BitVec.toNat_and, h2, h3, Nat.and_one_is_mod, IntKind.wrap_i64]
  omega

set_option maxRecDepth 100000 in
theorem zeros_any (s : W) (n : Nat) (w : World) (hn : n ≤ 2000000) : Calls Try.prog 18 #[.int .u32 (U s), .int .i64 n] w fun e w' => e = .returned (.int .u32 (U (its (8 * n) s))) ∧ Gr w w' := by
  have HS : Hid (∀ f, (Try.prog.info? 47).map (·.size) = some (words 32 f).size) := Lib.hid fun f => by rw [words_size]; exact sz_grid
  go_enter Try.func18, Try.ntmps18
  go_wp2_with fail
  refine (bit_any _).mono ?_
  rintro e w1 ⟨rfl, g1⟩
  have ha := Blk.new w1 47 (words 32 fun _ => 0#32)
  have hg := g1.alloc g1.size (.cells (words 32 fun _ => 0#32) 47)
  have hg2 := below_setRow hg (show w.heap.size ≤ w1.heap.size from g1.size) (words 32 (grid (its 1)))
  have hb := ha.row (words 32 (grid (its 1)))
  have HC := Lib.hid (show (words 32 fun _ => 0#32).size = (words 32 (grid (its 1))).size by rw [words_size, words_size])
  have HZ := Lib.hid (show w.heap.size ≤ w1.heap.size from g1.size)
  have hl := ha
  rw [words32_zero] at hl hg2 hb HC
  have HA := Lib.hid hl
  have HB := Lib.hid hb
  have HG := Lib.hid hg2
  clear ha hg hl hg2 hb g1
  go_wp2_with (refine wpList_store_row rfl 47 _ _ rfl _ _ rfl rfl _ _ HA.out (HS.out _) HC.out (words_one _ _) ?_)
  have hb := HB.out
  have hg := HG.out
  clear HA HB HG HC
  rw [← words32_zero] at *
  have hz := HZ.out
  clear HZ
  obtain ⟨b, hbz⟩ : ∃ b, b = w1.heap.size := ⟨_, rfl⟩
  generalize (w1.alloc (.cells (words 32 fun _ => 0#32) 47)).setRow w1.heap.size (words 32 (grid (its 1))) = w0 at *
  rw [← hbz] at hz hb ⊢
  have HZ := Lib.hid hz
  clear hz
  have HB := Lib.hid hb
  have HG := Lib.hid hg
  clear hb hg hbz
  go_loopw [0, 6] (fun v m wr => ∃ (m' q : Nat) (s' : W), m' ≤ 16000000 ∧ m = .int .i64 m' ∧ v = .int .u32 (U s') ∧ Blk wr b 47 (words 32 (grid (its q))) ∧ Gr w wr ∧ its (q * m') s' = its (8 * n) s) (fun _ m _ => (intOf m).toNat)
  case atStart => exact ⟨8 * n, 1, s, by omega, by go_num, rfl, HB.out, HG.out, by rw [Nat.one_mul]⟩
  case round =>
    clear HB HG
    obtain ⟨m, q, s', hm, rfl, rfl, hb, hg, he⟩ := hrel
    have HB := Lib.hid hb
    have HG := Lib.hid hg
    have HE := Lib.hid he
    clear hb hg he
    by_cases hpos : 0 < m
    · have HO := Lib.hid (and_one m (by omega))
      by_cases hodd : m % 2 = 1
      · have ht : (bits .and .i64 (m : Int) 1 == 1) = true := by rw [HO.out, hodd]; rfl
        have HE1 : Hid (its ((q + q) * (m / 2)) (its q s') = its (8 * n) s) := Lib.hid (by rw [← HE.out, ← its_add]; congr 1; rw [← Nat.two_mul, Nat.mul_comm 2 q, Nat.mul_assoc]; conv => rhs; rw [show m = 1 + 2 * (m / 2) by omega, Nat.mul_add, Nat.mul_one])
        have HM := Lib.hid hodd
        clear hodd
        go_wp2_with (refine wpList_load_row rfl 47 _ rfl _ rfl _ _ _ _ HB.out Try.underlying47 rfl (HS.out _) ?_)
        refine (times_any _ _ _).mono ?_
        rintro e w2 ⟨rfl, g2⟩
        have HB2 := Lib.hid (HB.out.below g2 HB.out.lt)
        have HG2 := Lib.hid (HG.out.trans g2)
        clear g2
        go_wp2_with (refine wpList_load_row rfl 47 _ rfl _ rfl _ _ _ _ HB2.out Try.underlying47 rfl (HS.out _) ?_)
        refine (square_any _ _).mono ?_
        rintro e w3 ⟨rfl, g3⟩
        have HB3 := Lib.hid (HB2.out.below g3 HB2.out.lt)
        have HG3 := Lib.hid (HG2.out.trans g3)
        clear g3
        have HC := Lib.hid (show (words 32 (grid (its q))).size = (words 32 (grid (its (q + q)))).size by rw [words_size, words_size])
        go_wp2_with (refine wpList_store_row rfl 47 _ _ rfl _ _ rfl rfl _ _ HB3.out (HS.out _) HC.out (words_one _ _) ?_)
        go_roundw
        case rel =>
         exact ⟨m / 2, q + q, its q s', by omega, by go_num, rfl, HB3.out.row _, below_setRow HG3.out HZ.out _, HE1.out⟩
        case measure => simp [intOf]; omega
      · have ht : (bits .and .i64 (m : Int) 1 == 1) = false := by rw [HO.out, show m % 2 = 0 by omega]; rfl
        have HE1 : Hid (its ((q + q) * (m / 2)) s' = its (8 * n) s) := Lib.hid (by rw [← HE.out]; congr 1; rw [← Nat.two_mul, Nat.mul_comm 2 q, Nat.mul_assoc]; congr 1; omega)
        have HM := Lib.hid hodd
        clear hodd
        go_wp2_with (refine wpList_load_row rfl 47 _ rfl _ rfl _ _ _ _ HB.out Try.underlying47 rfl (HS.out _) ?_)
        refine (square_any _ _).mono ?_
        rintro e w3 ⟨rfl, g3⟩
        have HB3 := Lib.hid (HB.out.below g3 HB.out.lt)
        have HG3 := Lib.hid (HG.out.trans g3)
        clear g3
        have HC := Lib.hid (show (words 32 (grid (its q))).size = (words 32 (grid (its (q + q)))).size by rw [words_size, words_size])
        go_wp2_with (refine wpList_store_row rfl 47 _ _ rfl _ _ rfl rfl _ _ HB3.out (HS.out _) HC.out (words_one _ _) ?_)
        go_roundw
        case rel => exact ⟨m / 2, q + q, s', by omega, by go_num, rfl, HB3.out.row _, below_setRow HG3.out HZ.out _, HE1.out⟩
        case measure => simp [intOf]; omega
    · obtain rfl : m = 0 := by omega
      go_wp2
      go_ret
      exact ⟨ret_i (by rw [← HE.out]; rfl), HG.out⟩

end Go.Proofs.Ytmmhfjcaejkmiaa
