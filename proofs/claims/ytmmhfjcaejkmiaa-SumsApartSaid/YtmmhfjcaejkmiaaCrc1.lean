import Derived.Test.YtmmhfjcaejkmiaaTypes
import Derived.Deep.RegionLaw
namespace Go.Proofs.Ytmmhfjcaejkmiaa
open Go.RowKit Cr

/-- The step, in the walk's own words. -/
theorem nought_spell (s : W) : bits BinOp.xor IntKind.u32 (U s / 2) (bits BinOp.and IntKind.u32 (-bits BinOp.and IntKind.u32 (U s) 1 % 4294967296) 2197175160) = U (nought s) := by
  have h2 : (2197175160 : Int) = U poly := rfl
  rw [U_bit, h2]
  show bits BinOp.xor IntKind.u32 (Int.ediv (U s) 2) _ = _
  rw [U_half]
  unfold nought
  cases s.getLsbD 0
  · simp only [Bool.false_eq_true, if_false]
    rw [show (-(0 : Int) % 4294967296) = U 0#32 from rfl, U_and, U_xor, BitVec.zero_and]
  · simp only [if_true]
    rw [show (-(1 : Int) % 4294967296) = U (~~~0#32) from rfl, U_and, U_xor, show (~~~0#32) = BitVec.allOnes 32 from rfl, BitVec.allOnes_and]

set_option maxRecDepth 100000 in
theorem nought_any (s : W) (w : World) : Calls Try.prog 23 #[.int .u32 (U s)] w fun e w' => e = .returned (.int .u32 (U (nought s))) ∧ w = w' := by
  have h0 := U_lo s
  have h1 := U_hi s
  go_enter Try.func23, Try.ntmps23
  go_wp2
  go_ret
  exact ⟨ret_i (nought_spell s), rfl⟩

theorem words32_zero : words 32 (fun _ => 0#32) = #[.int .u32 0, .int .u32 0, .int .u32 0, .int .u32 0, .int .u32 0, .int .u32 0, .int .u32 0, .int .u32 0, .int .u32 0, .int .u32 0, .int .u32 0, .int .u32 0, .int .u32 0, .int .u32 0, .int .u32 0, .int .u32 0, .int .u32 0, .int .u32 0, .int .u32 0, .int .u32 0, .int .u32 0, .int .u32 0, .int .u32 0, .int .u32 0, .int .u32 0, .int .u32 0, .int .u32 0, .int .u32 0, .int .u32 0, .int .u32 0, .int .u32 0, .int .u32 0] := rfl

/-- One bit's word, in the walk's own words. -/
theorem times_spell (f : Nat → W) (s : W) (k : Nat) : bits BinOp.xor IntKind.u32 (U (mix f s k)) (bits BinOp.and IntKind.u32 (U (f k)) (-bits BinOp.and IntKind.u32 (U (s >>> k)) 1 % 4294967296)) = U (mix f s (k + 1)) := by
  have h0 : (s >>> k).getLsbD 0 = s.getLsbD k := by simp
  rw [U_bit, h0, show mix f s (k + 1) = mix f s k ^^^ (if s.getLsbD k then f k else 0#32) from rfl]
  cases s.getLsbD k
  · simp only [Bool.false_eq_true, if_false]
    rw [show (-(0 : Int) % 4294967296) = U 0#32 from rfl, U_and, U_xor, BitVec.and_zero]
  · simp only [if_true]
    rw [show (-(1 : Int) % 4294967296) = U (~~~0#32) from rfl, U_and, U_xor, show (~~~0#32) = BitVec.allOnes 32 from rfl, BitVec.and_allOnes]

set_option maxRecDepth 100000 in
theorem times_gen (f : Nat → W) (s : W) (w : World) : Calls Try.prog 21 #[.agg (words 32 f), .int .u32 (U s)] w fun e w' => e = .returned (.int .u32 (U (mix f s 32))) ∧ Gr w w' := by
  have HB := Lib.hid (Blk.new w 47 (words 32 f))
  have HS := Lib.hid (show (Try.prog.info? 47).map (·.size) = some (words 32 f).size by rw [words_size]; exact sz_grid)
  have HG := Lib.hid (show Gr w (w.alloc (.cells (words 32 f) 47)) from Below.alloc (Gr.refl w) (Nat.le_refl _) _)
  have HX := Lib.hid (fun i (hi : i < 32) => ix_grid f i hi)
  go_enter Try.func21, Try.ntmps21
  go_wp2_with (refine wpList_load_row rfl 47 _ rfl _ rfl _ _ _ _ HB.out Try.underlying47 rfl HS.out ?_)
  go_loop [1, 5, 9] (fun a t i => ∃ k : Nat, k ≤ 32 ∧ i = .int .i64 k ∧ t = .int .u32 (U (mix f s k)) ∧ a = .int .u32 (U (s >>> k))) (fun _ _ i => 32 - (intOf i).toNat)
  case atStart => exact ⟨0, Nat.zero_le _, rfl, rfl, by rw [BitVec.ushiftRight_zero]⟩
  case round =>
    obtain ⟨k, hk, rfl, rfl, rfl⟩ := hrel
    by_cases hlt : k < 32
    · have ix := HX.out k hlt
      go_wp2
      go_round
      case rel => exact ⟨k + 1, by omega, by go_num, ret_v (times_spell f s k), ret_v (by rw [BitVec.shiftRight_add]; exact U_half _)⟩
      case measure => simp [intOf]; omega
    · obtain rfl : k = 32 := by omega
      go_wp2
      go_ret
      exact ⟨rfl, HG.out⟩

theorem times_any (n : Nat) (s : W) (w : World) : Calls Try.prog 21 #[.agg (words 32 (grid (its n))), .int .u32 (U s)] w fun e w' => e = .returned (.int .u32 (U (its n s))) ∧ Gr w w' :=
  (times_gen (grid (its n)) s w).mono fun _ _ ⟨h, g⟩ => ⟨by rw [h, mix_all], g⟩

set_option maxRecDepth 100000 in
theorem bit_any (w : World) : Calls Try.prog 20 #[] w fun e w' => e = .returned (.agg (words 32 (grid (its 1)))) ∧ Gr w w' := by
  go_enter Try.func20, Try.ntmps20
  go_wp2
  rw [← words32_zero]
  have hb0 : Blk ((w.alloc (.cells (words 32 fun _ => 0#32) 47)).alloc (.cells (words 32 fun _ => 0#32) 47)) (w.heap.size + 1) 47 (words 32 fun _ => 0#32) := by
    have := Blk.new (w.alloc (.cells (words 32 fun _ => 0#32) 47)) 47 (words 32 fun _ => 0#32)
    simpa using this
  have ha0 : Blk ((w.alloc (.cells (words 32 fun _ => 0#32) 47)).alloc (.cells (words 32 fun _ => 0#32) 47)) w.heap.size 47 (words 32 fun _ => 0#32) := (Blk.new w 47 (words 32 fun _ => 0#32)).alloc _
  have hg0 : Gr w ((w.alloc (.cells (words 32 fun _ => 0#32) 47)).alloc (.cells (words 32 fun _ => 0#32) 47)) := ((Gr.refl w).alloc (Nat.le_refl _) _).alloc (by simp) _
  generalize ((w.alloc (.cells (words 32 fun _ => 0#32) 47)).alloc (.cells (words 32 fun _ => 0#32) 47)) = w0 at *
  have HB0 := Lib.hid hb0
  have HA0 := Lib.hid ha0
  have HG0 := Lib.hid hg0
  clear hb0 ha0 hg0
  go_loopw [3] (fun i wr => ∃ k : Nat, ∃ f : Nat → W, k ≤ 32 ∧ i = .int .i64 k ∧ Blk wr (w.heap.size + 1) 47 (words 32 f) ∧ Blk wr w.heap.size 47 (words 32 fun _ => 0#32) ∧ Gr w wr ∧ ∀ j, j < k → f j = grid (its 1) j) (fun i _ => 32 - (intOf i).toNat)
  case atStart => exact ⟨0, _, Nat.zero_le _, rfl, HB0.out, HA0.out, HG0.out, fun j h => by omega⟩
  case round =>
    clear HB0 HA0 HG0
    obtain ⟨k, f, hk, rfl, hb, ha, hg, hf⟩ := hrel
    have HB := Lib.hid hb
    have HA := Lib.hid ha
    have HG := Lib.hid hg
    have HF := Lib.hid hf
    clear hb ha hg hf
    by_cases hlt : k < 32
    · have hcell := (HB.out.cell k).trans (words_get f hlt)
      have hfr := HB.out.frozen k
      have HU := Lib.hid (U_bitw k hlt)
      have HW := Lib.hid (nought_spell (bitw k))
      go_wp2
      go_roundw
      case rel =>
        refine ⟨k + 1, put f k (nought (bitw k)), by omega, by go_num, ?_, ?_, ?_, ?_⟩
        · rw [← words_put, ← HW.out, ← HU.out]; exact HB.out.set _ _
        · exact HA.out.far (by simp) _
        · exact HG.out.setCell (by simp) _
        · intro j hj
          unfold put
          split
          · rename_i e; subst e; rfl
          · exact HF.out j (by omega)
      case measure => simp [intOf]; omega
    · obtain rfl : k = 32 := by omega
      have HE := Lib.hid (words_congr (n := 32) HF.out)
      have HS := Lib.hid (show (Try.prog.info? 47).map (·.size) = some (words 32 f).size by rw [words_size]; exact sz_grid)
      go_wp2_with (first | (refine wpList_load_row rfl 47 _ rfl _ rfl _ _ _ _ HB.out Try.underlying47 rfl HS.out ?_) | (refine wpList_store_row rfl 47 _ _ rfl _ _ rfl rfl _ _ HA.out HS.out (by rw [words_size, words_size]) (words_one _ _) ?_))
      exact bodyPost_ret (v := .agg (words 32 f)) (results_cell_row rfl _ _ _ _ _ _ _ rfl (HA.out.row (words 32 f)) Try.underlying47 rfl HS.out) rfl ⟨by rw [HE.out], below_setRow HG.out (Nat.le_refl _) _⟩

end Go.Proofs.Ytmmhfjcaejkmiaa
