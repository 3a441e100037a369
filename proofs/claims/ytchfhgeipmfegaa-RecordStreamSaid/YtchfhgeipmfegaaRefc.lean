
import Derived.Test.YtchfhgeipmfegaaCrc4
namespace Go.Proofs.Ytchfhgeipmfegaa
open Go.RowKit Cr

set_option maxRecDepth 100000 in
theorem turned_any (s : W) (w : World) : Calls Try.prog 88 #[.int .u32 (U s)] w fun e w' => e = .returned (.int .u32 (U s.reverse)) ∧ w = w' := by
  have h0 : U s = ((s.toNat / 2 ^ 0 : Nat) : Int) := by simp [U]
  have HR := Lib.hid (trn_rev s)
  have HL := Lib.hid s.isLt
  rw [h0]
  clear h0
  obtain ⟨x, hx⟩ : ∃ x, x = s.toNat := ⟨_, rfl⟩
  rw [← hx] at HR HL ⊢
  clear hx
  go_enter Try.func88, Try.ntmps88
  go_wp2
  go_loop [0, 3, 4] (fun v o i => ∃ k : Nat, k ≤ 32 ∧ i = .int .i64 k ∧ v = .int .u32 ((x / 2 ^ k : Nat) : Int) ∧ o = .int .u32 ((trn x k : Nat) : Int)) (fun _ _ i => 32 - (intOf i).toNat)
  case atStart => exact ⟨0, Nat.zero_le _, rfl, by simp, rfl⟩
  case round =>
    obtain ⟨k, hk, rfl, rfl, rfl⟩ := hrel
    by_cases hlt : k < 32
    · have hT := trn_lt x k
      have hp : 2 ^ k ≤ 2 ^ 31 := Nat.pow_le_pow_right (by omega) (by omega)
      have HD : Hid (x / 2 ^ k / 2 = x / 2 ^ (k + 1)) := Lib.hid (by rw [Nat.pow_succ, Nat.div_div_eq_div_mul])
      have HT : Hid (trn x (k + 1) = 2 * trn x k + x / 2 ^ k % 2) := Lib.hid rfl
      have hm : x / 2 ^ k ≤ 4294967295 := Nat.le_trans (Nat.div_le_self _ _) (by have := HL.out; omega)
      have ho : trn x k ≤ 2147483647 := by omega
      clear hT hp
      obtain ⟨m, hmm⟩ : ∃ m, m = x / 2 ^ k := ⟨_, rfl⟩
      obtain ⟨o, hoo⟩ : ∃ o, o = trn x k := ⟨_, rfl⟩
      rw [← hmm] at HD HT hm ⊢
      rw [← hoo] at HT ho ⊢
      clear hmm hoo
      go_wp2
      go_round
      case rel => exact ⟨k + 1, by omega, by go_num, by rw [← HD.out]; go_num, by rw [HT.out]; go_num⟩
      case measure => simp [intOf]; omega
    · obtain rfl : k = 32 := by omega
      go_wp2
      go_ret
      exact ⟨ret_i HR.out, rfl⟩

theorem U_top (l : W) (c : Nat) (hc : c < 2) : (Int.ediv (U l) 2147483648 + (c : Int) == 1) = ((l.getLsbD 31).xor (decide (c % 2 = 1))) := by
  have h : (l >>> 31) = if l.getLsbD 31 then 1#32 else 0#32 := by
    apply BitVec.eq_of_getLsbD_eq
    intro i hi
    cases i with
    | zero => cases h : l.getLsbD 31 <;> simp only [BitVec.getLsbD_ushiftRight, Nat.add_zero, h, if_true, Bool.false_eq_true, if_false] <;> rfl
    | succ j => cases h : l.getLsbD 31 <;> simp [BitVec.getLsbD_of_ge l (31 + (j + 1)) (by omega)]
  have e : Int.ediv (U l) 2147483648 = U (l >>> 31) := U_shr l 31
  rw [e, h]
  have : c = 0 ∨ c = 1 := by omega
  rcases this with rfl | rfl <;> cases l.getLsbD 31 <;> rfl
theorem U_topw (l : W) (X k : Nat) : ((U l / 2147483648 + (X : Int) / 2 ^ k % 2) % 4294967296 == 1) = ((l.getLsbD 31).xor (decide (X / 2 ^ k % 2 % 2 = 1))) := by
  rw [← U_top l (X / 2 ^ k % 2) (Nat.mod_lt _ (by omega))]
  have e1 : (X : Int) / 2 ^ k % 2 = ((X / 2 ^ k % 2 : Nat) : Int) := by
    rw [Int.natCast_emod, Int.natCast_ediv, Int.natCast_pow]; rfl
  have h1 := U_lo l
  have h2 := U_hi l
  rw [e1]
  show ((U l / 2147483648 + ((X / 2 ^ k % 2 : Nat) : Int)) % 4294967296 == 1) = (U l / 2147483648 + ((X / 2 ^ k % 2 : Nat) : Int) == 1)
  have h3 : (U l / 2147483648 + ((X / 2 ^ k % 2 : Nat) : Int)) % 4294967296 = U l / 2147483648 + ((X / 2 ^ k % 2 : Nat) : Int) := by omega
  rw [h3]
theorem U_dbl (l : W) : U l * (2 : Int) % (4294967296 : Int) = U (l <<< 1) := by
  unfold U
  rw [BitVec.toNat_shiftLeft, Nat.shiftLeft_eq]
  omega
theorem out_yes (l : W) (c : Nat) (h : ((l.getLsbD 31).xor (decide (c % 2 = 1))) = true) : bits BinOp.xor IntKind.u32 (U l * 2 % 4294967296) 517762881 = U (out1 l c) := by
  rw [U_dbl, show (517762881 : Int) = U divi from rfl, U_xor]
  unfold out1
  rw [h]
  rfl
theorem out_no (l : W) (c : Nat) (h : ((l.getLsbD 31).xor (decide (c % 2 = 1))) = false) : U l * 2 % 4294967296 = U (out1 l c) := by
  rw [U_dbl]
  unfold out1
  rw [h]
  simp

set_option maxRecDepth 100000 in
set_option maxHeartbeats 400000 in
theorem rest_any (l : W) (p : Option Addr) (n c : Nat) (xs : List Int) (w : World) (h : Byt w p n c xs) : Calls Try.prog 89 #[.int .u32 (U l), .slice p n c] w fun e w' => e = .returned (.int .u32 (U (rest l xs))) ∧ w = w' := by
  have HLen := Lib.hid h.len
  have hn63 : n ≤ 9223372036854775807 := by have := h.cap; have := h.most; unfold maxLen at this; omega
  have HH := Lib.hid h
  clear h
  go_enter Try.func89, Try.ntmps89
  go_wp2
  go_loop [0, 5] (fun v i => ∃ j : Nat, j ≤ n ∧ i = .int .i64 j ∧ v = .int .u32 (U (rest l (xs.take j)))) (fun _ i => n - (intOf i).toNat)
  case atStart => exact ⟨0, Nat.zero_le _, rfl, rfl⟩
  case round =>
    obtain ⟨j, hj, rfl, rfl⟩ := hrel
    by_cases hjl : j < n
    · obtain ⟨b2, o2, rfl, hc2⟩ := HH.out.at (by omega)
      have hbyte := hc2 j hjl
      obtain ⟨x0, x1⟩ := HH.out.small.getD j
      have HP := Lib.hid (rest_take l xs j (by rw [HLen.out]; exact hjl))
      clear hc2
      obtain ⟨x, hx⟩ : ∃ x, x = xs.getD j 0 := ⟨_, rfl⟩
      rw [← hx] at HP hbyte x0 x1
      clear hx
      obtain ⟨X, rfl⟩ := Int.eq_ofNat_of_zero_le x0
      rw [Int.toNat_natCast] at HP
      obtain ⟨T, hT⟩ : ∃ T, T = rest l (xs.take j) := ⟨_, rfl⟩
      rw [← hT] at HP ⊢
      clear hT x0
      go_wp2
      go_loop [0, 6] (fun v i => ∃ k : Nat, k ≤ 8 ∧ i = .int .i64 k ∧ v = .int .u32 (U (outs T X k))) (fun _ i => 8 - (intOf i).toNat)
      case atStart => exact ⟨0, Nat.zero_le _, rfl, rfl⟩
      case round =>
        obtain ⟨k, hk, rfl, rfl⟩ := hrel
        by_cases hkl : k < 8
        · have HS : Hid (outs T X (k + 1) = out1 (outs T X k) (X / 2 ^ k % 2)) := Lib.hid rfl
          obtain ⟨R, hR⟩ : ∃ R, R = outs T X k := ⟨_, rfl⟩
          rw [← hR] at HS ⊢
          clear hR
          have hT := U_topw R X k
          by_cases hb : ((R.getLsbD 31).xor (decide (X / 2 ^ k % 2 % 2 = 1))) = true
          · have HV := Lib.hid (out_yes R _ hb)
            rw [hb] at hT
            have HB := Lib.hid hb
            clear hb
            go_wp2
            go_round
            case rel => exact ⟨k + 1, by omega, by go_num, ret_v (by rw [HV.out, HS.out])⟩
            case measure => simp [intOf]; omega
          · have hb : ((R.getLsbD 31).xor (decide (X / 2 ^ k % 2 % 2 = 1))) = false := by simpa using hb
            have HV := Lib.hid (out_no R _ hb)
            rw [hb] at hT
            have HB := Lib.hid hb
            clear hb
            go_wp2
            go_round
            case rel => exact ⟨k + 1, by omega, by go_num, ret_v (by rw [HV.out, HS.out])⟩
            case measure => simp [intOf]; omega
        · obtain rfl : k = 8 := by omega
          go_wp2
          go_round
          case rel => exact ⟨j + 1, by omega, by go_num, ret_v (by rw [HP.out])⟩
          case measure => simp [intOf]; omega
    · obtain rfl : j = n := by omega
      have HE : Hid (rest l (xs.take j) = rest l xs) := Lib.hid (by rw [List.take_of_length_le (by rw [HLen.out]; exact Nat.le_refl _)])
      go_wp2
      go_ret
      exact ⟨ret_i (by rw [HE.out]), rfl⟩

/-- The document's sum is the program's. -/
theorem sum_said (xs : List Int) (h : Wd.Small xs) : 4294967295 - U (rest ones xs).reverse = U (sumW xs) := by
  have e : ones.reverse = ones := by
    apply BitVec.eq_of_getLsbD_eq
    intro i hi
    rw [BitVec.getLsbD_reverse, BitVec.getMsbD_eq_getLsbD]
    have : ∀ j : Fin 32, ones.getLsbD j.val = true := by decide
    rw [this ⟨i, hi⟩, this ⟨32 - 1 - i, by omega⟩]
    simp [hi]
  rw [rev_rest xs ones h, e]
  exact (U_not _).symm

set_option maxRecDepth 100000 in
theorem refSum_any (p : Option Addr) (n c : Nat) (xs : List Int) (w : World) (h : Byt w p n c xs) : Calls Try.prog 73 #[.slice p n c] w fun e w' => e = .returned (.int .u32 (U (sumW xs))) ∧ w = w' := by
  have HH := Lib.hid h
  have HS := Lib.hid (sum_said xs h.small)
  clear h
  have HO := rest_any ones p n c xs
  rw [U_ones] at HO
  have HO2 := Lib.hid HO
  clear HO
  have HX : Hid (∀ s : W, 0 ≤ U s ∧ U s < 4294967296) := Lib.hid fun s => ⟨U_lo s, U_hi s⟩
  go_enter Try.func73, Try.ntmps73
  go_wp2_with fail
  refine (HO2.out _ HH.out).mono ?_
  rintro e w' ⟨rfl, rfl⟩
  go_wp2_with fail
  refine (turned_any _ _).mono ?_
  rintro e w' ⟨rfl, rfl⟩
  obtain ⟨r, hr⟩ : ∃ r, r = U (rest ones xs).reverse := ⟨_, rfl⟩
  obtain ⟨r0, r1⟩ := HX.out (rest ones xs).reverse
  rw [← hr] at HS r0 r1 ⊢
  clear hr
  go_wp2
  go_ret
  exact ⟨ret_i HS.out, rfl⟩

end Go.Proofs.Ytchfhgeipmfegaa
