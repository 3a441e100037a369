
/-
  The sums' mathematics, second part: the document's way (the highest bit first) is the program's (the lowest first); the table of half bytes; grids; words as numbers.
-/
import Derived.Test.YtchfhgeipmfegaaSums
import Derived.Laws.BitsAllLaws
import Derived.IntWalk
namespace Go.Proofs.Ytchfhgeipmfegaa
namespace Cr

/-- A word as the number that a slot holds. -/
def U (s : W) : Int := (s.toNat : Int)
theorem U_lo (s : W) : 0 ≤ U s := by unfold U; omega
theorem U_hi (s : W) : U s < 4294967296 := by unfold U; have := s.isLt; omega
theorem U_inj {a b : W} (h : U a = U b) : a = b := BitVec.eq_of_toNat_eq (by unfold U at h; omega)
theorem U_iff {a b : W} : U a = U b ↔ a = b := ⟨U_inj, fun h => by rw [h]⟩
theorem U_lit (n : Nat) (h : n < 4294967296) : U (BitVec.ofNat 32 n) = (n : Int) := by unfold U; simp; omega
theorem U_of (x : Int) (h0 : 0 ≤ x) (h : x < 4294967296) : U (BitVec.ofNat 32 x.toNat) = x := by rw [U_lit _ (by omega)]; omega
theorem U_zero : U 0#32 = 0 := rfl
theorem U_all : U (~~~0#32) = 4294967295 := rfl
theorem U_not (s : W) : U (~~~s) = 4294967295 - U s := by unfold U; rw [BitVec.toNat_not]; have := s.isLt; omega
theorem U_xor (a b : W) : bits .xor .u32 (U a) (U b) = U (a ^^^ b) := by
  unfold U; rw [u32_xor_nat _ _ a.isLt b.isLt, BitVec.toNat_xor]
theorem U_and (a b : W) : bits .and .u32 (U a) (U b) = U (a &&& b) := by
  unfold U; rw [u32_and_nat _ _ a.isLt b.isLt, BitVec.toNat_and]
theorem U_shr (a : W) (k : Nat) : U a / ((2 ^ k : Nat) : Int) = U (a >>> k) := by
  unfold U; rw [BitVec.toNat_ushiftRight, Nat.shiftRight_eq_div_pow]; simp

theorem U_half (a : W) : Int.ediv (U a) (2 : Int) = U (a >>> 1) := U_shr a 1
theorem U_half4 (a : W) : Int.ediv (U a) (16 : Int) = U (a >>> 4) := U_shr a 4
/-- One bit. -/
def bitw (k : Nat) : W := 1#32 <<< k
theorem U_bitw (k : Nat) (h : k < 32) : (2 : Int) ^ k % 4294967296 = U (bitw k) := by
  have hp : 2 ^ k < 2 ^ 32 := Nat.pow_lt_pow_right (by omega) h
  have e : (bitw k).toNat = 2 ^ k := by
    unfold bitw
    rw [BitVec.toNat_shiftLeft, Nat.shiftLeft_eq]
    simp only [BitVec.toNat_ofNat]
    omega
  have e2 : (2 : Int) ^ k = ((2 ^ k : Nat) : Int) := by rw [Int.natCast_pow]; rfl
  unfold U
  rw [e, e2]
  omega
/-- The lowest bit, as a number. -/
theorem U_bit (a : W) : bits .and .u32 (U a) 1 = if a.getLsbD 0 then 1 else 0 := by
  have e : (1 : Int) = U 1#32 := rfl
  rw [e, U_and]
  have h : a &&& 1#32 = if a.getLsbD 0 then 1#32 else 0#32 := by
    apply BitVec.eq_of_getLsbD_eq
    intro i hi
    cases i with
    | zero => cases h : a.getLsbD 0 <;> simp only [BitVec.getLsbD_and, h, if_true, Bool.false_eq_true, if_false] <;> rfl
    | succ j => cases h : a.getLsbD 0 <;> simp
  rw [h]
  cases a.getLsbD 0 <;> rfl

/-- The document's step: the highest bit goes out. -/
def out1 (l : W) (c : Nat) : W := (l <<< 1) ^^^ (if (l.getLsbD 31).xor (decide (c % 2 = 1)) then divi else 0#32)
set_option maxRecDepth 100000 in
theorem rev_poly : divi.reverse = poly := by decide
theorem rev_out1 (l : W) (c : Nat) (hc : c < 2) : (out1 l c).reverse = nought (l.reverse ^^^ BitVec.ofNat 32 c) := by
  have e1 : ((l <<< 1) ^^^ (if (l.getLsbD 31).xor (decide (c % 2 = 1)) then divi else 0#32)).reverse = (l.reverse >>> 1) ^^^ (if (l.getLsbD 31).xor (decide (c % 2 = 1)) then poly else 0#32) := by
    rw [← rev_poly]
    apply BitVec.eq_of_getLsbD_eq
    intro i hi
    simp only [BitVec.getLsbD_reverse, BitVec.getLsbD_xor, BitVec.getMsbD_xor, BitVec.getLsbD_ushiftRight]
    congr 1
    · simp only [BitVec.getMsbD_eq_getLsbD, BitVec.getLsbD_shiftLeft]
      by_cases h : i = 31
      · subst h; simp
      · have h1 : 1 + i < 32 := by omega
        have h2 : 32 - 1 - i ≠ 0 := by omega
        have h3 : 32 - 1 - i - 1 = 32 - 1 - (1 + i) := by omega
        simp [hi, h1, h2, h3]
        omega
    · cases (l.getLsbD 31 ^^ decide (c % 2 = 1))
      · simp
      · simp only [if_true, BitVec.getLsbD_reverse]
  show ((l <<< 1) ^^^ _).reverse = _
  rw [e1]
  unfold nought
  rw [BitVec.ushiftRight_xor_distrib]
  have e2 : BitVec.ofNat 32 c >>> 1 = 0#32 := by
    have : c = 0 ∨ c = 1 := by omega
    rcases this with rfl | rfl <;> decide
  have e3 : (l.reverse ^^^ BitVec.ofNat 32 c).getLsbD 0 = (l.getLsbD 31).xor (decide (c % 2 = 1)) := by
    rw [BitVec.getLsbD_xor, BitVec.getLsbD_reverse, BitVec.getMsbD_eq_getLsbD]
    have : c = 0 ∨ c = 1 := by omega
    rcases this with rfl | rfl <;> simp
  rw [e2, e3, BitVec.xor_zero]

/-- The document's step over the lowest bits of a byte. -/
def outs (l : W) (n : Nat) : Nat → W
  | 0 => l
  | k + 1 => out1 (outs l n k) (n / 2 ^ k % 2)
theorem rev_outs (l : W) (n : Nat) : ∀ k, (outs l n k).reverse = feed k l.reverse n
  | 0 => rfl
  | k + 1 => by rw [feed_snoc, ← rev_outs l n k]; exact rev_out1 _ _ (Nat.mod_lt _ (by omega))

/-- What is left of bytes. -/
def rest (l : W) (b : List Int) : W := b.foldl (fun s x => outs s x.toNat 8) l
theorem rest_snoc (l : W) (a : List Int) (x : Int) : rest l (a ++ [x]) = outs (rest l a) x.toNat 8 := by simp [rest]
theorem rest_take (s : W) (l : List Int) (k : Nat) (h : k < l.length) : rest s (l.take (k + 1)) = outs (rest s (l.take k)) (l.getD k 0).toNat 8 := by
  rw [List.take_succ_eq_append_getElem h, rest_snoc]; simp [List.getD, h]
theorem rev_rest : ∀ (b : List Int) (l : W), Wd.Small b → (rest l b).reverse = over l.reverse b
  | [], _, _ => rfl
  | x :: b, l, h => by
    show (rest (outs l x.toNat 8) b).reverse = _
    rw [rev_rest b _ h.tail, rev_outs, over_cons, byte_feed _ _ h.head]

/-- The bits the other way round, as the document's function makes them. -/
def trn (x : Nat) : Nat → Nat
  | 0 => 0
  | k + 1 => 2 * trn x k + x / 2 ^ k % 2
theorem trn_lt (x : Nat) : ∀ k, trn x k < 2 ^ k
  | 0 => by simp [trn]
  | k + 1 => by have := trn_lt x k; simp only [trn, Nat.pow_succ]; omega
theorem trn_bit (x : Nat) : ∀ k i, (trn x k).testBit i = (decide (i < k) && x.testBit (k - 1 - i))
  | 0, i => by simp [trn]
  | k + 1, 0 => by
    simp only [trn]
    rw [Nat.testBit_zero, Nat.add_sub_cancel, Nat.sub_zero, Nat.testBit_eq_decide_div_mod_eq]
    simp
  | k + 1, i + 1 => by
    simp only [trn]
    rw [Nat.testBit_succ, show (2 * trn x k + x / 2 ^ k % 2) / 2 = trn x k by omega, trn_bit x k i]
    rw [show k + 1 - 1 - (i + 1) = k - 1 - i by omega]
    simp
theorem trn_rev (s : W) : (trn s.toNat 32 : Int) = U s.reverse := by
  unfold U
  congr 1
  apply Nat.eq_of_testBit_eq
  intro i
  rw [trn_bit]
  show _ = s.reverse.getLsbD i
  rw [BitVec.getLsbD_reverse, BitVec.getMsbD_eq_getLsbD]
  rfl

/-- A grid: what a map does to each bit. -/
def grid (f : W → W) : Nat → W := fun i => f (1#32 <<< i)
/-- What a grid does to a word, as far as some of its bits. -/
def mix (g : Nat → W) (s : W) : Nat → W
  | 0 => 0#32
  | k + 1 => mix g s k ^^^ (if s.getLsbD k then g k else 0#32)
theorem mix_its (n : Nat) (s : W) : ∀ k, mix (grid (its n)) s k = its n (s &&& BitVec.ofNat 32 (2 ^ k - 1))
  | 0 => by simp [mix, its_zero]
  | k + 1 => by
    rw [mix, mix_its n s k]
    have e : s &&& BitVec.ofNat 32 (2 ^ (k + 1) - 1) = (s &&& BitVec.ofNat 32 (2 ^ k - 1)) ^^^ (if s.getLsbD k then 1#32 <<< k else 0#32) := by
      apply BitVec.eq_of_getLsbD_eq
      intro i hi
      simp only [BitVec.getLsbD_and, BitVec.getLsbD_xor, BitVec.getLsbD_ofNat, Nat.testBit_two_pow_sub_one, hi, decide_true, Bool.true_and]
      cases hs : s.getLsbD k
      · simp only [Bool.false_eq_true, if_false, BitVec.getLsbD_zero, Bool.xor_false]
        by_cases h : i = k
        · subst h; simp [hs]
        · have : decide (i < k + 1) = decide (i < k) := by simp; omega
          rw [this]
      · simp only [if_true, BitVec.getLsbD_shiftLeft, hi, decide_true, Bool.true_and]
        by_cases h : i = k
        · subst h; simp [hs]
        · have h1 : decide (i < k + 1) = decide (i < k) := by simp; omega
          rw [h1]
          by_cases h3 : i < k
          · simp [h3]
          · have : i - k ≠ 0 := by omega
            simp [h3, this]
    rw [e, its_xor]
    congr 1
    split
    · rfl
    · rw [its_zero]
theorem mix_all (n : Nat) (s : W) : mix (grid (its n)) s 32 = its n s := by
  rw [mix_its]
  congr 1
  apply BitVec.eq_of_getLsbD_eq
  intro i hi
  simp only [BitVec.getLsbD_and, BitVec.getLsbD_ofNat, Nat.testBit_two_pow_sub_one, hi, decide_true, Bool.and_true]

/-- The table of half bytes. -/
def tab (i : Nat) : W := its 4 (BitVec.ofNat 32 i)
theorem its_clear (s : W) (h : s.getLsbD 0 = false) : nought s = s >>> 1 := by
  unfold nought
  rw [h]
  simp
theorem half (s : W) : its 4 s = (s >>> 4) ^^^ tab (s.toNat % 16) := by
  have e : s = (s &&& 4294967280#32) ^^^ BitVec.ofNat 32 (s.toNat % 16) := by
    apply BitVec.eq_of_getLsbD_eq
    intro i hi
    have h16 : s.toNat % 16 = s.toNat % 2 ^ 4 := rfl
    rw [BitVec.getLsbD_xor, BitVec.getLsbD_and, h16, BitVec.getLsbD_ofNat (x := s.toNat % 2 ^ 4), Nat.testBit_mod_two_pow]
    have hb : s.toNat.testBit i = s.getLsbD i := rfl
    rw [hb]
    have hm : (4294967280#32).getLsbD i = decide (4 ≤ i) := by
      have : ∀ j : Fin 32, (4294967280#32).getLsbD j.val = decide (4 ≤ j.val) := by decide
      exact this ⟨i, hi⟩
    rw [hm]
    by_cases h4 : i < 4
    · have : ¬ 4 ≤ i := by omega
      simp [h4, this, hi]
    · have : 4 ≤ i := by omega
      simp [h4, this, hi]
  have e2 : its 4 (s &&& 4294967280#32) = s >>> 4 := by
    simp only [its]
    have hg : ∀ j, j < 4 → ((s &&& 4294967280#32) >>> j).getLsbD 0 = false := by
      intro j hj
      rw [BitVec.getLsbD_ushiftRight, BitVec.getLsbD_and]
      have : j = 0 ∨ j = 1 ∨ j = 2 ∨ j = 3 := by omega
      rcases this with rfl | rfl | rfl | rfl <;> simp
    have hg0 : (s &&& 4294967280#32).getLsbD 0 = false := hg 0 (by omega)
    have hg1 := hg 1 (by omega)
    have hg2 := hg 2 (by omega)
    have hg3 := hg 3 (by omega)
    rw [its_clear (s &&& 4294967280#32) hg0, its_clear _ hg1, ← BitVec.shiftRight_add, its_clear _ hg2, ← BitVec.shiftRight_add, its_clear _ hg3, ← BitVec.shiftRight_add]
    apply BitVec.eq_of_getLsbD_eq
    intro i hi
    rw [BitVec.getLsbD_ushiftRight, BitVec.getLsbD_and, BitVec.getLsbD_ushiftRight]
    by_cases h : 4 + i < 32
    · have hm : (4294967280#32).getLsbD (1 + 1 + 1 + 1 + i) = true := by
        have : ∀ j : Fin 32, 4 ≤ j.val → (4294967280#32).getLsbD j.val = true := by decide
        exact this ⟨1 + 1 + 1 + 1 + i, by omega⟩ (by simp only []; omega)
      rw [hm, Bool.and_true]
    · rw [BitVec.getLsbD_of_ge _ _ (by omega), BitVec.getLsbD_of_ge _ _ (by omega)]; rfl
  rw [show its 4 s = its 4 ((s &&& 4294967280#32) ^^^ BitVec.ofNat 32 (s.toNat % 16)) from congrArg _ e, its_xor, e2]
  rfl
theorem byte_half (s : W) (x : Int) : byte s x = its 4 (its 4 (s ^^^ BitVec.ofNat 32 x.toNat)) := by rw [← its_add]; rfl

end Cr
end Go.Proofs.Ytchfhgeipmfegaa
