
/-
  Plain mathematics of the sums: a word of 32 bits that is taken over bits, one by one; that it is linear, and loses nothing. Nothing of the program stands here.
-/
import Derived.Test.YtchfhgeipmfegaaMath
namespace Go.Proofs.Ytchfhgeipmfegaa
namespace Cr

abbrev W := BitVec 32
theorem xlc (a b c : W) : a ^^^ (b ^^^ c) = b ^^^ (a ^^^ c) := by rw [← BitVec.xor_assoc, BitVec.xor_comm a b, BitVec.xor_assoc]
theorem xcancel (a b : W) : a ^^^ (a ^^^ b) = b := by rw [← BitVec.xor_assoc, BitVec.xor_self, BitVec.zero_xor]
/-- The polynomial without its highest power, the bits the other way round. -/
def poly : W := 2197175160#32
/-- The polynomial as the document writes it. -/
def divi : W := 517762881#32

/-- A sum on its way is taken over one bit that is nought. -/
def nought (s : W) : W := (s >>> 1) ^^^ (if s.getLsbD 0 then poly else 0#32)

theorem nought_xor (a b : W) : nought (a ^^^ b) = nought a ^^^ nought b := by
  unfold nought
  rw [BitVec.getLsbD_xor, BitVec.ushiftRight_xor_distrib]
  cases a.getLsbD 0 <;> cases b.getLsbD 0 <;> simp [BitVec.xor_assoc, xcancel, xlc _ poly, BitVec.xor_comm _ poly]
theorem nought_zero : nought 0#32 = 0#32 := by decide

theorem nought_inj {s : W} (h : nought s = 0#32) : s = 0#32 := by
  unfold nought at h
  have h31 : (s >>> 1).getLsbD 31 = false := by simp
  cases hb : s.getLsbD 0 with
  | true =>
    rw [hb] at h
    have h2 := congrArg (fun x : W => x.getLsbD 31) h
    simp only [if_true, BitVec.getLsbD_xor, h31] at h2
    exact absurd h2 (by decide)
  | false =>
    rw [hb] at h
    simp only [Bool.false_eq_true, if_false, BitVec.xor_zero] at h
    apply BitVec.eq_of_getLsbD_eq
    intro i hi
    rw [BitVec.getLsbD_zero]
    cases i with
    | zero => exact hb
    | succ j =>
      have h2 := congrArg (fun x : W => x.getLsbD j) h
      simp only [BitVec.getLsbD_ushiftRight, BitVec.getLsbD_zero] at h2
      rw [Nat.add_comm]; exact h2

/-- So many of them. -/
def its : Nat → W → W
  | 0, s => s
  | n + 1, s => its n (nought s)

theorem its_xor : ∀ (n : Nat) (a b : W), its n (a ^^^ b) = its n a ^^^ its n b
  | 0, _, _ => rfl
  | n + 1, a, b => by simp only [its, nought_xor, its_xor n]
theorem its_zero : ∀ n : Nat, its n 0#32 = 0#32
  | 0 => rfl
  | n + 1 => by simp only [its, nought_zero, its_zero n]
theorem its_add : ∀ (a b : Nat) (s : W), its (a + b) s = its b (its a s)
  | 0, b, s => by rw [Nat.zero_add]; rfl
  | a + 1, b, s => by rw [Nat.succ_add]; simp only [its, its_add a b]
theorem its_comm (a b : Nat) (s : W) : its a (its b s) = its b (its a s) := by rw [← its_add, ← its_add, Nat.add_comm]
theorem its_inj : ∀ (n : Nat) {s : W}, its n s = 0#32 → s = 0#32
  | 0, _, h => h
  | n + 1, _, h => nought_inj (its_inj n h)

/-- What has no lowest bit is only moved. -/
theorem nought_shl (y : W) (h : y.getLsbD 31 = false) : nought (y <<< 1) = y := by
  unfold nought
  have h0 : (y <<< 1).getLsbD 0 = false := by simp
  rw [h0]
  simp only [Bool.false_eq_true, if_false, BitVec.xor_zero]
  apply BitVec.eq_of_getLsbD_eq
  intro i hi
  simp only [BitVec.getLsbD_ushiftRight, BitVec.getLsbD_shiftLeft]
  by_cases h31 : i = 31
  · subst h31; rw [h]; rfl
  · have : 1 + i < 32 := by omega
    simp [this]

theorem ofNat_double (n : Nat) (b : Nat) (hb : b < 2) : BitVec.ofNat 32 (b + 2 * n) = BitVec.ofNat 32 b ^^^ (BitVec.ofNat 32 n <<< 1) := by
  apply BitVec.eq_of_getLsbD_eq
  intro i hi
  simp only [BitVec.getLsbD_xor, BitVec.getLsbD_ofNat, BitVec.getLsbD_shiftLeft, hi, decide_true, Bool.true_and]
  cases i with
  | zero => simp
  | succ j =>
    have h1 : (b + 2 * n).testBit (j + 1) = n.testBit j := by
      rw [Nat.testBit_succ]; congr 1; omega
    have h2 : b.testBit (j + 1) = false := by
      rw [Nat.testBit_succ]; have : b / 2 = 0 := by omega
      rw [this]; simp
    have hj : j < 32 := by omega
    rw [h1, h2]
    simp [hj]

/-- A sum is taken over the lowest bits of a number, the lowest first. -/
def feed : Nat → W → Nat → W
  | 0, s, _ => s
  | k + 1, s, n => feed k (nought (s ^^^ BitVec.ofNat 32 (n % 2))) (n / 2)

theorem feed_add : ∀ (a b : Nat) (s : W) (n : Nat), feed (a + b) s n = feed b (feed a s n) (n / 2 ^ a)
  | 0, b, s, n => by simp [feed]
  | a + 1, b, s, n => by
    rw [Nat.succ_add]
    simp only [feed]
    rw [feed_add a b, Nat.div_div_eq_div_mul, ← Nat.pow_succ']

theorem feed_snoc (k : Nat) (s : W) (n : Nat) : feed (k + 1) s n = nought (feed k s n ^^^ BitVec.ofNat 32 (n / 2 ^ k % 2)) := by
  rw [feed_add k 1]; rfl

theorem feed_its : ∀ (k : Nat) (s : W) (n : Nat), k ≤ 32 → feed k s n = its k (s ^^^ BitVec.ofNat 32 (n % 2 ^ k))
  | 0, s, n, _ => by simp [feed, its, Nat.mod_one]
  | k + 1, s, n, h => by
    simp only [feed, its]
    rw [feed_its k _ _ (by omega)]
    congr 1
    have hp : 2 ^ k ≤ 2 ^ 31 := Nat.pow_le_pow_right (by omega) (by omega)
    have hy : n / 2 % 2 ^ k < 2 ^ k := Nat.mod_lt _ (Nat.two_pow_pos k)
    have e : n % 2 ^ (k + 1) = n % 2 + 2 * (n / 2 % 2 ^ k) := by rw [Nat.pow_succ', Nat.mod_mul]
    rw [e, ofNat_double _ _ (Nat.mod_lt _ (by omega)), ← BitVec.xor_assoc, nought_xor (s ^^^ _)]
    congr 1
    rw [nought_shl]
    rw [BitVec.getLsbD_ofNat, Nat.testBit_lt_two_pow (by omega)]
    rfl

/-- A byte: its bits, the lowest first. -/
def byte (s : W) (x : Int) : W := its 8 (s ^^^ BitVec.ofNat 32 x.toNat)
theorem byte_feed (s : W) (x : Int) (h : 0 ≤ x ∧ x < 256) : byte s x = feed 8 s x.toNat := by
  rw [feed_its 8 _ _ (by omega), Nat.mod_eq_of_lt (by omega)]; rfl

/-- A sum is taken over bytes. -/
def over (s : W) (l : List Int) : W := l.foldl byte s
theorem over_nil (s : W) : over s [] = s := rfl
theorem over_cons (s : W) (x : Int) (l : List Int) : over s (x :: l) = over (byte s x) l := rfl
theorem over_app (s : W) (a b : List Int) : over s (a ++ b) = over (over s a) b := List.foldl_append ..
theorem over_snoc (s : W) (a : List Int) (x : Int) : over s (a ++ [x]) = byte (over s a) x := by rw [over_app]; rfl
theorem over_take (s : W) (l : List Int) (k : Nat) (h : k < l.length) : over s (l.take (k + 1)) = byte (over s (l.take k)) (l.getD k 0) := by
  rw [List.take_succ_eq_append_getElem h, over_snoc]; simp [List.getD, h]

theorem byte_xor (s t : W) (x : Int) : byte (s ^^^ t) x = byte s x ^^^ its 8 t := by
  unfold byte
  rw [← its_xor]
  congr 1
  simp [BitVec.xor_comm, xlc]
/-- What is turned over in a sum is taken along, whatever the bytes. -/
theorem over_xor : ∀ (l : List Int) (s t : W), over (s ^^^ t) l = over s l ^^^ its (8 * l.length) t
  | [], _, _ => rfl
  | x :: l, s, t => by
    rw [over_cons, byte_xor, over_xor l, over_cons, ← its_add, List.length_cons]
    congr 2
    omega
theorem over_inj (l : List Int) (s t : W) (h : over s l = over t l) : s = t := by
  have e : s = t ^^^ (t ^^^ s) := by rw [← BitVec.xor_assoc, BitVec.xor_self, BitVec.zero_xor]
  rw [e, over_xor] at h
  have h2 : its (8 * l.length) (t ^^^ s) = 0#32 := by
    have := congrArg (fun x => over t l ^^^ x) h
    simpa [← BitVec.xor_assoc] using this
  have h3 := its_inj _ h2
  rw [e, h3, BitVec.xor_zero]

theorem ofNat_xor (a b : Nat) : BitVec.ofNat 32 (a ^^^ b) = BitVec.ofNat 32 a ^^^ BitVec.ofNat 32 b := by
  apply BitVec.eq_of_getLsbD_eq
  intro i hi
  simp [hi]

/-- A byte that is turned over. -/
def flip (x : Int) (v : Nat) : Int := ((x.toNat ^^^ v : Nat) : Int)
theorem byte_flip (s : W) (x : Int) (v : Nat) : byte s (flip x v) = byte s x ^^^ its 8 (BitVec.ofNat 32 v) := by
  unfold byte flip
  rw [Int.toNat_natCast, ofNat_xor, ← BitVec.xor_assoc, its_xor]

theorem over_set : ∀ (l : List Int) (s : W) (j v : Nat), j < l.length → over s (l.set j (flip (l.getD j 0) v)) = over s l ^^^ its (8 * (l.length - j)) (BitVec.ofNat 32 v)
  | [], _, _, _, h => by simp at h
  | x :: l, s, 0, v, _ => by
    simp only [List.set_cons_zero, over_cons, List.getD_cons_zero]
    rw [byte_flip, over_xor, ← its_add, List.length_cons]
    congr 2
    omega
  | x :: l, s, j + 1, v, h => by
    simp only [List.set_cons_succ, over_cons, List.getD_cons_succ]
    rw [over_set l _ j v (by simpa using h)]
    simp

/-- Numbers, byte for byte: a place. -/
theorem over_enc : ∀ (k n : Nat) (s : W), over s (Wd.enc k n) = feed (8 * k) s n
  | 0, _, _ => rfl
  | k + 1, n, s => by
    rw [Wd.enc, over_cons, byte_feed _ _ ⟨by omega, by omega⟩, over_enc k, Int.toNat_natCast,
      show 8 * (k + 1) = 8 + 8 * k by omega, feed_add 8 (8 * k), show (2 : Nat) ^ 8 = 256 by decide]
    congr 1
    rw [feed_its 8 _ _ (by omega), feed_its 8 _ _ (by omega), show (2 : Nat) ^ 8 = 256 by decide, Nat.mod_mod]

theorem feed_xor : ∀ (k : Nat) (s t : W) (n m : Nat), feed k (s ^^^ t) (n ^^^ m) = feed k s n ^^^ feed k t m
  | 0, _, _, _, _ => rfl
  | k + 1, s, t, n, m => by
    simp only [feed]
    rw [Nat.xor_mod_two_pow (n := 1) |> fun h => (by simpa using h : (n ^^^ m) % 2 = n % 2 ^^^ m % 2), Nat.xor_div_two, ← feed_xor k, ← nought_xor, ofNat_xor]
    congr 2
    simp [BitVec.xor_assoc, xlc]

theorem feed_nought (k : Nat) (s : W) : feed k s 0 = its k s := by
  induction k generalizing s with
  | zero => rfl
  | succ k ih => simp [feed, its, ih]

/-- What lies within 32 bits that follow one another is never lost. -/
theorem feed_apart (F sh : Nat) (hF : F < 4294967296) (hs : sh ≤ 32) (h : feed 64 0#32 (F * 2 ^ sh) = 0#32) : F = 0 := by
  have e : 64 = sh + (32 + (32 - sh)) := by omega
  rw [e, feed_add sh, feed_add 32, Nat.mul_div_cancel _ (Nat.two_pow_pos sh), feed_its sh _ _ hs, Nat.mul_mod_left] at h
  have h0 : F / 2 ^ 32 = 0 := by omega
  rw [h0, feed_nought, feed_its 32 _ _ (by omega)] at h
  have h1 := its_inj _ h
  simp only [BitVec.xor_zero, its_zero, BitVec.zero_xor] at h1
  have h2 := its_inj _ h1
  rw [Nat.mod_eq_of_lt (by omega)] at h2
  have h3 := congrArg BitVec.toNat h2
  simp at h3
  omega

/-- The sums of places that differ there alone are unlike. -/
theorem places (s : W) (l : List Int) (p F sh : Nat) (hF : F < 4294967296) (hs : sh ≤ 32) :
    (over s (Wd.enc 8 (p ^^^ F * 2 ^ sh) ++ l) = over s (Wd.enc 8 p ++ l)) ↔ F = 0 := by
  constructor
  · intro h
    rw [over_app, over_app] at h
    have h1 := over_inj _ _ _ h
    rw [over_enc, over_enc] at h1
    have h2 : feed (8 * 8) (s ^^^ 0#32) (p ^^^ F * 2 ^ sh) = feed (8 * 8) s p ^^^ feed (8 * 8) 0#32 (F * 2 ^ sh) := feed_xor _ _ _ _ _
    rw [BitVec.xor_zero, h1] at h2
    have h3 : feed (8 * 8) 0#32 (F * 2 ^ sh) = 0#32 := by
      have := congrArg (fun x => feed (8 * 8) s p ^^^ x) h2
      simpa [← BitVec.xor_assoc] using this.symm
    exact feed_apart F sh hF hs h3
  · rintro rfl; simp

/-- Four bytes that are turned over, one behind the other. -/
def turn (l : List Int) (a F : Nat) : Nat → List Int
  | 0 => l
  | i + 1 => (turn l a F i).set (a + i) (flip ((turn l a F i).getD (a + i) 0) (F / 256 ^ i % 256))
theorem turn_length (l : List Int) (a F : Nat) : ∀ i, (turn l a F i).length = l.length
  | 0 => rfl
  | i + 1 => by simp [turn, turn_length l a F i]

theorem over_turn (l : List Int) (s : W) (a F : Nat) (ha : a + 4 ≤ l.length) : over s (turn l a F 4) = over s l ^^^ its (8 * (4 + (l.length - a - 4))) (BitVec.ofNat 32 F) := by
  have h : ∀ i, i < 4 → over s (turn l a F (i + 1)) = over s (turn l a F i) ^^^ its (8 * (l.length - (a + i))) (BitVec.ofNat 32 (F / 256 ^ i % 256)) := by
    intro i hi
    show over s ((turn l a F i).set (a + i) (flip ((turn l a F i).getD (a + i) 0) (F / 256 ^ i % 256))) = _
    rw [over_set _ _ _ _ (by rw [turn_length]; omega), turn_length]
  rw [h 3 (by omega), h 2 (by omega), h 1 (by omega), h 0 (by omega)]
  show over s l ^^^ _ ^^^ _ ^^^ _ ^^^ _ = _
  have hk : ∀ i, i < 4 → its (8 * (l.length - (a + i))) (BitVec.ofNat 32 (F / 256 ^ i % 256)) = its (8 * (l.length - a - 4)) (its (8 * (4 - i)) (BitVec.ofNat 32 (F / 256 ^ i % 256))) := by
    intro i hi
    rw [← its_add]; congr 1; omega
  rw [hk 3 (by omega), hk 2 (by omega), hk 1 (by omega), hk 0 (by omega)]
  simp only [BitVec.xor_assoc]
  rw [← its_xor, ← its_xor, ← its_xor, Nat.mul_add 8 4, its_add]
  congr 2
  -- the word itself
  have e := over_enc 4 F 0#32
  rw [show 8 * 4 = 32 by decide, feed_its 32 _ _ (by omega), BitVec.zero_xor] at e
  have hm : BitVec.ofNat 32 (F % 2 ^ 32) = BitVec.ofNat 32 F := by
    apply BitVec.eq_of_toNat_eq; simp
  rw [hm] at e
  rw [show 8 * 4 = 32 by decide, ← e]
  simp only [Wd.enc, over_cons, over_nil, byte, Int.toNat_natCast, its_xor, BitVec.zero_xor, ← its_add, Nat.div_div_eq_div_mul]
  have p0 : F / 256 ^ 0 = F := by simp
  rw [p0, show 256 ^ 1 = 256 by decide, show 256 ^ 2 = 256 * 256 by decide, show 256 ^ 3 = 256 * 256 * 256 by decide]
  simp only [BitVec.xor_assoc]

end Cr
end Go.Proofs.Ytchfhgeipmfegaa
