
/-
  Records, as the mathematics has them: which may be, their bytes at a place, what bytes begin with.
-/
import Derived.Test.YtchfhgeipmfegaaCrc4
import Derived.Test.YtchfhgeipmfegaaWire2
namespace Go.Proofs.Ytchfhgeipmfegaa
open Cr

/-- A record: Kind, Txn, Prev, Next, Page, Off, Before, After. -/
structure Rc where
  k : Int
  t : Nat
  p : Nat
  x : Nat
  g : Int
  o : Int
  b : List Int
  a : List Int

/-- Its numbers are the machine's, its bytes are bytes. -/
structure Rc.In (r : Rc) : Prop where
  t : r.t ≤ 18446744073709551615
  p : r.p ≤ 18446744073709551615
  x : r.x ≤ 18446744073709551615
  b : Wd.Small r.b
  a : Wd.Small r.a

def Rc.nil : Rc := ⟨0, 0, 0, 0, 0, 0, [], []⟩
/-- Are both the same? -/
def sameR (c d : Rc) : Bool := decide (c.k = d.k ∧ c.t = d.t ∧ c.p = d.p ∧ c.x = d.x ∧ c.g = d.g ∧ c.o = d.o ∧ c.b = d.b ∧ c.a = d.a)
theorem sameR_self (c : Rc) : sameR c c = true := by simp [sameR]
theorem sameR_eq {c d : Rc} (h : c = d) : sameR c d = true := by subst h; exact sameR_self c

/-- What it changes lies within a page. -/
def fitR (g o : Int) (na : Nat) : Bool := decide (0 ≤ g ∧ g < 4096 ∧ 1 ≤ na ∧ 0 ≤ o ∧ o + na ≤ 248)
/-- May it be? -/
def mayQ (k : Int) (t x : Nat) (g o : Int) (nb na : Nat) : Bool :=
  decide (t ≠ 0) && ((decide (k = 1 ∧ x = 0 ∧ nb = na) && fitR g o na) || (decide (k = 2 ∧ nb = 0) && fitR g o na) || decide ((k = 3 ∨ k = 4) ∧ x = 0 ∧ g = 0 ∧ o = 0 ∧ nb = 0 ∧ na = 0))
def mayR (r : Rc) : Bool := mayQ r.k r.t r.x r.g r.o r.b.length r.a.length
theorem mayQ_iff {k : Int} {t x : Nat} {g o : Int} {nb na : Nat} : mayQ k t x g o nb na = true ↔ t ≠ 0 ∧ ((k = 1 ∧ x = 0 ∧ nb = na ∧ 0 ≤ g ∧ g < 4096 ∧ 1 ≤ na ∧ 0 ≤ o ∧ o + na ≤ 248) ∨ (k = 2 ∧ nb = 0 ∧ 0 ≤ g ∧ g < 4096 ∧ 1 ≤ na ∧ 0 ≤ o ∧ o + na ≤ 248) ∨ ((k = 3 ∨ k = 4) ∧ x = 0 ∧ g = 0 ∧ o = 0 ∧ nb = 0 ∧ na = 0)) := by
  simp [mayQ, fitR]
  omega
/-- What is so of one that may be. -/
structure Rc.Fits (r : Rc) : Prop where
  k0 : 1 ≤ r.k
  k1 : r.k ≤ 4
  g0 : 0 ≤ r.g
  g1 : r.g < 4096
  o0 : 0 ≤ r.o
  o1 : r.o ≤ 247
  na : r.a.length ≤ 248
  nb : r.b.length = if r.k = 1 then r.a.length else 0
theorem mayR_fits {r : Rc} (h : mayR r = true) : r.Fits := by
  have h2 := mayQ_iff.1 h
  obtain ⟨h3, h4⟩ := h2
  refine ⟨by omega, by omega, by omega, by omega, by omega, by omega, by omega, ?_⟩
  split <;> omega
theorem Rc.Fits.nb1 {r : Rc} (h : r.Fits) : r.b.length ≤ 248 := by
  have h1 := h.nb
  have h2 := h.na
  split at h1 <;> omega

/-- Its body; its bytes at a place. -/
def rows9 (r : Rc) : List (List Int) := [Wd.enc 1 r.k.toNat, Wd.enc 8 r.t, Wd.enc 8 r.p, Wd.enc 8 r.x, Wd.enc 2 r.g.toNat, Wd.enc 1 r.o.toNat, Wd.enc 1 r.a.length, r.b, r.a]
def bodyL (r : Rc) : List Int := (rows9 r).flatten
theorem bodyL_len (r : Rc) : (bodyL r).length = 29 + r.b.length + r.a.length := by
  simp [bodyL, rows9, Wd.enc_length]; omega
def sizeL (r : Rc) : List Int := Wd.enc 2 (29 + r.b.length + r.a.length)
def sumL (r : Rc) (at' : Nat) : W := sumW (Wd.enc 8 at' ++ (sizeL r ++ bodyL r))
def recL (r : Rc) (at' : Nat) : List Int := sizeL r ++ (Wd.enc 4 (sumL r at').toNat ++ bodyL r)
theorem recL_len (r : Rc) (at' : Nat) : (recL r at').length = 35 + r.b.length + r.a.length := by
  simp [recL, sizeL, Wd.enc_length, bodyL_len]; omega
theorem rows9_small {r : Rc} (h : r.In) : Wd.Small (bodyL r) := by
  unfold bodyL rows9
  simp only [List.flatten_cons, List.flatten_nil, List.append_nil]
  exact (Wd.enc_small _ _).app ((Wd.enc_small _ _).app ((Wd.enc_small _ _).app ((Wd.enc_small _ _).app ((Wd.enc_small _ _).app ((Wd.enc_small _ _).app ((Wd.enc_small _ _).app (h.b.app h.a)))))))
theorem recL_small {r : Rc} (h : r.In) (at' : Nat) : Wd.Small (recL r at') := by
  unfold recL sizeL
  exact (Wd.enc_small _ _).app ((Wd.enc_small _ _).app (rows9_small h))

/-- The record that may stand at the beginning of bytes. -/
def cand (xs : List Int) : Rc :=
  { k := (atR xs 6 1 : Nat), t := atR xs 7 8, p := atR xs 15 8, x := atR xs 23 8, g := (atR xs 31 2 : Nat), o := (atR xs 33 1 : Nat),
    b := (xs.drop 35).take (if atR xs 6 1 = 1 then atR xs 34 1 else 0), a := (xs.drop (35 + (if atR xs 6 1 = 1 then atR xs 34 1 else 0))).take (atR xs 34 1) }
/-- Do bytes begin with others? -/
def preB (xs ys : List Int) : Bool := decide (xs.take ys.length = ys)
/-- Do bytes begin with a record, at a place? Which, how many bytes. -/
def ofB (xs : List Int) (at' : Nat) : Bool := mayR (cand xs) && preB xs (recL (cand xs) at')
def ofR (xs : List Int) (at' : Nat) : Rc := if ofB xs at' then cand xs else Rc.nil
def ofN (xs : List Int) (at' : Nat) : Nat := if ofB xs at' then (recL (cand xs) at').length else 0

theorem preB_iff {xs ys : List Int} : preB xs ys = true ↔ xs.take ys.length = ys := by simp [preB]
theorem preB_app (ys zs : List Int) : preB (ys ++ zs) ys = true := by simp [preB]
theorem preB_split {xs ys : List Int} (h : preB xs ys = true) : xs = ys ++ xs.drop ys.length := by
  have h1 := preB_iff.1 h
  conv => lhs; rw [← List.take_append_drop ys.length xs, h1]

/-- A word in the midst of bytes. -/
theorem atR_mid (A B : List Int) (k n : Nat) (h1 : 1 ≤ k) (h8 : k ≤ 8) : atR (A ++ (Wd.enc k n ++ B)) A.length k = n % 256 ^ k := by
  have hs : standsB (A ++ (Wd.enc k n ++ B)).length (A.length : Int) (k : Int) = true := by
    rw [standsB_iff]
    simp [Wd.enc_length]
    omega
  unfold atR sub
  rw [hs]
  simp only [if_true, Int.toNat_natCast]
  rw [List.drop_left' rfl, List.take_left' (Wd.enc_length _ _), Wd.dec_enc]
theorem atR_mid' {xs A B : List Int} {k n : Nat} {f s : Int} (e : xs = A ++ (Wd.enc k n ++ B)) (hf : f = A.length) (hs : s = k) (h1 : 1 ≤ k) (h8 : k ≤ 8) : atR xs f s = n % 256 ^ k := by
  subst e hf hs
  exact atR_mid A B k n h1 h8
theorem atR_lt (xs : List Int) (hx : Wd.Small xs) (f : Int) (k : Nat) (_ : k ≤ 8) : atR xs f k < 256 ^ k := by
  unfold atR
  split
  · unfold sub
    rw [Int.toNat_natCast]
    have h1 := Wd.dec_lt _ ((hx.drop f.toNat).take k)
    have h2 : ((xs.drop f.toNat).take k).length ≤ k := by simp; omega
    exact Nat.lt_of_lt_of_le h1 (Nat.pow_le_pow_right (by omega) h2)
  · exact Nat.pow_pos (by omega)
theorem cand_in (xs : List Int) (hx : Wd.Small xs) : (cand xs).In := by
  have h8 : ∀ f, atR xs f 8 < 256 ^ 8 := fun f => atR_lt xs hx f 8 (by omega)
  refine ⟨?_, ?_, ?_, (hx.drop _).take _, (hx.drop _).take _⟩
  · have := h8 7; simp only [cand]; omega
  · have := h8 15; simp only [cand]; omega
  · have := h8 23; simp only [cand]; omega

/-- What begins with a record's bytes is read as it. -/
theorem cand_rec {r : Rc} (hm : mayR r = true) (hi : r.In) (at' : Nat) (rest : List Int) : cand (recL r at' ++ rest) = r := by
  have hf := mayR_fits hm
  obtain ⟨k, t, p, x, g, o, b, a⟩ := r
  have f1 := hf.k0
  have f2 := hf.k1
  have f3 := hf.g0
  have f4 := hf.g1
  have f5 := hf.o0
  have f6 := hf.o1
  have f7 := hf.na
  have f8 := hf.nb
  have f9 := hf.nb1
  have i1 := hi.t
  have i2 := hi.p
  have i3 := hi.x
  simp only at f1 f2 f3 f4 f5 f6 f7 f8 f9 i1 i2 i3
  obtain ⟨S, hS⟩ : ∃ S, S = Wd.enc 2 (29 + b.length + a.length) := ⟨_, rfl⟩
  obtain ⟨M, hM⟩ : ∃ M, M = Wd.enc 4 (sumL ⟨k, t, p, x, g, o, b, a⟩ at').toNat := ⟨_, rfl⟩
  have lS : S.length = 2 := by rw [hS]; exact Wd.enc_length _ _
  have lM : M.length = 4 := by rw [hM]; exact Wd.enc_length _ _
  have e : recL ⟨k, t, p, x, g, o, b, a⟩ at' ++ rest = S ++ (M ++ (Wd.enc 1 k.toNat ++ (Wd.enc 8 t ++ (Wd.enc 8 p ++ (Wd.enc 8 x ++ (Wd.enc 2 g.toNat ++ (Wd.enc 1 o.toNat ++ (Wd.enc 1 a.length ++ (b ++ (a ++ rest)))))))))) := by
    unfold recL sizeL
    rw [← hM, ← hS]
    simp [bodyL, rows9]
  rw [e]
  clear hS hM e hm
  have lE : ∀ j n, (Wd.enc j n).length = j := Wd.enc_length
  obtain ⟨X, hX⟩ : ∃ X, X = S ++ (M ++ (Wd.enc 1 k.toNat ++ (Wd.enc 8 t ++ (Wd.enc 8 p ++ (Wd.enc 8 x ++ (Wd.enc 2 g.toNat ++ (Wd.enc 1 o.toNat ++ (Wd.enc 1 a.length ++ (b ++ (a ++ rest)))))))))) := ⟨_, rfl⟩
  rw [← hX]
  have e1 : atR X 6 1 = k.toNat := by
    refine (atR_mid' (A := S ++ M) (k := 1) (n := k.toNat) (by rw [hX]; simp only [List.append_assoc]; rfl) (by simp [lS, lM]) rfl (by omega) (by omega)).trans ?_
    omega
  have e2 : atR X 7 8 = t := by
    refine (atR_mid' (A := S ++ (M ++ Wd.enc 1 k.toNat)) (k := 8) (n := t) (by rw [hX]; simp only [List.append_assoc]; rfl) (by simp [lS, lM, lE]) rfl (by omega) (by omega)).trans ?_
    exact Nat.mod_eq_of_lt (by omega)
  have e3 : atR X 15 8 = p := by
    refine (atR_mid' (A := S ++ (M ++ (Wd.enc 1 k.toNat ++ Wd.enc 8 t))) (k := 8) (n := p) (by rw [hX]; simp only [List.append_assoc]; rfl) (by simp [lS, lM, lE]) rfl (by omega) (by omega)).trans ?_
    exact Nat.mod_eq_of_lt (by omega)
  have e4 : atR X 23 8 = x := by
    refine (atR_mid' (A := S ++ (M ++ (Wd.enc 1 k.toNat ++ (Wd.enc 8 t ++ Wd.enc 8 p)))) (k := 8) (n := x) (by rw [hX]; simp only [List.append_assoc]; rfl) (by simp [lS, lM, lE]) rfl (by omega) (by omega)).trans ?_
    exact Nat.mod_eq_of_lt (by omega)
  have e5 : atR X 31 2 = g.toNat := by
    refine (atR_mid' (A := S ++ (M ++ (Wd.enc 1 k.toNat ++ (Wd.enc 8 t ++ (Wd.enc 8 p ++ Wd.enc 8 x))))) (k := 2) (n := g.toNat) (by rw [hX]; simp only [List.append_assoc]; rfl) (by simp [lS, lM, lE]) rfl (by omega) (by omega)).trans ?_
    exact Nat.mod_eq_of_lt (by omega)
  have e6 : atR X 33 1 = o.toNat := by
    refine (atR_mid' (A := S ++ (M ++ (Wd.enc 1 k.toNat ++ (Wd.enc 8 t ++ (Wd.enc 8 p ++ (Wd.enc 8 x ++ Wd.enc 2 g.toNat)))))) (k := 1) (n := o.toNat) (by rw [hX]; simp only [List.append_assoc]; rfl) (by simp [lS, lM, lE]) rfl (by omega) (by omega)).trans ?_
    exact Nat.mod_eq_of_lt (by omega)
  have e7 : atR X 34 1 = a.length := by
    refine (atR_mid' (A := S ++ (M ++ (Wd.enc 1 k.toNat ++ (Wd.enc 8 t ++ (Wd.enc 8 p ++ (Wd.enc 8 x ++ (Wd.enc 2 g.toNat ++ Wd.enc 1 o.toNat))))))) (k := 1) (n := a.length) (by rw [hX]; simp only [List.append_assoc]; rfl) (by simp [lS, lM, lE]) rfl (by omega) (by omega)).trans ?_
    exact Nat.mod_eq_of_lt (by omega)
  have e8 : X.drop 35 = b ++ (a ++ rest) := by
    have : X = (S ++ (M ++ (Wd.enc 1 k.toNat ++ (Wd.enc 8 t ++ (Wd.enc 8 p ++ (Wd.enc 8 x ++ (Wd.enc 2 g.toNat ++ (Wd.enc 1 o.toNat ++ Wd.enc 1 a.length)))))))) ++ (b ++ (a ++ rest)) := by rw [hX]; simp
    rw [this]
    exact List.drop_left' (by simp [lS, lM, lE])
  have e9 : (if k.toNat = 1 then a.length else 0) = b.length := by
    rw [f8]
    by_cases hk : k = 1
    · simp [hk]
    · rw [if_neg hk, if_neg (by omega)]
  unfold cand
  simp only [e1, e2, e3, e4, e5, e6, e7, e9]
  rw [← List.drop_drop, e8, List.drop_left' rfl, List.take_left' rfl, List.take_left' rfl]
  congr 1
  · omega
  · omega
  · omega

theorem ofB_rec {r : Rc} (hm : mayR r = true) (hi : r.In) (at' : Nat) (rest : List Int) : ofB (recL r at' ++ rest) at' = true := by
  unfold ofB
  rw [cand_rec hm hi, hm, preB_app]
  rfl
theorem ofR_rec {r : Rc} (hm : mayR r = true) (hi : r.In) (at' : Nat) (rest : List Int) : ofR (recL r at' ++ rest) at' = r := by
  unfold ofR
  rw [ofB_rec hm hi, cand_rec hm hi]
  rfl
theorem ofN_rec {r : Rc} (hm : mayR r = true) (hi : r.In) (at' : Nat) (rest : List Int) : ofN (recL r at' ++ rest) at' = (recL r at').length := by
  unfold ofN
  rw [ofB_rec hm hi, cand_rec hm hi]
  rfl
/-- What bytes begin with, if they begin with a record's. -/
theorem cand_pre {r : Rc} {xs : List Int} {at' : Nat} (hm : mayR r = true) (hi : r.In) (hp : preB xs (recL r at') = true) : cand xs = r := by
  rw [preB_split hp]
  exact cand_rec hm hi at' _

end Go.Proofs.Ytchfhgeipmfegaa
