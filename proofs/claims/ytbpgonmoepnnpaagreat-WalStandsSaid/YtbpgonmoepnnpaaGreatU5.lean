/-
  Part 5 of what the laws of stage 6 rest on: contracts of the functions that they call, and what these rest on.
-/
import Derived.Deep.RegionHeld3
import Derived.BigQuiet
import Derived.Deep.DeepCutAuto
import Derived.Test.YtbpgonmoepnnpaaGreatU1
import Derived.Test.YtbpgonmoepnnpaaGreatU4
set_option linter.unusedVariables false
set_option linter.unusedSimpArgs false
namespace Go.Proofs.YtbpgonmoepnnpaaGreat
open Cr
structure Rc where
 k : Int
 t : Nat
 p : Nat
 x : Nat
 g : Int
 o : Int
 b : List Int
 a : List Int
structure Rc.In (r : Rc) : Prop where
 t : r.t ≤ 18446744073709551615
 p : r.p ≤ 18446744073709551615
 x : r.x ≤ 18446744073709551615
 b : Wd.Small r.b
 a : Wd.Small r.a
def Rc.nil : Rc := ⟨0, 0, 0, 0, 0, 0, [], []⟩
def sameR (c d : Rc) : Bool := decide (c.k = d.k ∧ c.t = d.t ∧ c.p = d.p ∧ c.x = d.x ∧ c.g = d.g ∧ c.o = d.o ∧ c.b = d.b ∧ c.a = d.a)
theorem sameR_self (c : Rc) : sameR c c = true := by simp [sameR]
def fitR (g o : Int) (na : Nat) : Bool := decide (0 ≤ g ∧ g < 4096 ∧ 1 ≤ na ∧ 0 ≤ o ∧ o + na ≤ 248)
def mayQ (k : Int) (t x : Nat) (g o : Int) (nb na : Nat) : Bool :=
 decide (t ≠ 0) && ((decide (k = 1 ∧ x = 0 ∧ nb = na) && fitR g o na) || (decide (k = 2 ∧ nb = 0) && fitR g o na) || decide ((k = 3 ∨ k = 4) ∧ x = 0 ∧ g = 0 ∧ o = 0 ∧ nb = 0 ∧ na = 0))
def mayR (r : Rc) : Bool := mayQ r.k r.t r.x r.g r.o r.b.length r.a.length
theorem mayQ_iff {k : Int} {t x : Nat} {g o : Int} {nb na : Nat} : mayQ k t x g o nb na = true ↔ t ≠ 0 ∧ ((k = 1 ∧ x = 0 ∧ nb = na ∧ 0 ≤ g ∧ g < 4096 ∧ 1 ≤ na ∧ 0 ≤ o ∧ o + na ≤ 248) ∨ (k = 2 ∧ nb = 0 ∧ 0 ≤ g ∧ g < 4096 ∧ 1 ≤ na ∧ 0 ≤ o ∧ o + na ≤ 248) ∨ ((k = 3 ∨ k = 4) ∧ x = 0 ∧ g = 0 ∧ o = 0 ∧ nb = 0 ∧ na = 0)) := by
 simp [mayQ, fitR]
 omega
structure Rc.Fits (r : Rc) : Prop where
 k0 : 1 ≤ r.k
 k1 : r.k ≤ 4
 g0 : 0 ≤ r.g
 g1 : r.g < 4096
 o0 : 0 ≤ r.o
 o1 : r.o ≤ 247
 na : r.a.length ≤ 248
 nb : r.b.length = if r.k = 1 then r.a.length else 0
theorem mayR_fits {r : Rc} (h : mayR r = true) : r.Fits := by
 have h2 := mayQ_iff.1 h; obtain ⟨h3, h4⟩ := h2; refine ⟨by omega, by omega, by omega, by omega, by omega, by omega, by omega, ?_⟩
 split <;> omega
theorem Rc.Fits.nb1 {r : Rc} (h : r.Fits) : r.b.length ≤ 248 := by
 have h1 := h.nb; have h2 := h.na
 split at h1 <;> omega
def rows9 (r : Rc) : List (List Int) := [Wd.enc 1 r.k.toNat, Wd.enc 8 r.t, Wd.enc 8 r.p, Wd.enc 8 r.x, Wd.enc 2 r.g.toNat, Wd.enc 1 r.o.toNat, Wd.enc 1 r.a.length, r.b, r.a]
def bodyL (r : Rc) : List Int := (rows9 r).flatten
theorem bodyL_len (r : Rc) : (bodyL r).length = 29 + r.b.length + r.a.length := by
 simp [bodyL, rows9, Wd.enc_length]; omega
def sizeL (r : Rc) : List Int := Wd.enc 2 (29 + r.b.length + r.a.length)
def sumL (r : Rc) (at' : Nat) : W := sumW (Wd.enc 8 at' ++ (sizeL r ++ bodyL r))
def recL (r : Rc) (at' : Nat) : List Int := sizeL r ++ (Wd.enc 4 (sumL r at').toNat ++ bodyL r)
theorem recL_len (r : Rc) (at' : Nat) : (recL r at').length = 35 + r.b.length + r.a.length := by
 simp [recL, sizeL, Wd.enc_length, bodyL_len]; omega
theorem rows9_small {r : Rc} (h : r.In) : Wd.Small (bodyL r) := by
 unfold bodyL rows9
 simp only [List.flatten_cons, List.flatten_nil, List.append_nil]
 exact (Wd.enc_small _ _).app ((Wd.enc_small _ _).app ((Wd.enc_small _ _).app ((Wd.enc_small _ _).app ((Wd.enc_small _ _).app ((Wd.enc_small _ _).app ((Wd.enc_small _ _).app (h.b.app h.a)))))))
theorem recL_small {r : Rc} (h : r.In) (at' : Nat) : Wd.Small (recL r at') := by
 unfold recL sizeL
 exact (Wd.enc_small _ _).app ((Wd.enc_small _ _).app (rows9_small h))
def cand (xs : List Int) : Rc :=
 { k := (atR xs 6 1 : Nat), t := atR xs 7 8, p := atR xs 15 8, x := atR xs 23 8, g := (atR xs 31 2 : Nat), o := (atR xs 33 1 : Nat), b := (xs.drop 35).take (if atR xs 6 1 = 1 then atR xs 34 1 else 0), a := (xs.drop (35 + (if atR xs 6 1 = 1 then atR xs 34 1 else 0))).take (atR xs 34 1) }
def preB (xs ys : List Int) : Bool := decide (xs.take ys.length = ys)
def ofB (xs : List Int) (at' : Nat) : Bool := mayR (cand xs) && preB xs (recL (cand xs) at')
def ofR (xs : List Int) (at' : Nat) : Rc := if ofB xs at' then cand xs else Rc.nil
def ofN (xs : List Int) (at' : Nat) : Nat := if ofB xs at' then (recL (cand xs) at').length else 0
theorem preB_iff {xs ys : List Int} : preB xs ys = true ↔ xs.take ys.length = ys := by simp [preB]
theorem preB_app (ys zs : List Int) : preB (ys ++ zs) ys = true := by simp [preB]
theorem preB_split {xs ys : List Int} (h : preB xs ys = true) : xs = ys ++ xs.drop ys.length := by
 have h1 := preB_iff.1 h
 conv => lhs; rw [← List.take_append_drop ys.length xs, h1]
theorem atR_mid (A B : List Int) (k n : Nat) (h1 : 1 ≤ k) (h8 : k ≤ 8) : atR (A ++ (Wd.enc k n ++ B)) A.length k = n % 256 ^ k := by
 have hs : standsB (A ++ (Wd.enc k n ++ B)).length (A.length : Int) (k : Int) = true := by
  rw [standsB_iff]
  simp [Wd.enc_length]
  omega
 unfold atR sub
 rw [hs]
 simp only [if_true, Int.toNat_natCast]
 rw [List.drop_left' rfl, List.take_left' (Wd.enc_length _ _), Wd.dec_enc]
theorem atR_mid' {xs A B : List Int} {k n : Nat} {f s : Int} (e : xs = A ++ (Wd.enc k n ++ B)) (hf : f = A.length) (hs : s = k) (h1 : 1 ≤ k) (h8 : k ≤ 8) : atR xs f s = n % 256 ^ k := by
 subst e hf hs; exact atR_mid A B k n h1 h8
theorem atR_lt (xs : List Int) (hx : Wd.Small xs) (f : Int) (k : Nat) (_ : k ≤ 8) : atR xs f k < 256 ^ k := by
 unfold atR
 split
 ·
  unfold sub
  rw [Int.toNat_natCast]; have h1 := Wd.dec_lt _ ((hx.drop f.toNat).take k)
  have h2 : ((xs.drop f.toNat).take k).length ≤ k := by simp; omega
  exact Nat.lt_of_lt_of_le h1 (Nat.pow_le_pow_right (by omega) h2)
 · exact Nat.pow_pos (by omega)
theorem cand_in (xs : List Int) (hx : Wd.Small xs) : (cand xs).In := by
 have h8 : ∀ f, atR xs f 8 < 256 ^ 8 := fun f => atR_lt xs hx f 8 (by omega)
 refine ⟨?_, ?_, ?_, (hx.drop _).take _, (hx.drop _).take _⟩
 · have := h8 7; simp only [cand]; omega
 · have := h8 15; simp only [cand]; omega
 · have := h8 23; simp only [cand]; omega
theorem cand_rec {r : Rc} (hm : mayR r = true) (hi : r.In) (at' : Nat) (rest : List Int) : cand (recL r at' ++ rest) = r := by
 have hf := mayR_fits hm; obtain ⟨k, t, p, x, g, o, b, a⟩ := r; have f1 := hf.k0; have f2 := hf.k1; have f3 := hf.g0; have f4 := hf.g1; have f5 := hf.o0; have f6 := hf.o1; have f7 := hf.na; have f8 := hf.nb; have f9 := hf.nb1; have i1 := hi.t; have i2 := hi.p; have i3 := hi.x
 simp only at f1 f2 f3 f4 f5 f6 f7 f8 f9 i1 i2 i3
 obtain ⟨S, hS⟩ : ∃ S, S = Wd.enc 2 (29 + b.length + a.length) := ⟨_, rfl⟩; obtain ⟨M, hM⟩ : ∃ M, M = Wd.enc 4 (sumL ⟨k, t, p, x, g, o, b, a⟩ at').toNat := ⟨_, rfl⟩
 have lS : S.length = 2 := by rw [hS]; exact Wd.enc_length _ _
 have lM : M.length = 4 := by rw [hM]; exact Wd.enc_length _ _
 have e : recL ⟨k, t, p, x, g, o, b, a⟩ at' ++ rest = S ++ (M ++ (Wd.enc 1 k.toNat ++ (Wd.enc 8 t ++ (Wd.enc 8 p ++ (Wd.enc 8 x ++ (Wd.enc 2 g.toNat ++ (Wd.enc 1 o.toNat ++ (Wd.enc 1 a.length ++ (b ++ (a ++ rest)))))))))) := by
  unfold recL sizeL
  rw [← hM, ← hS]
  simp [bodyL, rows9]
 rw [e]; clear hS hM e hm; have lE : ∀ j n, (Wd.enc j n).length = j := Wd.enc_length; obtain ⟨X, hX⟩ : ∃ X, X = S ++ (M ++ (Wd.enc 1 k.toNat ++ (Wd.enc 8 t ++ (Wd.enc 8 p ++ (Wd.enc 8 x ++ (Wd.enc 2 g.toNat ++ (Wd.enc 1 o.toNat ++ (Wd.enc 1 a.length ++ (b ++ (a ++ rest)))))))))) := ⟨_, rfl⟩; rw [← hX]
 have e1 : atR X 6 1 = k.toNat := by
  refine (atR_mid' (A := S ++ M) (k := 1) (n := k.toNat) (by rw [hX]; simp only [List.append_assoc]; rfl) (by simp [lS, lM]) rfl (by omega) (by omega)).trans ?_
  omega
 have e2 : atR X 7 8 = t := by
  refine (atR_mid' (A := S ++ (M ++ Wd.enc 1 k.toNat)) (k := 8) (n := t) (by rw [hX]; simp only [List.append_assoc]; rfl) (by simp [lS, lM, lE]) rfl (by omega) (by omega)).trans ?_; exact Nat.mod_eq_of_lt (by omega)
 have e3 : atR X 15 8 = p := by
  refine (atR_mid' (A := S ++ (M ++ (Wd.enc 1 k.toNat ++ Wd.enc 8 t))) (k := 8) (n := p) (by rw [hX]; simp only [List.append_assoc]; rfl) (by simp [lS, lM, lE]) rfl (by omega) (by omega)).trans ?_; exact Nat.mod_eq_of_lt (by omega)
 have e4 : atR X 23 8 = x := by
  refine (atR_mid' (A := S ++ (M ++ (Wd.enc 1 k.toNat ++ (Wd.enc 8 t ++ Wd.enc 8 p)))) (k := 8) (n := x) (by rw [hX]; simp only [List.append_assoc]; rfl) (by simp [lS, lM, lE]) rfl (by omega) (by omega)).trans ?_; exact Nat.mod_eq_of_lt (by omega)
 have e5 : atR X 31 2 = g.toNat := by
  refine (atR_mid' (A := S ++ (M ++ (Wd.enc 1 k.toNat ++ (Wd.enc 8 t ++ (Wd.enc 8 p ++ Wd.enc 8 x))))) (k := 2) (n := g.toNat) (by rw [hX]; simp only [List.append_assoc]; rfl) (by simp [lS, lM, lE]) rfl (by omega) (by omega)).trans ?_; exact Nat.mod_eq_of_lt (by omega)
 have e6 : atR X 33 1 = o.toNat := by
  refine (atR_mid' (A := S ++ (M ++ (Wd.enc 1 k.toNat ++ (Wd.enc 8 t ++ (Wd.enc 8 p ++ (Wd.enc 8 x ++ Wd.enc 2 g.toNat)))))) (k := 1) (n := o.toNat) (by rw [hX]; simp only [List.append_assoc]; rfl) (by simp [lS, lM, lE]) rfl (by omega) (by omega)).trans ?_; exact Nat.mod_eq_of_lt (by omega)
 have e7 : atR X 34 1 = a.length := by
  refine (atR_mid' (A := S ++ (M ++ (Wd.enc 1 k.toNat ++ (Wd.enc 8 t ++ (Wd.enc 8 p ++ (Wd.enc 8 x ++ (Wd.enc 2 g.toNat ++ Wd.enc 1 o.toNat))))))) (k := 1) (n := a.length) (by rw [hX]; simp only [List.append_assoc]; rfl) (by simp [lS, lM, lE]) rfl (by omega) (by omega)).trans ?_; exact Nat.mod_eq_of_lt (by omega)
 have e8 : X.drop 35 = b ++ (a ++ rest) := by
  have : X = (S ++ (M ++ (Wd.enc 1 k.toNat ++ (Wd.enc 8 t ++ (Wd.enc 8 p ++ (Wd.enc 8 x ++ (Wd.enc 2 g.toNat ++ (Wd.enc 1 o.toNat ++ Wd.enc 1 a.length)))))))) ++ (b ++ (a ++ rest)) := by rw [hX]; simp
  rw [this]; exact List.drop_left' (by simp [lS, lM, lE])
 have e9 : (if k.toNat = 1 then a.length else 0) = b.length := by
  rw [f8]
  by_cases hk : k = 1
  · simp [hk]
  · rw [if_neg hk, if_neg (by omega)]
 unfold cand
 simp only [e1, e2, e3, e4, e5, e6, e7, e9]
 rw [← List.drop_drop, e8, List.drop_left' rfl, List.take_left' rfl, List.take_left' rfl]
 congr 1
 · omega
 · omega
 · omega
theorem ofB_rec {r : Rc} (hm : mayR r = true) (hi : r.In) (at' : Nat) (rest : List Int) : ofB (recL r at' ++ rest) at' = true := by
 unfold ofB
 rw [cand_rec hm hi, hm, preB_app]
 rfl
theorem ofR_rec {r : Rc} (hm : mayR r = true) (hi : r.In) (at' : Nat) (rest : List Int) : ofR (recL r at' ++ rest) at' = r := by
 unfold ofR
 rw [ofB_rec hm hi, cand_rec hm hi]
 rfl
theorem ofN_rec {r : Rc} (hm : mayR r = true) (hi : r.In) (at' : Nat) (rest : List Int) : ofN (recL r at' ++ rest) at' = (recL r at').length := by
 unfold ofN
 rw [ofB_rec hm hi, cand_rec hm hi]
 rfl
theorem cand_pre {r : Rc} {xs : List Int} {at' : Nat} (hm : mayR r = true) (hi : r.In) (hp : preB xs (recL r at') = true) : cand xs = r := by
 rw [preB_split hp]
 exact cand_rec hm hi at' _
end Go.Proofs.YtbpgonmoepnnpaaGreat
namespace Go.Proofs.YtbpgonmoepnnpaaGreat
open Go.RowKit Cr
abbrev TR : TypeId := 33
theorem Blk.c8 {w : World} {g : Nat} {t : TypeId} {a b c d e f i j : Value} (h : Blk w g t #[a, b, c, d, e, f, i, j]) : w.cell? ⟨g, 0, none⟩ = some a ∧ w.cell? ⟨g, 1, none⟩ = some b ∧ w.cell? ⟨g, 2, none⟩ = some c ∧ w.cell? ⟨g, 3, none⟩ = some d ∧ w.cell? ⟨g, 4, none⟩ = some e ∧ w.cell? ⟨g, 5, none⟩ = some f ∧ w.cell? ⟨g, 6, none⟩ = some i ∧ w.cell? ⟨g, 7, none⟩ = some j :=
 ⟨h.cell 0, h.cell 1, h.cell 2, h.cell 3, h.cell 4, h.cell 5, h.cell 6, h.cell 7⟩
def RetV (v : Value) (w : World) (en : Ending) (w' : World) : Prop := en = .returned v ∧ Gr w w'
def chB (k : Int) : Bool := decide (k = 1) || decide (k = 2)
theorem changes_any (k : Int) (w : World) : Calls Tryz.prog 110 #[.int .i64 k] w fun e w' => e = .returned (.bool (chB k)) ∧ w = w' := by
 by_cases h1 : k = 1
 ·
  subst h1
  go_enter Tryz.func110, Tryz.ntmps110
  go_wp2
  go_ret
  exact ⟨rfl, rfl⟩
 ·
  by_cases h2 : k = 2
  ·
   subst h2
   go_enter Tryz.func110, Tryz.ntmps110
   go_wp2
   go_ret
   exact ⟨rfl, rfl⟩
  ·
   go_enter Tryz.func110, Tryz.ntmps110
   go_wp2
   go_ret
   exact ⟨ret_b (by simp [chB, h1, h2]), rfl⟩
def befR (k : Int) (n : Nat) : Int := if k = 1 then n else 0
theorem befores_any (k : Int) (n : Nat) (w : World) : Calls Tryz.prog 127 #[.int .i64 k, .int .i64 n] w fun e w' => e = .returned (.int .i64 (befR k n)) ∧ w = w' := by
 by_cases h1 : k = 1
 ·
  subst h1
  go_enter Tryz.func127, Tryz.ntmps127
  go_wp2
  go_ret
  exact ⟨rfl, rfl⟩
 ·
  go_enter Tryz.func127, Tryz.ntmps127
  go_wp2
  go_ret
  exact ⟨ret_i (by simp [befR, h1]), rfl⟩
def fitQ (k g o : Int) (nb na : Nat) : Bool := decide (0 ≤ g ∧ g < 4096 ∧ 1 ≤ na ∧ (nb : Int) = befR k na ∧ 0 ≤ o ∧ o ≤ 248 - (na : Int))
def SlM1 (k : Int) (t : Nat) (p : Nat) (x : Nat) (g : Int) (o : Int) (pb : Option Addr) (nb : Nat) (cb : Nat) (pa : Option Addr) (na : Nat) (ca : Nat) (d : Nat) (V : Value) (_ : Bool) (slot : Nat) (v : Value) (_ : World) : Prop :=
 match slot with
 | 3 => v = .pointer (some ⟨d, 1, none⟩)
 | 4 => v = .int .u64 t
 | 5 | 6 => v = .bool true
 | 7 | 8 => v = .agg #[.int .i64 k, .int .u64 t, .int .u64 p, .int .u64 x, .int .i64 g, .int .i64 o, .slice pb nb cb, .slice pa na ca]
 | 9 => v = V
 | 10 | 11 | 12 | 21 | 2 => v = .bool false
 | 17 => v = undef
 | _ => True
def SlM2 (k : Int) (t : Nat) (p : Nat) (x : Nat) (g : Int) (o : Int) (pb : Option Addr) (nb : Nat) (cb : Nat) (pa : Option Addr) (na : Nat) (ca : Nat) (d : Nat) (V : Value) (_ : Bool) (slot : Nat) (v : Value) (_ : World) : Prop :=
 match slot with
 | 3 => v = .pointer (some ⟨d, 1, none⟩)
 | 4 => v = .int .u64 t
 | 5 | 6 | 10 | 11 | 12 | 16 | 17 | 20 | 21 | 2 => v = .bool true
 | 7 | 8 => v = .agg #[.int .i64 k, .int .u64 t, .int .u64 p, .int .u64 x, .int .i64 g, .int .i64 o, .slice pb nb cb, .slice pa na ca]
 | 9 => v = V
 | 13 => v = .pointer (some ⟨d, 0, none⟩)
 | 14 => v = .int .i64 k
 | 15 => v = .bool false
 | _ => True
set_option maxRecDepth 100000 in
set_option maxHeartbeats 4000000 in
theorem fitsR_any (k : Int) (t : Nat) (p : Nat) (x : Nat) (g : Int) (o : Int) (pb : Option Addr) (nb : Nat) (cb : Nat) (pa : Option Addr) (na : Nat) (ca : Nat) (w : World) (hn : (na : Int) ≤ 9223372036854775807) : Calls Tryz.prog 111 #[.agg #[.int .i64 k, .int .u64 t, .int .u64 p, .int .u64 x, .int .i64 g, .int .i64 o, .slice pb nb cb, .slice pa na ca]] w (RetB (fitQ k g o nb na) w) := by
 have HB := Lib.hid (Blk.new w TR #[.int .i64 k, .int .u64 t, .int .u64 p, .int .u64 x, .int .i64 g, .int .i64 o, .slice pb nb cb, .slice pa na ca]); obtain ⟨c0, c1, c2, c3, c4, c5, c6, c7⟩ := HB.out.c8; have HF := Lib.hid (befores_any k na); have HW : Hid (IntKind.i64.wrap (248 - (na : Int)) = 248 - (na : Int)) := Lib.hid (by rw [IntKind.wrap_i64]; omega)
 by_cases h0 : 0 ≤ g
 ·
  by_cases h1 : g < 4096
  ·
   by_cases h2 : 1 ≤ na
   ·
    have h2' : (1 : Int) ≤ na := by omega
    by_cases h3 : (nb : Int) = befR k na
    ·
     have HQ := Lib.hid h3; clear h3
     by_cases h4 : 0 ≤ o
     ·
      by_cases h5 : o ≤ 248 - (na : Int)
      ·
       have HR : Hid (fitQ k g o nb na = true) := Lib.hid (decide_eq_true ⟨h0, h1, h2, HQ.out, h4, h5⟩)
       go_enter Tryz.func111, Tryz.ntmps111
       go_wp2_with fail; have x0 : decide (0 ≤ g) = true := decide_eq_true (by omega); have x1 : decide (g < 4096) = true := decide_eq_true (by omega); have x2 : decide (1 ≤ (na : Int)) = true := decide_eq_true (by omega)
       have x3 : ((nb : Int) == befR k na) = true := by simpa using HQ.out
       have x4 : decide (0 ≤ o) = true := decide_eq_true (by omega); have x5 : decide (o ≤ 248 - (na : Int)) = true := decide_eq_true (by omega); have hw := HW.out
       go_quiet (exact Calls.quiet_of ((HF.out _).mono fun _ _ h => ⟨h.1, 0, h.2.symm⟩))
       go_wp2_with fail
       go_ret
       exact ⟨ret_b HR.out.symm, gr_drewN ((Gr.refl w).alloc (Nat.le_refl _) _) _⟩
      ·
       have HR : Hid (fitQ k g o nb na = false) := Lib.hid (decide_eq_false (by omega)); have d5 : decide (o ≤ 248 - (na : Int)) = false := decide_eq_false h5
       go_enter Tryz.func111, Tryz.ntmps111
       go_wp2_with fail; have x0 : decide (0 ≤ g) = true := decide_eq_true (by omega); have x1 : decide (g < 4096) = true := decide_eq_true (by omega); have x2 : decide (1 ≤ (na : Int)) = true := decide_eq_true (by omega)
       have x3 : ((nb : Int) == befR k na) = true := by simpa using HQ.out
       have x4 : decide (0 ≤ o) = true := decide_eq_true (by omega); have x5 : decide (o ≤ 248 - (na : Int)) = false := decide_eq_false (by omega); have hw := HW.out
       go_quiet (exact Calls.quiet_of ((HF.out _).mono fun _ _ h => ⟨h.1, 0, h.2.symm⟩))
       go_wp2_with fail
       go_ret
       exact ⟨ret_b HR.out.symm, gr_drewN ((Gr.refl w).alloc (Nat.le_refl _) _) _⟩
     ·
      have HR : Hid (fitQ k g o nb na = false) := Lib.hid (decide_eq_false (by omega)); have d4 : decide (0 ≤ o) = false := decide_eq_false h4
      go_enter Tryz.func111, Tryz.ntmps111
      go_wp2_with fail; have x0 : decide (0 ≤ g) = true := decide_eq_true (by omega); have x1 : decide (g < 4096) = true := decide_eq_true (by omega); have x2 : decide (1 ≤ (na : Int)) = true := decide_eq_true (by omega)
      have x3 : ((nb : Int) == befR k na) = true := by simpa using HQ.out
      have x4 : decide (0 ≤ o) = false := decide_eq_false (by omega); have hw := HW.out
      go_quiet (exact Calls.quiet_of ((HF.out _).mono fun _ _ h => ⟨h.1, 0, h.2.symm⟩))
      go_wp2_with fail
      go_ret
      exact ⟨ret_b HR.out.symm, gr_drewN ((Gr.refl w).alloc (Nat.le_refl _) _) _⟩
    ·
     have HR : Hid (fitQ k g o nb na = false) := Lib.hid (decide_eq_false (fun h => h3 h.2.2.2.1)); have HQ : Hid (((nb : Int) == befR k na) = false) := Lib.hid (by simpa using h3); clear h3
     go_enter Tryz.func111, Tryz.ntmps111
     go_wp2_with fail; have x0 : decide (0 ≤ g) = true := decide_eq_true (by omega); have x1 : decide (g < 4096) = true := decide_eq_true (by omega); have x2 : decide (1 ≤ (na : Int)) = true := decide_eq_true (by omega); have x3 : ((nb : Int) == befR k na) = false := HQ.out
     go_quiet (exact Calls.quiet_of ((HF.out _).mono fun _ _ h => ⟨h.1, 0, h.2.symm⟩))
     go_wp2_with fail
     go_ret
     exact ⟨ret_b HR.out.symm, gr_drewN ((Gr.refl w).alloc (Nat.le_refl _) _) _⟩
   ·
    obtain rfl : na = 0 := by omega
    have HR : Hid (fitQ k g o nb 0 = false) := Lib.hid (decide_eq_false (by omega))
    go_enter Tryz.func111, Tryz.ntmps111
    go_wp2_with fail; have x0 : decide (0 ≤ g) = true := decide_eq_true (by omega); have x1 : decide (g < 4096) = true := decide_eq_true (by omega); have x2 : decide (1 ≤ ((0 : Nat) : Int)) = false := decide_eq_false (by omega)
    go_quiet (exact Calls.quiet_of ((HF.out _).mono fun _ _ h => ⟨h.1, 0, h.2.symm⟩))
    go_wp2_with fail
    go_ret
    exact ⟨ret_b HR.out.symm, gr_drewN ((Gr.refl w).alloc (Nat.le_refl _) _) _⟩
  ·
   have HR : Hid (fitQ k g o nb na = false) := Lib.hid (decide_eq_false (by omega)); have d1 : decide (g < 4096) = false := decide_eq_false h1
   go_enter Tryz.func111, Tryz.ntmps111
   go_wp2_with fail; have x0 : decide (0 ≤ g) = true := decide_eq_true (by omega); have x1 : decide (g < 4096) = false := decide_eq_false (by omega)
   go_quiet (exact Calls.quiet_of ((HF.out _).mono fun _ _ h => ⟨h.1, 0, h.2.symm⟩))
   go_wp2_with fail
   go_ret
   exact ⟨ret_b HR.out.symm, gr_drewN ((Gr.refl w).alloc (Nat.le_refl _) _) _⟩
 ·
  have HR : Hid (fitQ k g o nb na = false) := Lib.hid (decide_eq_false (by omega)); have d0 : decide (0 ≤ g) = false := decide_eq_false h0
  go_enter Tryz.func111, Tryz.ntmps111
  go_wp2_with fail; have x0 : decide (0 ≤ g) = false := decide_eq_false (by omega)
  go_quiet (exact Calls.quiet_of ((HF.out _).mono fun _ _ h => ⟨h.1, 0, h.2.symm⟩))
  go_wp2_with fail
  go_ret
  exact ⟨ret_b HR.out.symm, gr_drewN ((Gr.refl w).alloc (Nat.le_refl _) _) _⟩
set_option maxRecDepth 100000 in
set_option maxHeartbeats 4000000 in
theorem may_core (k : Int) (t : Nat) (p : Nat) (x : Nat) (g : Int) (o : Int) (pb : Option Addr) (nb : Nat) (cb : Nat) (pa : Option Addr) (na : Nat) (ca : Nat) (V : Value) (S F : Bool) (w : World) (hN : ∀ W, Calls Tryz.prog 109 #[.agg #[.int .i64 k, .int .u64 t, .int .u64 p, .int .u64 x, .int .i64 g, .int .i64 o, .slice pb nb cb, .slice pa na ca]] W (RetV V W))
  (hS : ∀ W, Gr w W → Calls Tryz.prog 108 #[.agg #[.int .i64 k, .int .u64 t, .int .u64 p, .int .u64 x, .int .i64 g, .int .i64 o, .slice pb nb cb, .slice pa na ca], V] W (RetB S W)) (hF : ∀ W, Calls Tryz.prog 111 #[.agg #[.int .i64 k, .int .u64 t, .int .u64 p, .int .u64 x, .int .i64 g, .int .i64 o, .slice pb nb cb, .slice pa na ca]] W (RetB F W)) :
  Calls Tryz.prog 88 #[.agg #[.int .i64 k, .int .u64 t, .int .u64 p, .int .u64 x, .int .i64 g, .int .i64 o, .slice pb nb cb, .slice pa na ca]] w (RetB (!decide (t = 0) && (S && (!chB k || F))) w) := by
 have HB := Lib.hid (Blk.new w TR #[.int .i64 k, .int .u64 t, .int .u64 p, .int .u64 x, .int .i64 g, .int .i64 o, .slice pb nb cb, .slice pa na ca]); obtain ⟨c0, c1, c2, c3, c4, c5, c6, c7⟩ := HB.out.c8; have HN := Lib.hid hN; have HF := Lib.hid hF; have HS : Hid (∀ W, Gr (w.alloc (.cells #[.int .i64 k, .int .u64 t, .int .u64 p, .int .u64 x, .int .i64 g, .int .i64 o, .slice pb nb cb, .slice pa na ca] TR)) W → Calls Tryz.prog 108 #[.agg #[.int .i64 k, .int .u64 t, .int .u64 p, .int .u64 x, .int .i64 g, .int .i64 o, .slice pb nb cb, .slice pa na ca], V] W (RetB S W)) := Lib.hid (fun W g => hS W (grow1 g)); clear hN hF hS
 by_cases ht : t = 0
 ·
  have HT := Lib.hid ht; clear ht
  go_enter Tryz.func88, Tryz.ntmps88
  go_wp2_with fail
  have hq : ((t : Int) != 0) = false := by simp [HT.out]
  go_quiet (fail)
  go_wp2_with fail
  go_ret
  exact ⟨ret_b (by rw [decide_eq_true HT.out]; rfl), gr_drewN ((Gr.refl w).alloc (Nat.le_refl _) _) _⟩
 ·
  have HT : Hid (((t : Int) != 0) = true ∧ decide (t = 0) = false) := Lib.hid ⟨by simp; omega, decide_eq_false ht⟩; clear ht
  cases S
  ·
   go_enter Tryz.func88, Tryz.ntmps88
   go_wp2_with fail; refine Flow.region (SlM1 k t p x g o pb nb cb pa na ca w.heap.size V F) (Gr (w.alloc (.cells #[.int .i64 k, .int .u64 t, .int .u64 p, .int .u64 x, .int .i64 g, .int .i64 o, .slice pb nb cb, .slice pa na ca] TR))) (fun _ _ => True) (by kernel_rfl) (by kernel_rfl) (fun _ _ _ _ h _ => h) ⟨rfl, rfl, rfl, Nat.le_refl _, fun _ _ => rfl⟩ ?steps ?fin
   case steps =>
    refine .cons (fun a W hfr hinv hdep K hK => ?_) ?_
    · have t1 := tAt (.pointer (some ⟨w.heap.size, 0, none⟩)) (hfr.at 1 (by kernel_rfl)); refine fW0 rfl ?_; clear hfr hdep; go_simp; exact hK _ _ True.intro hinv (dsT (by trivial))
    refine .cons (fun a W hfr hinv hdep K hK => ?_) ?_
    · have t3 := tAt (.pointer (some ⟨w.heap.size, 1, none⟩)) (hdep 3 (by kernel_rfl)); obtain ⟨c0, c1, c2, c3, c4, c5, c6, c7⟩ := (HB.out.below hinv HB.out.lt).c8; refine fW0 rfl ?_; clear hfr hdep; go_simp; exact hK _ _ True.intro hinv (dsT (by trivial))
    refine .cons (fun a W hfr hinv hdep K hK => ?_) ?_
    · have t4 := tAt (.int .u64 t) (hdep 4 (by kernel_rfl)); obtain ⟨hq, hq2⟩ := HT.out; refine fW0 rfl ?_; clear hfr hdep; go_simp; exact hK _ _ True.intro hinv (dsT (by trivial))
    refine .cons (fun a W hfr hinv hdep K hK => ?_) ?_
    · have t5 := tAt (.bool true) (hdep 5 (by kernel_rfl)); refine fW0 rfl ?_; clear hfr hdep; go_simp; exact hK _ _ True.intro hinv (dsT (by trivial))
    refine .cons (fun a W hfr hinv hdep K hK => ?_) ?_
    · have sg : a.tmps.getD 6 undef = .bool true := hdep 6 (by kernel_rfl); have t1 := tAt (.pointer (some ⟨w.heap.size, 0, none⟩)) (hfr.at 1 (by kernel_rfl)); obtain ⟨c0, c1, c2, c3, c4, c5, c6, c7⟩ := (HB.out.below hinv HB.out.lt).c8; rw [if_pos (Flow.wanted_yes 3 true 6 rfl (by kernel_rfl) sg)]; clear hfr hdep; go_simp; exact hK _ _ True.intro hinv (dsT (by trivial))
    refine .cons (fun a W hfr hinv hdep K hK => ?_) ?_
    · have sg : a.tmps.getD 6 undef = .bool true := hdep 6 (by kernel_rfl); have t1 := tAt (.pointer (some ⟨w.heap.size, 0, none⟩)) (hfr.at 1 (by kernel_rfl)); obtain ⟨c0, c1, c2, c3, c4, c5, c6, c7⟩ := (HB.out.below hinv HB.out.lt).c8; rw [if_pos (Flow.wanted_yes 3 true 6 rfl (by kernel_rfl) sg)]; clear hfr hdep; go_simp; exact hK _ _ True.intro hinv (dsT (by trivial))
    refine .cons (fun a W hfr hinv hdep K hK => ?_) ?_
    · have sg : a.tmps.getD 6 undef = .bool true := hdep 6 (by kernel_rfl); have t8 := tAt (.agg #[.int .i64 k, .int .u64 t, .int .u64 p, .int .u64 x, .int .i64 g, .int .i64 o, .slice pb nb cb, .slice pa na ca]) (hdep 8 (by kernel_rfl)); rw [if_pos (Flow.wanted_yes 3 true 6 rfl (by kernel_rfl) sg)]; clear hfr hdep; go_simp; refine (HN.out W).mono ?_; rintro e W' ⟨rfl, g1⟩; exact hK _ _ True.intro (Gr.trans hinv g1) (dsT (by trivial))
    refine .cons (fun a W hfr hinv hdep K hK => ?_) ?_
    · have sg : a.tmps.getD 6 undef = .bool true := hdep 6 (by kernel_rfl); have t7 := tAt (.agg #[.int .i64 k, .int .u64 t, .int .u64 p, .int .u64 x, .int .i64 g, .int .i64 o, .slice pb nb cb, .slice pa na ca]) (hdep 7 (by kernel_rfl)); have t9 := tAt (V) (hdep 9 (by kernel_rfl)); rw [if_pos (Flow.wanted_yes 3 true 6 rfl (by kernel_rfl) sg)]; clear hfr hdep; go_simp; refine (HS.out W hinv).mono ?_; rintro e W' ⟨rfl, g1⟩; exact hK _ _ True.intro (Gr.trans hinv g1) (dsT (by trivial))
    refine .cons (fun a W hfr hinv hdep K hK => ?_) ?_
    · have t6 := tAt (.bool true) (hdep 6 (by kernel_rfl)); have t10 := tAt (.bool false) (hdep 10 (by kernel_rfl)); refine fW0 rfl ?_; clear hfr hdep; go_simp; exact hK _ _ True.intro hinv (dsT (by trivial))
    refine .cons (fun a W hfr hinv hdep K hK => ?_) ?_
    · have t11 := tAt (.bool false) (hdep 11 (by kernel_rfl)); refine fW0 rfl ?_; clear hfr hdep; go_simp; exact hK _ _ True.intro hinv (dsT (by trivial))
    refine .cons (fun a W hfr hinv hdep K hK => ?_) ?_
    · have sg : a.tmps.getD 12 undef = .bool !true := hdep 12 (by kernel_rfl); have t1 := tAt (.pointer (some ⟨w.heap.size, 0, none⟩)) (hfr.at 1 (by kernel_rfl)); rw [if_neg (Flow.wanted_no 9 true 12 rfl (by kernel_rfl) sg)]; clear hfr hdep; exact hK _ _ True.intro hinv (dsT (by trivial))
    refine .cons (fun a W hfr hinv hdep K hK => ?_) ?_
    · have sg : a.tmps.getD 12 undef = .bool !true := hdep 12 (by kernel_rfl); obtain ⟨c0, c1, c2, c3, c4, c5, c6, c7⟩ := (HB.out.below hinv HB.out.lt).c8; rw [if_neg (Flow.wanted_no 9 true 12 rfl (by kernel_rfl) sg)]; clear hfr hdep; exact hK _ _ True.intro hinv (dsT (by trivial))
    refine .cons (fun a W hfr hinv hdep K hK => ?_) ?_
    · have sg : a.tmps.getD 12 undef = .bool !true := hdep 12 (by kernel_rfl); rw [if_neg (Flow.wanted_no 9 true 12 rfl (by kernel_rfl) sg)]; clear hfr hdep; exact hK _ _ True.intro hinv (dsT (by trivial))
    refine .cons (fun a W hfr hinv hdep K hK => ?_) ?_
    · have sg : a.tmps.getD 12 undef = .bool !true := hdep 12 (by kernel_rfl); rw [if_neg (Flow.wanted_no 9 true 12 rfl (by kernel_rfl) sg)]; clear hfr hdep; exact hK _ _ True.intro hinv (dsT (by trivial))
    refine .cons (fun a W hfr hinv hdep K hK => ?_) ?_
    · have sg : a.tmps.getD 12 undef = .bool !true := hdep 12 (by kernel_rfl); rw [if_neg (Flow.wanted_no 9 true 12 rfl (by kernel_rfl) sg)]; clear hfr hdep; exact hK _ _ True.intro hinv (dsT (by trivial))
    refine .cons (fun a W hfr hinv hdep K hK => ?_) ?_
    · have sg : a.tmps.getD 17 undef = undef := hdep 17 (by kernel_rfl); have t1 := tAt (.pointer (some ⟨w.heap.size, 0, none⟩)) (hfr.at 1 (by kernel_rfl)); obtain ⟨c0, c1, c2, c3, c4, c5, c6, c7⟩ := (HB.out.below hinv HB.out.lt).c8; rw [if_neg (Flow.wanted_undef 14 false 17 rfl (by kernel_rfl) sg)]; clear hfr hdep; exact hK _ _ True.intro hinv (dsT (by trivial))
    refine .cons (fun a W hfr hinv hdep K hK => ?_) ?_
    · have sg : a.tmps.getD 17 undef = undef := hdep 17 (by kernel_rfl); rw [if_neg (Flow.wanted_undef 14 false 17 rfl (by kernel_rfl) sg)]; clear hfr hdep; exact hK _ _ True.intro hinv (dsT (by trivial))
    refine .cons (fun a W hfr hinv hdep K hK => ?_) ?_
    · have sg : a.tmps.getD 12 undef = .bool !true := hdep 12 (by kernel_rfl); have t17 := tAt (undef) (hdep 17 (by kernel_rfl)); rw [if_neg (Flow.wanted_no 9 true 12 rfl (by kernel_rfl) sg)]; clear hfr hdep; exact hK _ _ True.intro hinv (dsT (by trivial))
    refine .cons (fun a W hfr hinv hdep K hK => ?_) ?_
    · have t12 := tAt (.bool false) (hdep 12 (by kernel_rfl)); refine fW0 rfl ?_; clear hfr hdep; go_simp; exact hK _ _ True.intro hinv (dsT (by trivial))
    refine .cons (fun a W hfr hinv hdep K hK => ?_) ?_
    · have t21 := tAt (.bool false) (hdep 21 (by kernel_rfl)); refine fW0 rfl ?_; clear hfr hdep; go_simp; exact hK _ _ True.intro hinv (dsT (by trivial))
    exact True.intro
   case fin =>
    intro a W hfr hfin hsl
    have s2 : a.tmps.getD 2 undef = .bool false := hsl 19 _ 2 rfl rfl; have t2 := tmpAt s2; have e := Flow.frame hfr [3, 4, 5, 6, 7, 8, 9, 10, 11, 12, 13, 14, 15, 16, 17, 18, 19, 20, 21, 2] (List.range 22) (by kernel_rfl) (by kernel_rfl)
    simp [List.range, List.range.loop] at e
    rw [t2] at e
    rw [e]; clear e hfr hsl s2 t2
    rename_i K2 hK2
    refine hK2 _ _ ?_; go_wp2_with fail
    go_ret
    exact ⟨ret_b (by rw [HT.out.2]; rfl), grow1 hfin⟩
  ·
   cases hc : chB k
   ·
    have HC := Lib.hid hc; clear hc
    go_enter Tryz.func88, Tryz.ntmps88
    go_wp2_with fail; refine Flow.region (SlM2 k t p x g o pb nb cb pa na ca w.heap.size V F) (Gr (w.alloc (.cells #[.int .i64 k, .int .u64 t, .int .u64 p, .int .u64 x, .int .i64 g, .int .i64 o, .slice pb nb cb, .slice pa na ca] TR))) (fun _ _ => True) (by kernel_rfl) (by kernel_rfl) (fun _ _ _ _ h _ => h) ⟨rfl, rfl, rfl, Nat.le_refl _, fun _ _ => rfl⟩ ?steps ?fin
    case steps =>
     refine .cons (fun a W hfr hinv hdep K hK => ?_) ?_
     · have t1 := tAt (.pointer (some ⟨w.heap.size, 0, none⟩)) (hfr.at 1 (by kernel_rfl)); refine fW0 rfl ?_; clear hfr hdep; go_simp; exact hK _ _ True.intro hinv (dsT (by trivial))
     refine .cons (fun a W hfr hinv hdep K hK => ?_) ?_
     · have t3 := tAt (.pointer (some ⟨w.heap.size, 1, none⟩)) (hdep 3 (by kernel_rfl)); obtain ⟨c0, c1, c2, c3, c4, c5, c6, c7⟩ := (HB.out.below hinv HB.out.lt).c8; refine fW0 rfl ?_; clear hfr hdep; go_simp; exact hK _ _ True.intro hinv (dsT (by trivial))
     refine .cons (fun a W hfr hinv hdep K hK => ?_) ?_
     · have t4 := tAt (.int .u64 t) (hdep 4 (by kernel_rfl)); obtain ⟨hq, hq2⟩ := HT.out; refine fW0 rfl ?_; clear hfr hdep; go_simp; exact hK _ _ True.intro hinv (dsT (by trivial))
     refine .cons (fun a W hfr hinv hdep K hK => ?_) ?_
     · have t5 := tAt (.bool true) (hdep 5 (by kernel_rfl)); refine fW0 rfl ?_; clear hfr hdep; go_simp; exact hK _ _ True.intro hinv (dsT (by trivial))
     refine .cons (fun a W hfr hinv hdep K hK => ?_) ?_
     · have sg : a.tmps.getD 6 undef = .bool true := hdep 6 (by kernel_rfl); have t1 := tAt (.pointer (some ⟨w.heap.size, 0, none⟩)) (hfr.at 1 (by kernel_rfl)); obtain ⟨c0, c1, c2, c3, c4, c5, c6, c7⟩ := (HB.out.below hinv HB.out.lt).c8; rw [if_pos (Flow.wanted_yes 3 true 6 rfl (by kernel_rfl) sg)]; clear hfr hdep; go_simp; exact hK _ _ True.intro hinv (dsT (by trivial))
     refine .cons (fun a W hfr hinv hdep K hK => ?_) ?_
     · have sg : a.tmps.getD 6 undef = .bool true := hdep 6 (by kernel_rfl); have t1 := tAt (.pointer (some ⟨w.heap.size, 0, none⟩)) (hfr.at 1 (by kernel_rfl)); obtain ⟨c0, c1, c2, c3, c4, c5, c6, c7⟩ := (HB.out.below hinv HB.out.lt).c8; rw [if_pos (Flow.wanted_yes 3 true 6 rfl (by kernel_rfl) sg)]; clear hfr hdep; go_simp; exact hK _ _ True.intro hinv (dsT (by trivial))
     refine .cons (fun a W hfr hinv hdep K hK => ?_) ?_
     · have sg : a.tmps.getD 6 undef = .bool true := hdep 6 (by kernel_rfl); have t8 := tAt (.agg #[.int .i64 k, .int .u64 t, .int .u64 p, .int .u64 x, .int .i64 g, .int .i64 o, .slice pb nb cb, .slice pa na ca]) (hdep 8 (by kernel_rfl)); rw [if_pos (Flow.wanted_yes 3 true 6 rfl (by kernel_rfl) sg)]; clear hfr hdep; go_simp; refine (HN.out W).mono ?_; rintro e W' ⟨rfl, g1⟩; exact hK _ _ True.intro (Gr.trans hinv g1) (dsT (by trivial))
     refine .cons (fun a W hfr hinv hdep K hK => ?_) ?_
     · have sg : a.tmps.getD 6 undef = .bool true := hdep 6 (by kernel_rfl); have t7 := tAt (.agg #[.int .i64 k, .int .u64 t, .int .u64 p, .int .u64 x, .int .i64 g, .int .i64 o, .slice pb nb cb, .slice pa na ca]) (hdep 7 (by kernel_rfl)); have t9 := tAt (V) (hdep 9 (by kernel_rfl)); rw [if_pos (Flow.wanted_yes 3 true 6 rfl (by kernel_rfl) sg)]; clear hfr hdep; go_simp; refine (HS.out W hinv).mono ?_; rintro e W' ⟨rfl, g1⟩; exact hK _ _ True.intro (Gr.trans hinv g1) (dsT (by trivial))
     refine .cons (fun a W hfr hinv hdep K hK => ?_) ?_
     · have t6 := tAt (.bool true) (hdep 6 (by kernel_rfl)); have t10 := tAt (.bool true) (hdep 10 (by kernel_rfl)); refine fW0 rfl ?_; clear hfr hdep; go_simp; exact hK _ _ True.intro hinv (dsT (by trivial))
     refine .cons (fun a W hfr hinv hdep K hK => ?_) ?_
     · have t11 := tAt (.bool true) (hdep 11 (by kernel_rfl)); refine fW0 rfl ?_; clear hfr hdep; go_simp; exact hK _ _ True.intro hinv (dsT (by trivial))
     refine .cons (fun a W hfr hinv hdep K hK => ?_) ?_
     · have sg : a.tmps.getD 12 undef = .bool true := hdep 12 (by kernel_rfl); have t1 := tAt (.pointer (some ⟨w.heap.size, 0, none⟩)) (hfr.at 1 (by kernel_rfl)); rw [if_pos (Flow.wanted_yes 9 true 12 rfl (by kernel_rfl) sg)]; clear hfr hdep; go_simp; exact hK _ _ True.intro hinv (dsT (by trivial))
     refine .cons (fun a W hfr hinv hdep K hK => ?_) ?_
     · have sg : a.tmps.getD 12 undef = .bool true := hdep 12 (by kernel_rfl); have t13 := tAt (.pointer (some ⟨w.heap.size, 0, none⟩)) (hdep 13 (by kernel_rfl)); obtain ⟨c0, c1, c2, c3, c4, c5, c6, c7⟩ := (HB.out.below hinv HB.out.lt).c8; rw [if_pos (Flow.wanted_yes 9 true 12 rfl (by kernel_rfl) sg)]; clear hfr hdep; go_simp; exact hK _ _ True.intro hinv (dsT (by trivial))
     refine .cons (fun a W hfr hinv hdep K hK => ?_) ?_
     · have sg : a.tmps.getD 12 undef = .bool true := hdep 12 (by kernel_rfl); have t14 := tAt (.int .i64 k) (hdep 14 (by kernel_rfl)); rw [if_pos (Flow.wanted_yes 9 true 12 rfl (by kernel_rfl) sg)]; clear hfr hdep; go_simp; refine (changes_any _ W).mono ?_; rintro e W' ⟨rfl, rfl⟩; rw [HC.out]; exact hK _ _ True.intro hinv (dsT (by trivial))
     refine .cons (fun a W hfr hinv hdep K hK => ?_) ?_
     · have sg : a.tmps.getD 12 undef = .bool true := hdep 12 (by kernel_rfl); have t15 := tAt (.bool false) (hdep 15 (by kernel_rfl)); rw [if_pos (Flow.wanted_yes 9 true 12 rfl (by kernel_rfl) sg)]; clear hfr hdep; go_simp; exact hK _ _ True.intro hinv (dsT (by trivial))
     refine .cons (fun a W hfr hinv hdep K hK => ?_) ?_
     · have sg : a.tmps.getD 12 undef = .bool true := hdep 12 (by kernel_rfl); have t16 := tAt (.bool true) (hdep 16 (by kernel_rfl)); rw [if_pos (Flow.wanted_yes 9 true 12 rfl (by kernel_rfl) sg)]; clear hfr hdep; go_simp; exact hK _ _ True.intro hinv (dsT (by trivial))
     refine .cons (fun a W hfr hinv hdep K hK => ?_) ?_
     · have sg : a.tmps.getD 17 undef = .bool !false := hdep 17 (by kernel_rfl); have t1 := tAt (.pointer (some ⟨w.heap.size, 0, none⟩)) (hfr.at 1 (by kernel_rfl)); obtain ⟨c0, c1, c2, c3, c4, c5, c6, c7⟩ := (HB.out.below hinv HB.out.lt).c8; rw [if_neg (Flow.wanted_no 14 false 17 rfl (by kernel_rfl) sg)]; clear hfr hdep; exact hK _ _ True.intro hinv (dsT (by trivial))
     refine .cons (fun a W hfr hinv hdep K hK => ?_) ?_
     · have sg : a.tmps.getD 17 undef = .bool !false := hdep 17 (by kernel_rfl); rw [if_neg (Flow.wanted_no 14 false 17 rfl (by kernel_rfl) sg)]; clear hfr hdep; exact hK _ _ True.intro hinv (dsT (by trivial))
     refine .cons (fun a W hfr hinv hdep K hK => ?_) ?_
     · have sg : a.tmps.getD 12 undef = .bool true := hdep 12 (by kernel_rfl); have t17 := tAt (.bool true) (hdep 17 (by kernel_rfl)); rw [if_pos (Flow.wanted_yes 9 true 12 rfl (by kernel_rfl) sg)]; clear hfr hdep; go_simp; exact hK _ _ True.intro hinv (dsT (by trivial))
     refine .cons (fun a W hfr hinv hdep K hK => ?_) ?_
     · have t12 := tAt (.bool true) (hdep 12 (by kernel_rfl)); have t20 := tAt (.bool true) (hdep 20 (by kernel_rfl)); refine fW0 rfl ?_; clear hfr hdep; go_simp; exact hK _ _ True.intro hinv (dsT (by trivial))
     refine .cons (fun a W hfr hinv hdep K hK => ?_) ?_
     · have t21 := tAt (.bool true) (hdep 21 (by kernel_rfl)); refine fW0 rfl ?_; clear hfr hdep; go_simp; exact hK _ _ True.intro hinv (dsT (by trivial))
     exact True.intro
    case fin =>
     intro a W hfr hfin hsl
     have s2 : a.tmps.getD 2 undef = .bool true := hsl 19 _ 2 rfl rfl; have t2 := tmpAt s2; have e := Flow.frame hfr [3, 4, 5, 6, 7, 8, 9, 10, 11, 12, 13, 14, 15, 16, 17, 18, 19, 20, 21, 2] (List.range 22) (by kernel_rfl) (by kernel_rfl)
     simp [List.range, List.range.loop] at e
     rw [t2] at e
     rw [e]; clear e hfr hsl s2 t2
     rename_i K2 hK2
     refine hK2 _ _ ?_; go_wp2_with fail
     go_ret
     exact ⟨ret_b (by rw [HT.out.2]; rfl), grow1 hfin⟩
   ·
    have HC := Lib.hid hc; clear hc
    go_enter Tryz.func88, Tryz.ntmps88
    go_wp2_with fail; obtain ⟨hq, hq2⟩ := HT.out; have y := HB.out.c8
    go_region_held3 (fun V1 => V1.cell? ⟨w.heap.size, 0, none⟩ = some (.int .i64 k) ∧ V1.cell? ⟨w.heap.size, 1, none⟩ = some (.int .u64 t) ∧ V1.cell? ⟨w.heap.size, 2, none⟩ = some (.int .u64 p) ∧ V1.cell? ⟨w.heap.size, 3, none⟩ = some (.int .u64 x) ∧ V1.cell? ⟨w.heap.size, 4, none⟩ = some (.int .i64 g) ∧ V1.cell? ⟨w.heap.size, 5, none⟩ = some (.int .i64 o) ∧ V1.cell? ⟨w.heap.size, 6, none⟩ = some (.slice pb nb cb) ∧ V1.cell? ⟨w.heap.size, 7, none⟩ = some (.slice pa na ca)) (first | exact y | exact y1 | exact y2 | exact y4) (first | (go_at_call 109; refine (HN.out _).mono ?_; rintro e W1 ⟨rfl, g1⟩; have h1 := Gr.trans ((Gr.refl (w.alloc (.cells #[.int .i64 k, .int .u64 t, .int .u64 p, .int .u64 x, .int .i64 g, .int .i64 o, .slice pb nb cb, .slice pa na ca] TR))).drew) g1; have H1 := Lib.hid h1; have y1 := (HB.out.below h1 HB.out.lt).c8) | (go_at_call 108; refine (HS.out W1 H1.out).mono ?_; rintro e W2 ⟨rfl, g2⟩; have h2 := Gr.trans H1.out g2; have H2 := Lib.hid h2; have y2 := (HB.out.below h2 HB.out.lt).c8) | (go_at_call 110; refine (changes_any _ W2).mono ?_; rintro e W3 ⟨rfl, rfl⟩; rw [HC.out]) | (go_at_call 111; refine (HF.out _).mono ?_; rintro e W4 ⟨rfl, g4⟩; have h4 := Gr.trans H2.out g4; have H4 := Lib.hid h4; have y4 := (HB.out.below h4 HB.out.lt).c8))
    go_wp2_with fail
    go_ret
    exact ⟨ret_b (by rw [HT.out.2]; rfl), grow1 H4.out⟩
end Go.Proofs.YtbpgonmoepnnpaaGreat
namespace Go.Proofs.YtbpgonmoepnnpaaGreat
open Go.RowKit
set_option maxHeartbeats 400000 in
theorem refJoin_any (p : Option Addr) (n c : Nat) (xss : List (List Int)) (w : World) (h : Rows w p n c xss) (hbig : tot xss ≤ 140737488355328) : Calls Tryz.prog 78 #[.slice p n c] w (RetByte xss.flatten w) := by
 have HLen := Lib.hid h.len
 have hn63 : n ≤ 9223372036854775807 := by have := h.cap; have := h.most; unfold maxLen at this; omega
 have HH := Lib.hid h; have Hbig := Lib.hid hbig; clear h hbig
 go_enter Tryz.func78, Tryz.ntmps78
 go_wp2
 have HO : Hid (OwnB (w.alloc (.cells #[] 5)) w.heap.size 5 (.slice (some ⟨w.heap.size, 0, none⟩) 0 0) []) := ⟨World.ownsRow_made (w := w) #[] 0 (Nat.le_refl _) (Nat.zero_le _) rfl, fun _ h => by cases h⟩; have HB : Hid (Below w.heap.size w (w.alloc (.cells #[] 5))) := (Below.refl _ _).alloc (Nat.le_refl _) _
 go_loopw [3, 4] (fun v i wr => ∃ j : Nat, j ≤ n ∧ i = .int .i64 j ∧ Hid (OwnB wr w.heap.size 5 v (xss.take j).flatten) ∧ Hid (Below w.heap.size w wr)) (fun _ i _ => n - (intOf i).toNat)
 case atStart => exact ⟨0, Nat.zero_le _, rfl, HO, HB⟩
 case round =>
  obtain ⟨j, hj, rfl, ho, hb⟩ := hrel; have hbs := hb.out.size
  by_cases hlt : j < n
  ·
   obtain ⟨b, o, rfl, hc⟩ := (HH.out.kept hb.out).lies (by omega); obtain ⟨q, m, d, hcell, hby⟩ := hc j hlt; have hfs := Lib.hid (flat_succ xss j (by rw [HLen.out]; exact hlt))
   have hsz : Hid ((xss.take j).flatten.length + m ≤ 140737488355328) := by
    have h1 := tot_le xss (j + 1)
    rw [tot_succ xss j m (by rw [HLen.out]; exact hlt) hby.len] at h1
    exact Nat.le_trans h1 Hbig.out
   have HBY := Lib.hid hby
   clear hby hc
   go_wp2_with (at_builtin; refine wpList_app_byt bt rfl (.tmp 12) (.tmp 16) rfl w.heap.size _ _ rfl ho.out q m d _ rfl HBY.out hsz.out hbs ?_)
   intro v' w' own grow
   have HO2 := Lib.hid (own.as hfs.out.symm); have HB2 : Hid (Below w.heap.size w w') := Below.app hb.out hbs ho.out grow; clear own grow
   go_wp2
   go_roundw
   case rel => exact ⟨j + 1, by omega, by go_num, HO2, HB2⟩
   case measure => simp [intOf]; omega
  ·
   obtain rfl : j = n := by omega
   have hall : xss.take j = xss := List.take_of_length_le (by rw [HLen.out]; exact Nat.le_refl _); have ho2 := ho.out
   rw [hall] at ho2
   obtain ⟨q, d, hv⟩ := ho2.shape (tot xss) rfl; subst hv; have HO2 := Lib.hid ho2; clear ho2 hall
   go_wp2
   go_ret
   exact RetByte.of_own HO2.out hb.out
end Go.Proofs.YtbpgonmoepnnpaaGreat
namespace Go.Proofs.YtbpgonmoepnnpaaGreat
open Go.RowKit Cr
set_option maxRecDepth 100000 in
theorem turned_any (s : W) (w : World) : Calls Tryz.prog 97 #[.int .u32 (U s)] w fun e w' => e = .returned (.int .u32 (U s.reverse)) ∧ w = w' := by
 have h0 : U s = ((s.toNat / 2 ^ 0 : Nat) : Int) := by simp [U]
 have HR := Lib.hid (trn_rev s); have HL := Lib.hid s.isLt; rw [h0]; clear h0; obtain ⟨x, hx⟩ : ∃ x, x = s.toNat := ⟨_, rfl⟩
 rw [← hx] at HR HL ⊢
 clear hx
 go_enter Tryz.func97, Tryz.ntmps97
 go_wp2
 go_loop [0, 3, 4] (fun v o i => ∃ k : Nat, k ≤ 32 ∧ i = .int .i64 k ∧ v = .int .u32 ((x / 2 ^ k : Nat) : Int) ∧ o = .int .u32 ((trn x k : Nat) : Int)) (fun _ _ i => 32 - (intOf i).toNat)
 case atStart => exact ⟨0, Nat.zero_le _, rfl, by simp, rfl⟩
 case round =>
  obtain ⟨k, hk, rfl, rfl, rfl⟩ := hrel
  by_cases hlt : k < 32
  ·
   have hT := trn_lt x k; have hp : 2 ^ k ≤ 2 ^ 31 := Nat.pow_le_pow_right (by omega) (by omega); have HD : Hid (x / 2 ^ k / 2 = x / 2 ^ (k + 1)) := Lib.hid (by rw [Nat.pow_succ, Nat.div_div_eq_div_mul]); have HT : Hid (trn x (k + 1) = 2 * trn x k + x / 2 ^ k % 2) := Lib.hid rfl; have hm : x / 2 ^ k ≤ 4294967295 := Nat.le_trans (Nat.div_le_self _ _) (by have := HL.out; omega)
   have ho : trn x k ≤ 2147483647 := by omega
   clear hT hp; obtain ⟨m, hmm⟩ : ∃ m, m = x / 2 ^ k := ⟨_, rfl⟩; obtain ⟨o, hoo⟩ : ∃ o, o = trn x k := ⟨_, rfl⟩
   rw [← hmm] at HD HT hm ⊢
   rw [← hoo] at HT ho ⊢
   clear hmm hoo
   go_wp2
   go_round
   case rel => exact ⟨k + 1, by omega, by go_num, by rw [← HD.out]; go_num, by rw [HT.out]; go_num⟩
   case measure => simp [intOf]; omega
  ·
   obtain rfl : k = 32 := by omega
   go_wp2
   go_ret
   exact ⟨ret_i HR.out, rfl⟩
theorem U_top (l : W) (c : Nat) (hc : c < 2) : (Int.ediv (U l) 2147483648 + (c : Int) == 1) = ((l.getLsbD 31).xor (decide (c % 2 = 1))) := by
 have h : (l >>> 31) = if l.getLsbD 31 then 1#32 else 0#32 := by
  apply BitVec.eq_of_getLsbD_eq
  intro i hi
  cases i with
  | zero => cases h : l.getLsbD 31 <;> simp only [BitVec.getLsbD_ushiftRight, Nat.add_zero, h, if_true, Bool.false_eq_true, if_false] <;> rfl
  | succ j => cases h : l.getLsbD 31 <;> simp [BitVec.getLsbD_of_ge l (31 + (j + 1)) (by omega)]
 have e : Int.ediv (U l) 2147483648 = U (l >>> 31) := U_shr l 31; rw [e, h]
 have : c = 0 ∨ c = 1 := by omega
 rcases this with rfl | rfl <;> cases l.getLsbD 31 <;> rfl
theorem U_topw (l : W) (X k : Nat) : ((U l / 2147483648 + (X : Int) / 2 ^ k % 2) % 4294967296 == 1) = ((l.getLsbD 31).xor (decide (X / 2 ^ k % 2 % 2 = 1))) := by
 rw [← U_top l (X / 2 ^ k % 2) (Nat.mod_lt _ (by omega))]
 have e1 : (X : Int) / 2 ^ k % 2 = ((X / 2 ^ k % 2 : Nat) : Int) := by
  rw [Int.natCast_emod, Int.natCast_ediv, Int.natCast_pow]; rfl
 have h1 := U_lo l; have h2 := U_hi l; rw [e1]
 show ((U l / 2147483648 + ((X / 2 ^ k % 2 : Nat) : Int)) % 4294967296 == 1) = (U l / 2147483648 + ((X / 2 ^ k % 2 : Nat) : Int) == 1)
 have h3 : (U l / 2147483648 + ((X / 2 ^ k % 2 : Nat) : Int)) % 4294967296 = U l / 2147483648 + ((X / 2 ^ k % 2 : Nat) : Int) := by omega
 rw [h3]
theorem U_dbl (l : W) : U l * (2 : Int) % (4294967296 : Int) = U (l <<< 1) := by
 unfold U
 rw [BitVec.toNat_shiftLeft, Nat.shiftLeft_eq]
 omega
theorem out_yes (l : W) (c : Nat) (h : ((l.getLsbD 31).xor (decide (c % 2 = 1))) = true) : bits BinOp.xor IntKind.u32 (U l * 2 % 4294967296) 517762881 = U (out1 l c) := by
 rw [U_dbl, show (517762881 : Int) = U divi from rfl, U_xor]
 unfold out1
 rw [h]
 rfl
theorem out_no (l : W) (c : Nat) (h : ((l.getLsbD 31).xor (decide (c % 2 = 1))) = false) : U l * 2 % 4294967296 = U (out1 l c) := by
 rw [U_dbl]
 unfold out1
 rw [h]
 simp
set_option maxRecDepth 100000 in
set_option maxHeartbeats 400000 in
theorem rest_any (l : W) (p : Option Addr) (n c : Nat) (xs : List Int) (w : World) (h : Byt w p n c xs) : Calls Tryz.prog 98 #[.int .u32 (U l), .slice p n c] w fun e w' => e = .returned (.int .u32 (U (rest l xs))) ∧ w = w' := by
 have HLen := Lib.hid h.len
 have hn63 : n ≤ 9223372036854775807 := by have := h.cap; have := h.most; unfold maxLen at this; omega
 have HH := Lib.hid h; clear h
 go_enter Tryz.func98, Tryz.ntmps98
 go_wp2
 go_loop [0, 5] (fun v i => ∃ j : Nat, j ≤ n ∧ i = .int .i64 j ∧ v = .int .u32 (U (rest l (xs.take j)))) (fun _ i => n - (intOf i).toNat)
 case atStart => exact ⟨0, Nat.zero_le _, rfl, rfl⟩
 case round =>
  obtain ⟨j, hj, rfl, rfl⟩ := hrel
  by_cases hjl : j < n
  ·
   obtain ⟨b2, o2, rfl, hc2⟩ := HH.out.at (by omega)
   have hbyte := hc2 j hjl; obtain ⟨x0, x1⟩ := HH.out.small.getD j; have HP := Lib.hid (rest_take l xs j (by rw [HLen.out]; exact hjl)); clear hc2; obtain ⟨x, hx⟩ : ∃ x, x = xs.getD j 0 := ⟨_, rfl⟩
   rw [← hx] at HP hbyte x0 x1
   clear hx; obtain ⟨X, rfl⟩ := Int.eq_ofNat_of_zero_le x0
   rw [Int.toNat_natCast] at HP
   obtain ⟨T, hT⟩ : ∃ T, T = rest l (xs.take j) := ⟨_, rfl⟩
   rw [← hT] at HP ⊢
   clear hT x0
   go_wp2
   go_loop [0, 6] (fun v i => ∃ k : Nat, k ≤ 8 ∧ i = .int .i64 k ∧ v = .int .u32 (U (outs T X k))) (fun _ i => 8 - (intOf i).toNat)
   case atStart => exact ⟨0, Nat.zero_le _, rfl, rfl⟩
   case round =>
    obtain ⟨k, hk, rfl, rfl⟩ := hrel
    by_cases hkl : k < 8
    ·
     have HS : Hid (outs T X (k + 1) = out1 (outs T X k) (X / 2 ^ k % 2)) := Lib.hid rfl; obtain ⟨R, hR⟩ : ∃ R, R = outs T X k := ⟨_, rfl⟩
     rw [← hR] at HS ⊢
     clear hR; have hT := U_topw R X k
     by_cases hb : ((R.getLsbD 31).xor (decide (X / 2 ^ k % 2 % 2 = 1))) = true
     ·
      have HV := Lib.hid (out_yes R _ hb)
      rw [hb] at hT
      have HB := Lib.hid hb; clear hb
      go_wp2
      go_round
      case rel => exact ⟨k + 1, by omega, by go_num, ret_v (by rw [HV.out, HS.out])⟩
      case measure => simp [intOf]; omega
     ·
      have hb : ((R.getLsbD 31).xor (decide (X / 2 ^ k % 2 % 2 = 1))) = false := by simpa using hb
      have HV := Lib.hid (out_no R _ hb)
      rw [hb] at hT
      have HB := Lib.hid hb; clear hb
      go_wp2
      go_round
      case rel => exact ⟨k + 1, by omega, by go_num, ret_v (by rw [HV.out, HS.out])⟩
      case measure => simp [intOf]; omega
    ·
     obtain rfl : k = 8 := by omega
     go_wp2
     go_round
     case rel => exact ⟨j + 1, by omega, by go_num, ret_v (by rw [HP.out])⟩
     case measure => simp [intOf]; omega
  ·
   obtain rfl : j = n := by omega
   have HE : Hid (rest l (xs.take j) = rest l xs) := Lib.hid (by rw [List.take_of_length_le (by rw [HLen.out]; exact Nat.le_refl _)])
   go_wp2
   go_ret
   exact ⟨ret_i (by rw [HE.out]), rfl⟩
theorem sum_said (xs : List Int) (h : Wd.Small xs) : 4294967295 - U (rest ones xs).reverse = U (sumW xs) := by
 have e : ones.reverse = ones := by
  apply BitVec.eq_of_getLsbD_eq
  intro i hi
  rw [BitVec.getLsbD_reverse, BitVec.getMsbD_eq_getLsbD]
  have : ∀ j : Fin 32, ones.getLsbD j.val = true := by decide
  rw [this ⟨i, hi⟩, this ⟨32 - 1 - i, by omega⟩]
  simp [hi]
 rw [rev_rest xs ones h, e]; exact (U_not _).symm
set_option maxRecDepth 100000 in
theorem refSum_any (p : Option Addr) (n c : Nat) (xs : List Int) (w : World) (h : Byt w p n c xs) : Calls Tryz.prog 80 #[.slice p n c] w fun e w' => e = .returned (.int .u32 (U (sumW xs))) ∧ w = w' := by
 have HH := Lib.hid h; have HS := Lib.hid (sum_said xs h.small); clear h; have HO := rest_any ones p n c xs
 rw [U_ones] at HO
 have HO2 := Lib.hid HO; clear HO
 have HX : Hid (∀ s : W, 0 ≤ U s ∧ U s < 4294967296) := Lib.hid fun s => ⟨U_lo s, U_hi s⟩
 go_enter Tryz.func80, Tryz.ntmps80
 go_wp2_with fail; refine (HO2.out _ HH.out).mono ?_; rintro e w' ⟨rfl, rfl⟩; go_wp2_with fail; refine (turned_any _ _).mono ?_; rintro e w' ⟨rfl, rfl⟩; obtain ⟨r, hr⟩ : ∃ r, r = U (rest ones xs).reverse := ⟨_, rfl⟩; obtain ⟨r0, r1⟩ := HX.out (rest ones xs).reverse
 rw [← hr] at HS r0 r1 ⊢
 clear hr
 go_wp2
 go_ret
 exact ⟨ret_i HS.out, rfl⟩
end Go.Proofs.YtbpgonmoepnnpaaGreat
namespace Go.Proofs.YtbpgonmoepnnpaaGreat
open Go.RowKit Cr
def IsB (w : World) (v : Value) (xs : List Int) : Prop := ∃ p n c, v = .slice p n c ∧ Byt w p n c xs
def IsRows (w : World) (v : Value) (xss : List (List Int)) : Prop := ∃ p n c, v = .slice p n c ∧ Rows w p n c xss
theorem IsB.kept {w w' : World} {v : Value} {xs : List Int} (h : IsB w v xs) (g : Gr w w') : IsB w' v xs := by
 obtain ⟨p, n, c, e, h⟩ := h; exact ⟨p, n, c, e, h.kept g⟩
theorem IsRows.kept {w w' : World} {v : Value} {xss : List (List Int)} (h : IsRows w v xss) (g : Gr w w') : IsRows w' v xss := by
 obtain ⟨p, n, c, e, h⟩ := h; exact ⟨p, n, c, e, h.kept g⟩
def OwnX (B : Nat) (w : World) (v : Value) (xs : List Int) : Prop := ∃ p n c, v = .slice p n c ∧ Byt w p n c xs ∧ ∀ a, p = some a → B ≤ a.block
theorem OwnX.kept {B : Nat} {w w' : World} {v : Value} {xs : List Int} (h : OwnX B w v xs) (g : Gr w w') : OwnX B w' v xs := by
 obtain ⟨p, n, c, e, h, f⟩ := h; exact ⟨p, n, c, e, h.kept g, f⟩
structure Sl1 where
 p : Option Addr
 n : Nat
 c : Nat
 xs : List Int
def Sl1.v (s : Sl1) : Value := .slice s.p s.n s.c
theorem Rows.build {w W : World} {t : TypeId} (ss : List Sl1) (hm : ss.length ≤ 1000) (h : ∀ s ∈ ss, Byt w s.p s.n s.c s.xs) (hW : W.heap = (w.alloc (.cells (ss.map Sl1.v).toArray t)).heap) : Rows W (some ⟨w.heap.size, 0, none⟩) ss.length ss.length (ss.map Sl1.xs) := by
 have hg := (Below.refl w.heap.size w).alloc (Nat.le_refl _) (.cells (ss.map Sl1.v).toArray t); refine ⟨by simp, Nat.le_refl _, by simp only [maxLen]; omega, fun _ => ⟨_, 0, rfl, fun i hi => ?_⟩, fun h => by cases h⟩; refine ⟨ss[i].p, ss[i].n, ss[i].c, ?_, ?_⟩
 ·
  have hc : W.cell? ⟨w.heap.size, 0 + i, none⟩ = ((ss.map Sl1.v).toArray)[0 + i]? := by
   rw [← World.cell?_alloc_at (w := w) (ss.map Sl1.v).toArray t w.heap.size (0 + i) rfl]; exact World.cell?_of_block (w := w.alloc _) (by rw [hW])
  rw [hc]
  simp [hi, Sl1.v]
 ·
  have e : (ss.map Sl1.xs).getD i [] = ss[i].xs := by simp [List.getD, hi]
  rw [e]; exact ((h _ (List.getElem_mem hi)).kept hg).heap hW
theorem Rows.nine {w W : World} {t : TypeId} {p1 p2 p3 p4 p5 p6 p7 p8 p9 : Option Addr} {n1 n2 n3 n4 n5 n6 n7 n8 n9 c1 c2 c3 c4 c5 c6 c7 c8 c9 : Nat} {x1 x2 x3 x4 x5 x6 x7 x8 x9 : List Int} (h1 : Byt w p1 n1 c1 x1) (h2 : Byt w p2 n2 c2 x2) (h3 : Byt w p3 n3 c3 x3) (h4 : Byt w p4 n4 c4 x4) (h5 : Byt w p5 n5 c5 x5) (h6 : Byt w p6 n6 c6 x6) (h7 : Byt w p7 n7 c7 x7) (h8 : Byt w p8 n8 c8 x8) (h9 : Byt w p9 n9 c9 x9)
  (hW : W.heap = (w.alloc (.cells #[.slice p1 n1 c1, .slice p2 n2 c2, .slice p3 n3 c3, .slice p4 n4 c4, .slice p5 n5 c5, .slice p6 n6 c6, .slice p7 n7 c7, .slice p8 n8 c8, .slice p9 n9 c9] t)).heap) : Rows W (some ⟨w.heap.size, 0, none⟩) 9 9 [x1, x2, x3, x4, x5, x6, x7, x8, x9] :=
 Rows.build (w := w) (W := W) (t := t) [⟨p1, n1, c1, x1⟩, ⟨p2, n2, c2, x2⟩, ⟨p3, n3, c3, x3⟩, ⟨p4, n4, c4, x4⟩, ⟨p5, n5, c5, x5⟩, ⟨p6, n6, c6, x6⟩, ⟨p7, n7, c7, x7⟩, ⟨p8, n8, c8, x8⟩, ⟨p9, n9, c9, x9⟩] (by simp)
  (fun s hs => by
   simp only [List.mem_cons, List.not_mem_nil, or_false] at hs
   rcases hs with rfl | rfl | rfl | rfl | rfl | rfl | rfl | rfl | rfl <;> assumption) hW
theorem recWord_any (n : Nat) (s : Int) (w : World) : Calls Tryz.prog 90 #[.int .u64 n, .int .i64 s] w (RetByte (putR n s) w) := by
 have HP := Lib.hid (put_any n s w)
 go_enter Tryz.func90, Tryz.ntmps90
 go_wp2_with fail; refine HP.out.mono ?_; rintro e w' ⟨p, m, c, rfl, hb, g, hf⟩; go_wp2_with fail
 go_ret
 exact ⟨p, m, c, rfl, hb, g, hf⟩
theorem word_fit (n k : Nat) (w : World) (h : fitsB n k = true) : Calls Tryz.prog 90 #[.int .u64 n, .int .i64 k] w (RetByte (Wd.enc k n) w) := by
 have h1 := recWord_any n k w
 unfold putR at h1
 rw [h] at h1
 exact h1
theorem refN_any (n k : Nat) (w : World) (hn : n ≤ 18446744073709551615) (hk : k ≤ 8) : Calls Tryz.prog 79 #[.int .u64 n, .int .i64 k] w (RetByte (Wd.enc k n) w) := by
 have HP := Lib.hid (refPut_any n k w hn hk)
 go_enter Tryz.func79, Tryz.ntmps79
 go_wp2_with fail; refine HP.out.mono ?_; rintro e w' ⟨p, m, c, rfl, hb, g, hf⟩; go_wp2_with fail
 go_ret
 exact ⟨p, m, c, rfl, hb, g, hf⟩
theorem fitK {n k : Nat} (h1 : 1 ≤ k) (h8 : k ≤ 8) (h : n < 256 ^ k) : fitsB n k = true := by
 simp only [fitsB, Bool.and_eq_true, mayB_iff, decide_eq_true_eq]
 exact ⟨by omega, by rw [Int.toNat_natCast]; exact h⟩
def nine (K t p x G O : Nat) (b a : List Int) : List (List Int) := [Wd.enc 1 K, Wd.enc 8 t, Wd.enc 8 p, Wd.enc 8 x, Wd.enc 2 G, Wd.enc 1 O, Wd.enc 1 a.length, b, a]
theorem nine_rec (K t p x G O : Nat) (b a : List Int) : (nine K t p x G O b a).flatten = bodyL ⟨K, t, p, x, G, O, b, a⟩ := rfl
theorem nine_tot (K t p x G O : Nat) (b a : List Int) : tot (nine K t p x G O b a) = 29 + b.length + a.length := by
 unfold tot; rw [nine_rec, bodyL_len]
def SlBP (d : Nat) (kk : Nat) (t : Nat) (p : Nat) (x : Nat) (gg : Nat) (oo : Nat) (b : List Int) (a : List Int) (_ : Option Addr) (_ : Nat) (pa : Option Addr) (ca : Nat) (slot : Nat) (v : Value) (w : World) : Prop :=
 match slot with
 | 3 => v = .pointer (some ⟨d, 0, none⟩)
 | 4 => v = .int .i64 kk
 | 5 => v = .int .u64 (kk : Nat)
 | 7 => v = .pointer (some ⟨d, 1, none⟩)
 | 8 => v = .int .u64 t
 | 10 => v = .pointer (some ⟨d, 2, none⟩)
 | 11 => v = .int .u64 p
 | 13 => v = .pointer (some ⟨d, 3, none⟩)
 | 14 => v = .int .u64 x
 | 16 => v = .pointer (some ⟨d, 4, none⟩)
 | 17 => v = .int .i64 gg
 | 18 => v = .int .u64 (gg : Nat)
 | 20 => v = .pointer (some ⟨d, 5, none⟩)
 | 21 => v = .int .i64 oo
 | 22 => v = .int .u64 (oo : Nat)
 | 24 => v = .pointer (some ⟨d, 7, none⟩)
 | 25 => v = .slice pa a.length ca
 | 26 => v = .int .i64 a.length
 | 27 => v = .int .u64 (a.length : Nat)
 | 29 => v = .pointer (some ⟨d, 6, none⟩)
 | 31 => v = .pointer (some ⟨d, 7, none⟩)
 | 2 => OwnX d w v (nine kk t p x gg oo b a).flatten
 | 6 => IsB w v (Wd.enc 1 kk)
 | 9 => IsB w v (Wd.enc 8 t)
 | 12 => IsB w v (Wd.enc 8 p)
 | 15 => IsB w v (Wd.enc 8 x)
 | 19 => IsB w v (Wd.enc 2 gg)
 | 23 => IsB w v (Wd.enc 1 oo)
 | 28 => IsB w v (Wd.enc 1 a.length)
 | 30 => IsB w v b
 | 32 => IsB w v a
 | 33 => IsRows w v (nine kk t p x gg oo b a)
 | 34 => OwnX d w v (nine kk t p x gg oo b a).flatten
 | _ => True
theorem slBP_gr {d kk t p x gg oo : Nat} {b a : List Int} {pb : Option Addr} {cb : Nat} {pa : Option Addr} {ca : Nat} {s : Nat} {v : Value} {w w' : World} (h : SlBP d kk t p x gg oo b a pb cb pa ca s v w) (g : Gr w w') : SlBP d kk t p x gg oo b a pb cb pa ca s v w' := by
 unfold SlBP at *
 split <;> simp_all
 all_goals first
  | exact IsB.kept (by assumption) g
  | exact IsRows.kept (by assumption) g
  | exact OwnX.kept (by assumption) g
def SlBR (d : Nat) (kk : Nat) (t : Nat) (p : Nat) (x : Nat) (gg : Nat) (oo : Nat) (b : List Int) (a : List Int) (_ : Option Addr) (_ : Nat) (pa : Option Addr) (ca : Nat) (slot : Nat) (v : Value) (w : World) : Prop :=
 match slot with
 | 8 => v = .pointer (some ⟨d, 0, none⟩)
 | 9 => v = .int .i64 kk
 | 10 => v = .int .u64 (kk : Nat)
 | 12 => v = .pointer (some ⟨d, 1, none⟩)
 | 13 => v = .int .u64 t
 | 15 => v = .pointer (some ⟨d, 2, none⟩)
 | 16 => v = .int .u64 p
 | 18 => v = .pointer (some ⟨d, 3, none⟩)
 | 19 => v = .int .u64 x
 | 21 => v = .pointer (some ⟨d, 4, none⟩)
 | 22 => v = .int .i64 gg
 | 23 => v = .int .u64 (gg : Nat)
 | 25 => v = .pointer (some ⟨d, 5, none⟩)
 | 26 => v = .int .i64 oo
 | 27 => v = .int .u64 (oo : Nat)
 | 29 => v = .pointer (some ⟨d, 7, none⟩)
 | 30 => v = .slice pa a.length ca
 | 31 => v = .int .i64 a.length
 | 32 => v = .int .u64 (a.length : Nat)
 | 34 => v = .pointer (some ⟨d, 6, none⟩)
 | 36 => v = .pointer (some ⟨d, 7, none⟩)
 | 5 => OwnX d w v (nine kk t p x gg oo b a).flatten
 | 11 => IsB w v (Wd.enc 1 kk)
 | 14 => IsB w v (Wd.enc 8 t)
 | 17 => IsB w v (Wd.enc 8 p)
 | 20 => IsB w v (Wd.enc 8 x)
 | 24 => IsB w v (Wd.enc 2 gg)
 | 28 => IsB w v (Wd.enc 1 oo)
 | 33 => IsB w v (Wd.enc 1 a.length)
 | 35 => IsB w v b
 | 37 => IsB w v a
 | 38 => IsRows w v (nine kk t p x gg oo b a)
 | 39 => OwnX d w v (nine kk t p x gg oo b a).flatten
 | _ => True
theorem slBR_gr {d kk t p x gg oo : Nat} {b a : List Int} {pb : Option Addr} {cb : Nat} {pa : Option Addr} {ca : Nat} {s : Nat} {v : Value} {w w' : World} (h : SlBR d kk t p x gg oo b a pb cb pa ca s v w) (g : Gr w w') : SlBR d kk t p x gg oo b a pb cb pa ca s v w' := by
 unfold SlBR at *
 split <;> simp_all
 all_goals first
  | exact IsB.kept (by assumption) g
  | exact IsRows.kept (by assumption) g
  | exact OwnX.kept (by assumption) g
set_option maxRecDepth 100000 in
set_option maxHeartbeats 4000000 in
theorem body_nat (kk : Nat) (t : Nat) (p : Nat) (x : Nat) (gg : Nat) (oo : Nat) (b : List Int) (a : List Int) (pb : Option Addr) (cb : Nat) (pa : Option Addr) (ca : Nat) (w : World) (hb : Byt w pb b.length cb b) (ha : Byt w pa a.length ca a) (hK : kk ≤ 4) (ht : t ≤ 18446744073709551615) (hp : p ≤ 18446744073709551615) (hx : x ≤ 18446744073709551615) (hG : gg < 4096) (hO : oo ≤ 247) (hlb : b.length ≤ 248) (hla : a.length ≤ 248) :
  Calls Tryz.prog 89 #[.agg #[.int .i64 kk, .int .u64 t, .int .u64 p, .int .u64 x, .int .i64 gg, .int .i64 oo, .slice pb b.length cb, .slice pa a.length ca]] w (RetByte (nine kk t p x gg oo b a).flatten w) := by
 have HB := Lib.hid (Blk.new w TR #[.int .i64 kk, .int .u64 t, .int .u64 p, .int .u64 x, .int .i64 gg, .int .i64 oo, .slice pb b.length cb, .slice pa a.length ca]); have HG0 := Lib.hid ((Gr.refl w).alloc (Nat.le_refl _) (.cells #[.int .i64 kk, .int .u64 t, .int .u64 p, .int .u64 x, .int .i64 gg, .int .i64 oo, .slice pb b.length cb, .slice pa a.length ca] TR)); have HY := Lib.hid (hb.kept HG0.out); have HX := Lib.hid (ha.kept HG0.out); have HW : Hid (IntKind.u64.wrap (kk : Int) = kk ∧ IntKind.u64.wrap (gg : Int) = gg ∧ IntKind.u64.wrap (oo : Int) = oo ∧ IntKind.u64.wrap (a.length : Int) = a.length) := Lib.hid (by simp only [IntKind.wrap_u64]; omega); have HT : Hid (tot (nine kk t p x gg oo b a) ≤ 140737488355328) := Lib.hid (by rw [nine_tot]; omega); have HF : Hid (fitsB kk 1 = true ∧ fitsB t 8 = true ∧ fitsB p 8 = true ∧ fitsB x 8 = true ∧ fitsB gg 2 = true ∧ fitsB oo 1 = true ∧ fitsB a.length 1 = true) := Lib.hid ⟨fitK (k := 1) (by omega) (by omega) (by omega), fitK (k := 8) (by omega) (by omega) (by omega), fitK (k := 8) (by omega) (by omega) (by omega), fitK (k := 8) (by omega) (by omega) (by omega), fitK (k := 2) (by omega) (by omega) (by omega), fitK (k := 1) (by omega) (by omega) (by omega), fitK (k := 1) (by omega) (by omega) (by omega)⟩
 go_enter Tryz.func89, Tryz.ntmps89
 go_wp2_with fail; refine Flow.region (SlBP w.heap.size kk t p x gg oo b a pb cb pa ca) (Gr (w.alloc (.cells #[.int .i64 kk, .int .u64 t, .int .u64 p, .int .u64 x, .int .i64 gg, .int .i64 oo, .slice pb b.length cb, .slice pa a.length ca] TR))) Gr (by kernel_rfl) (by kernel_rfl) (fun _ _ _ _ h g => slBP_gr h g) ⟨rfl, rfl, rfl, Nat.le_refl _, fun _ _ => rfl⟩ ?steps ?fin
 case steps =>
  refine .cons (fun A W hfr hinv hdep K hK => ?_) ?_
  · have t1 := tAt (.pointer (some ⟨w.heap.size, 0, none⟩)) (hfr.at 1 (by kernel_rfl)); refine fW0 rfl ?_; clear hfr hdep; go_simp; exact hK _ _ (Gr.refl _) hinv (dsT (by trivial))
  refine .cons (fun A W hfr hinv hdep K hK => ?_) ?_
  · have t3 := tAt (.pointer (some ⟨w.heap.size, 0, none⟩)) (hdep 3 (by kernel_rfl)); refine fW0 rfl ?_; clear hfr hdep; obtain ⟨c0, c1, c2, c3, c4, c5, c6, c7⟩ := (HB.out.below hinv HB.out.lt).c8; go_simp; exact hK _ _ (Gr.refl _) hinv (dsT (by trivial))
  refine .cons (fun A W hfr hinv hdep K hK => ?_) ?_
  · have t4 := tAt (.int .i64 kk) (hdep 4 (by kernel_rfl)); refine fW0 rfl ?_; clear hfr hdep; have hw := HW.out; obtain ⟨w1, w2, w3, w4⟩ := hw; go_simp; exact hK _ _ (Gr.refl _) hinv (dsT (by trivial))
  refine .cons (fun A W hfr hinv hdep K hK => ?_) ?_
  · have t5 := tAt (.int .u64 (kk : Nat)) (hdep 5 (by kernel_rfl)); refine fW0 rfl ?_; clear hfr hdep; go_simp; refine (word_fit kk 1 W (by first | exact HF.out.1 | exact HF.out.2.1 | exact HF.out.2.2.1 | exact HF.out.2.2.2.1 | exact HF.out.2.2.2.2.1 | exact HF.out.2.2.2.2.2.1 | exact HF.out.2.2.2.2.2.2)).mono ?_; rintro e W2 ⟨q, m, c, rfl, hy, g1, hf⟩; exact hK _ _ g1 (Gr.trans hinv g1) (fun d hd => by cases hd; exact ⟨_, _, _, rfl, hy⟩)
  refine .cons (fun A W hfr hinv hdep K hK => ?_) ?_
  · have t1 := tAt (.pointer (some ⟨w.heap.size, 0, none⟩)) (hfr.at 1 (by kernel_rfl)); refine fW0 rfl ?_; clear hfr hdep; go_simp; exact hK _ _ (Gr.refl _) hinv (dsT (by trivial))
  refine .cons (fun A W hfr hinv hdep K hK => ?_) ?_
  · have t7 := tAt (.pointer (some ⟨w.heap.size, 1, none⟩)) (hdep 7 (by kernel_rfl)); refine fW0 rfl ?_; clear hfr hdep; obtain ⟨c0, c1, c2, c3, c4, c5, c6, c7⟩ := (HB.out.below hinv HB.out.lt).c8; go_simp; exact hK _ _ (Gr.refl _) hinv (dsT (by trivial))
  refine .cons (fun A W hfr hinv hdep K hK => ?_) ?_
  · have t8 := tAt (.int .u64 t) (hdep 8 (by kernel_rfl)); refine fW0 rfl ?_; clear hfr hdep; go_simp; refine (word_fit t 8 W (by first | exact HF.out.1 | exact HF.out.2.1 | exact HF.out.2.2.1 | exact HF.out.2.2.2.1 | exact HF.out.2.2.2.2.1 | exact HF.out.2.2.2.2.2.1 | exact HF.out.2.2.2.2.2.2)).mono ?_; rintro e W2 ⟨q, m, c, rfl, hy, g1, hf⟩; exact hK _ _ g1 (Gr.trans hinv g1) (fun d hd => by cases hd; exact ⟨_, _, _, rfl, hy⟩)
  refine .cons (fun A W hfr hinv hdep K hK => ?_) ?_
  · have t1 := tAt (.pointer (some ⟨w.heap.size, 0, none⟩)) (hfr.at 1 (by kernel_rfl)); refine fW0 rfl ?_; clear hfr hdep; go_simp; exact hK _ _ (Gr.refl _) hinv (dsT (by trivial))
  refine .cons (fun A W hfr hinv hdep K hK => ?_) ?_
  · have t10 := tAt (.pointer (some ⟨w.heap.size, 2, none⟩)) (hdep 10 (by kernel_rfl)); refine fW0 rfl ?_; clear hfr hdep; obtain ⟨c0, c1, c2, c3, c4, c5, c6, c7⟩ := (HB.out.below hinv HB.out.lt).c8; go_simp; exact hK _ _ (Gr.refl _) hinv (dsT (by trivial))
  refine .cons (fun A W hfr hinv hdep K hK => ?_) ?_
  · have t11 := tAt (.int .u64 p) (hdep 11 (by kernel_rfl)); refine fW0 rfl ?_; clear hfr hdep; go_simp; refine (word_fit p 8 W (by first | exact HF.out.1 | exact HF.out.2.1 | exact HF.out.2.2.1 | exact HF.out.2.2.2.1 | exact HF.out.2.2.2.2.1 | exact HF.out.2.2.2.2.2.1 | exact HF.out.2.2.2.2.2.2)).mono ?_; rintro e W2 ⟨q, m, c, rfl, hy, g1, hf⟩; exact hK _ _ g1 (Gr.trans hinv g1) (fun d hd => by cases hd; exact ⟨_, _, _, rfl, hy⟩)
  refine .cons (fun A W hfr hinv hdep K hK => ?_) ?_
  · have t1 := tAt (.pointer (some ⟨w.heap.size, 0, none⟩)) (hfr.at 1 (by kernel_rfl)); refine fW0 rfl ?_; clear hfr hdep; go_simp; exact hK _ _ (Gr.refl _) hinv (dsT (by trivial))
  refine .cons (fun A W hfr hinv hdep K hK => ?_) ?_
  · have t13 := tAt (.pointer (some ⟨w.heap.size, 3, none⟩)) (hdep 13 (by kernel_rfl)); refine fW0 rfl ?_; clear hfr hdep; obtain ⟨c0, c1, c2, c3, c4, c5, c6, c7⟩ := (HB.out.below hinv HB.out.lt).c8; go_simp; exact hK _ _ (Gr.refl _) hinv (dsT (by trivial))
  refine .cons (fun A W hfr hinv hdep K hK => ?_) ?_
  · have t14 := tAt (.int .u64 x) (hdep 14 (by kernel_rfl)); refine fW0 rfl ?_; clear hfr hdep; go_simp; refine (word_fit x 8 W (by first | exact HF.out.1 | exact HF.out.2.1 | exact HF.out.2.2.1 | exact HF.out.2.2.2.1 | exact HF.out.2.2.2.2.1 | exact HF.out.2.2.2.2.2.1 | exact HF.out.2.2.2.2.2.2)).mono ?_; rintro e W2 ⟨q, m, c, rfl, hy, g1, hf⟩; exact hK _ _ g1 (Gr.trans hinv g1) (fun d hd => by cases hd; exact ⟨_, _, _, rfl, hy⟩)
  refine .cons (fun A W hfr hinv hdep K hK => ?_) ?_
  · have t1 := tAt (.pointer (some ⟨w.heap.size, 0, none⟩)) (hfr.at 1 (by kernel_rfl)); refine fW0 rfl ?_; clear hfr hdep; go_simp; exact hK _ _ (Gr.refl _) hinv (dsT (by trivial))
  refine .cons (fun A W hfr hinv hdep K hK => ?_) ?_
  · have t16 := tAt (.pointer (some ⟨w.heap.size, 4, none⟩)) (hdep 16 (by kernel_rfl)); refine fW0 rfl ?_; clear hfr hdep; obtain ⟨c0, c1, c2, c3, c4, c5, c6, c7⟩ := (HB.out.below hinv HB.out.lt).c8; go_simp; exact hK _ _ (Gr.refl _) hinv (dsT (by trivial))
  refine .cons (fun A W hfr hinv hdep K hK => ?_) ?_
  · have t17 := tAt (.int .i64 gg) (hdep 17 (by kernel_rfl)); refine fW0 rfl ?_; clear hfr hdep; have hw := HW.out; obtain ⟨w1, w2, w3, w4⟩ := hw; go_simp; exact hK _ _ (Gr.refl _) hinv (dsT (by trivial))
  refine .cons (fun A W hfr hinv hdep K hK => ?_) ?_
  · have t18 := tAt (.int .u64 (gg : Nat)) (hdep 18 (by kernel_rfl)); refine fW0 rfl ?_; clear hfr hdep; go_simp; refine (word_fit gg 2 W (by first | exact HF.out.1 | exact HF.out.2.1 | exact HF.out.2.2.1 | exact HF.out.2.2.2.1 | exact HF.out.2.2.2.2.1 | exact HF.out.2.2.2.2.2.1 | exact HF.out.2.2.2.2.2.2)).mono ?_; rintro e W2 ⟨q, m, c, rfl, hy, g1, hf⟩; exact hK _ _ g1 (Gr.trans hinv g1) (fun d hd => by cases hd; exact ⟨_, _, _, rfl, hy⟩)
  refine .cons (fun A W hfr hinv hdep K hK => ?_) ?_
  · have t1 := tAt (.pointer (some ⟨w.heap.size, 0, none⟩)) (hfr.at 1 (by kernel_rfl)); refine fW0 rfl ?_; clear hfr hdep; go_simp; exact hK _ _ (Gr.refl _) hinv (dsT (by trivial))
  refine .cons (fun A W hfr hinv hdep K hK => ?_) ?_
  · have t20 := tAt (.pointer (some ⟨w.heap.size, 5, none⟩)) (hdep 20 (by kernel_rfl)); refine fW0 rfl ?_; clear hfr hdep; obtain ⟨c0, c1, c2, c3, c4, c5, c6, c7⟩ := (HB.out.below hinv HB.out.lt).c8; go_simp; exact hK _ _ (Gr.refl _) hinv (dsT (by trivial))
  refine .cons (fun A W hfr hinv hdep K hK => ?_) ?_
  · have t21 := tAt (.int .i64 oo) (hdep 21 (by kernel_rfl)); refine fW0 rfl ?_; clear hfr hdep; have hw := HW.out; obtain ⟨w1, w2, w3, w4⟩ := hw; go_simp; exact hK _ _ (Gr.refl _) hinv (dsT (by trivial))
  refine .cons (fun A W hfr hinv hdep K hK => ?_) ?_
  · have t22 := tAt (.int .u64 (oo : Nat)) (hdep 22 (by kernel_rfl)); refine fW0 rfl ?_; clear hfr hdep; go_simp; refine (word_fit oo 1 W (by first | exact HF.out.1 | exact HF.out.2.1 | exact HF.out.2.2.1 | exact HF.out.2.2.2.1 | exact HF.out.2.2.2.2.1 | exact HF.out.2.2.2.2.2.1 | exact HF.out.2.2.2.2.2.2)).mono ?_; rintro e W2 ⟨q, m, c, rfl, hy, g1, hf⟩; exact hK _ _ g1 (Gr.trans hinv g1) (fun d hd => by cases hd; exact ⟨_, _, _, rfl, hy⟩)
  refine .cons (fun A W hfr hinv hdep K hK => ?_) ?_
  · have t1 := tAt (.pointer (some ⟨w.heap.size, 0, none⟩)) (hfr.at 1 (by kernel_rfl)); refine fW0 rfl ?_; clear hfr hdep; go_simp; exact hK _ _ (Gr.refl _) hinv (dsT (by trivial))
  refine .cons (fun A W hfr hinv hdep K hK => ?_) ?_
  · have t24 := tAt (.pointer (some ⟨w.heap.size, 7, none⟩)) (hdep 24 (by kernel_rfl)); refine fW0 rfl ?_; clear hfr hdep; obtain ⟨c0, c1, c2, c3, c4, c5, c6, c7⟩ := (HB.out.below hinv HB.out.lt).c8; go_simp; exact hK _ _ (Gr.refl _) hinv (dsT (by trivial))
  refine .cons (fun A W hfr hinv hdep K hK => ?_) ?_
  · have t25 := tAt (.slice pa a.length ca) (hdep 25 (by kernel_rfl)); refine fW0 rfl ?_; clear hfr hdep; go_simp; exact hK _ _ (Gr.refl _) hinv (dsT (by trivial))
  refine .cons (fun A W hfr hinv hdep K hK => ?_) ?_
  · have t26 := tAt (.int .i64 a.length) (hdep 26 (by kernel_rfl)); refine fW0 rfl ?_; clear hfr hdep; have hw := HW.out; obtain ⟨w1, w2, w3, w4⟩ := hw; go_simp; exact hK _ _ (Gr.refl _) hinv (dsT (by trivial))
  refine .cons (fun A W hfr hinv hdep K hK => ?_) ?_
  · have t27 := tAt (.int .u64 (a.length : Nat)) (hdep 27 (by kernel_rfl)); refine fW0 rfl ?_; clear hfr hdep; go_simp; refine (word_fit a.length 1 W (by first | exact HF.out.1 | exact HF.out.2.1 | exact HF.out.2.2.1 | exact HF.out.2.2.2.1 | exact HF.out.2.2.2.2.1 | exact HF.out.2.2.2.2.2.1 | exact HF.out.2.2.2.2.2.2)).mono ?_; rintro e W2 ⟨q, m, c, rfl, hy, g1, hf⟩; exact hK _ _ g1 (Gr.trans hinv g1) (fun d hd => by cases hd; exact ⟨_, _, _, rfl, hy⟩)
  refine .cons (fun A W hfr hinv hdep K hK => ?_) ?_
  · have t1 := tAt (.pointer (some ⟨w.heap.size, 0, none⟩)) (hfr.at 1 (by kernel_rfl)); refine fW0 rfl ?_; clear hfr hdep; go_simp; exact hK _ _ (Gr.refl _) hinv (dsT (by trivial))
  refine .cons (fun A W hfr hinv hdep K hK => ?_) ?_
  · have t29 := tAt (.pointer (some ⟨w.heap.size, 6, none⟩)) (hdep 29 (by kernel_rfl)); refine fW0 rfl ?_; clear hfr hdep; obtain ⟨c0, c1, c2, c3, c4, c5, c6, c7⟩ := (HB.out.below hinv HB.out.lt).c8; go_simp; exact hK _ _ (Gr.refl _) hinv (fun d hd => by cases hd; exact ⟨_, _, _, rfl, HY.out.kept hinv⟩)
  refine .cons (fun A W hfr hinv hdep K hK => ?_) ?_
  · have t1 := tAt (.pointer (some ⟨w.heap.size, 0, none⟩)) (hfr.at 1 (by kernel_rfl)); refine fW0 rfl ?_; clear hfr hdep; go_simp; exact hK _ _ (Gr.refl _) hinv (dsT (by trivial))
  refine .cons (fun A W hfr hinv hdep K hK => ?_) ?_
  · have t31 := tAt (.pointer (some ⟨w.heap.size, 7, none⟩)) (hdep 31 (by kernel_rfl)); refine fW0 rfl ?_; clear hfr hdep; obtain ⟨c0, c1, c2, c3, c4, c5, c6, c7⟩ := (HB.out.below hinv HB.out.lt).c8; go_simp; exact hK _ _ (Gr.refl _) hinv (fun d hd => by cases hd; exact ⟨_, _, _, rfl, HX.out.kept hinv⟩)
  refine .cons (fun A W hfr hinv hdep K hK => ?_) ?_
  · have s6 : IsB W (A.tmps.getD 6 undef) (Wd.enc 1 kk) := hdep 6 (by kernel_rfl); have s9 : IsB W (A.tmps.getD 9 undef) (Wd.enc 8 t) := hdep 9 (by kernel_rfl); have s12 : IsB W (A.tmps.getD 12 undef) (Wd.enc 8 p) := hdep 12 (by kernel_rfl); have s15 : IsB W (A.tmps.getD 15 undef) (Wd.enc 8 x) := hdep 15 (by kernel_rfl); have s19 : IsB W (A.tmps.getD 19 undef) (Wd.enc 2 gg) := hdep 19 (by kernel_rfl); have s23 : IsB W (A.tmps.getD 23 undef) (Wd.enc 1 oo) := hdep 23 (by kernel_rfl); have s28 : IsB W (A.tmps.getD 28 undef) (Wd.enc 1 a.length) := hdep 28 (by kernel_rfl); have s30 : IsB W (A.tmps.getD 30 undef) b := hdep 30 (by kernel_rfl); have s32 : IsB W (A.tmps.getD 32 undef) a := hdep 32 (by kernel_rfl); refine fW0 rfl ?_; clear hfr hdep; obtain ⟨p0, n0, c0, s6, h0⟩ := s6; have t6 := tmpAt s6; obtain ⟨p1, n1, c1, s9, h1⟩ := s9; have t9 := tmpAt s9; obtain ⟨p2, n2, c2, s12, h2⟩ := s12; have t12 := tmpAt s12; obtain ⟨p3, n3, c3, s15, h3⟩ := s15; have t15 := tmpAt s15; obtain ⟨p4, n4, c4, s19, h4⟩ := s19; have t19 := tmpAt s19; obtain ⟨p5, n5, c5, s23, h5⟩ := s23; have t23 := tmpAt s23; obtain ⟨p6, n6, c6, s28, h6⟩ := s28; have t28 := tmpAt s28; obtain ⟨p7, n7, c7, s30, h7⟩ := s30; have t30 := tmpAt s30; obtain ⟨p8, n8, c8, s32, h8⟩ := s32; have t32 := tmpAt s32; go_simp; exact hK _ _ ((Gr.refl W).alloc (Nat.le_refl _) _) (hinv.alloc hinv.size _) (fun d hd => by cases hd; exact ⟨_, _, _, rfl, Rows.nine h0 h1 h2 h3 h4 h5 h6 h7 h8 rfl⟩)
  refine .cons (fun A W hfr hinv hdep K hK => ?_) ?_
  · have s33 : IsRows W (A.tmps.getD 33 undef) (nine kk t p x gg oo b a) := hdep 33 (by kernel_rfl); refine fW0 rfl ?_; clear hfr hdep; obtain ⟨pr, nr, cr, s33, hr⟩ := s33; have t33 := tmpAt s33; go_simp; refine (join_any _ _ _ _ W hr HT.out).mono ?_; rintro e W2 ⟨q, m, c, rfl, hy, g1, hf⟩; exact hK _ _ g1 (Gr.trans hinv g1) (fun d hd => by cases hd; exact ⟨_, _, _, rfl, hy, fun y hy2 => Nat.le_trans (Nat.le_of_lt (Nat.lt_of_lt_of_le HB.out.lt hinv.size)) (hf y hy2)⟩)
  refine .cons (fun A W hfr hinv hdep K hK => ?_) ?_
  · have s34 : OwnX w.heap.size W (A.tmps.getD 34 undef) (nine kk t p x gg oo b a).flatten := hdep 34 (by kernel_rfl); refine fW0 rfl ?_; clear hfr hdep; obtain ⟨pr, nr, cr, s34, hr⟩ := s34; have t34 := tmpAt s34; go_simp; exact hK _ _ (Gr.refl _) hinv (fun d hd => by cases hd; exact ⟨_, _, _, rfl, hr⟩)
  exact True.intro
 case fin =>
  intro A W hfr hfin hsl
  obtain ⟨pr, nr, cr, s2, hr, hf⟩ : OwnX w.heap.size W (A.tmps.getD 2 undef) (nine kk t p x gg oo b a).flatten := hsl 32 _ 2 rfl rfl; have t2 := tmpAt s2; have e := Flow.frame hfr [3, 4, 5, 6, 7, 8, 9, 10, 11, 12, 13, 14, 15, 16, 17, 18, 19, 20, 21, 22, 23, 24, 25, 26, 27, 28, 29, 30, 31, 32, 33, 34, 2] (List.range 35) (by kernel_rfl) (by kernel_rfl)
  simp [List.range, List.range.loop] at e
  rw [t2] at e
  rw [e]; have HG := Lib.hid (grow1 hfin); have HR := Lib.hid hr; have HO := Lib.hid hf; clear e hfr hsl hfin s2 t2 hr hf
  first
  | (rename_i hB; refine hB _ _ ?_)
  | (rename_i hB y0; refine hB _ _ ?_)
  | (rename_i hB y0 y1; refine hB _ _ ?_)
  | (rename_i hB y0 y1 y2; refine hB _ _ ?_)
  | (rename_i hB y0 y1 y2 y3; refine hB _ _ ?_)
  | (rename_i hB y0 y1 y2 y3 y4; refine hB _ _ ?_)
  | (rename_i hB y0 y1 y2 y3 y4 y5; refine hB _ _ ?_)
  | (rename_i hB y0 y1 y2 y3 y4 y5 y6; refine hB _ _ ?_)
  | (rename_i hB y0 y1 y2 y3 y4 y5 y6 y7; refine hB _ _ ?_)
  | (rename_i hB y0 y1 y2 y3 y4 y5 y6 y7 y8; refine hB _ _ ?_)
  go_wp2_with fail
  go_ret
  exact ⟨_, _, _, rfl, HR.out, HG.out, HO.out⟩
set_option maxRecDepth 100000 in
set_option maxHeartbeats 4000000 in
theorem refBytes_nat (kk : Nat) (t : Nat) (p : Nat) (x : Nat) (gg : Nat) (oo : Nat) (b : List Int) (a : List Int) (pb : Option Addr) (cb : Nat) (pa : Option Addr) (ca : Nat) (at' : Nat) (w : World) (hb : Byt w pb b.length cb b) (ha : Byt w pa a.length ca a) (hK : kk ≤ 4) (ht : t ≤ 18446744073709551615) (hp : p ≤ 18446744073709551615) (hx : x ≤ 18446744073709551615) (hG : gg < 4096) (hO : oo ≤ 247) (hlb : b.length ≤ 248) (hla : a.length ≤ 248) (hat : at' ≤ 18446744073709551615) :
  Calls Tryz.prog 58 #[.agg #[.int .i64 kk, .int .u64 t, .int .u64 p, .int .u64 x, .int .i64 gg, .int .i64 oo, .slice pb b.length cb, .slice pa a.length ca], .int .u64 at'] w (RetByte (recL ⟨kk, t, p, x, gg, oo, b, a⟩ at') w) := by
 have HB := Lib.hid (Blk.new w TR #[.int .i64 kk, .int .u64 t, .int .u64 p, .int .u64 x, .int .i64 gg, .int .i64 oo, .slice pb b.length cb, .slice pa a.length ca]); have HG0 := Lib.hid ((Gr.refl w).alloc (Nat.le_refl _) (.cells #[.int .i64 kk, .int .u64 t, .int .u64 p, .int .u64 x, .int .i64 gg, .int .i64 oo, .slice pb b.length cb, .slice pa a.length ca] TR)); have HY := Lib.hid (hb.kept HG0.out); have HX := Lib.hid (ha.kept HG0.out); have HW : Hid (IntKind.u64.wrap (kk : Int) = kk ∧ IntKind.u64.wrap (gg : Int) = gg ∧ IntKind.u64.wrap (oo : Int) = oo ∧ IntKind.u64.wrap (a.length : Int) = a.length) := Lib.hid (by simp only [IntKind.wrap_u64]; omega); have HT : Hid (tot (nine kk t p x gg oo b a) ≤ 140737488355328) := Lib.hid (by rw [nine_tot]; omega); have HF : Hid (kk ≤ 18446744073709551615 ∧ t ≤ 18446744073709551615 ∧ p ≤ 18446744073709551615 ∧ x ≤ 18446744073709551615 ∧ gg ≤ 18446744073709551615 ∧ oo ≤ 18446744073709551615 ∧ a.length ≤ 18446744073709551615) := Lib.hid ⟨by omega, ht, hp, hx, by omega, by omega, by omega⟩
 go_enter Tryz.func58, Tryz.ntmps58
 go_wp2_with fail; refine Flow.region (SlBR w.heap.size kk t p x gg oo b a pb cb pa ca) (Gr (w.alloc (.cells #[.int .i64 kk, .int .u64 t, .int .u64 p, .int .u64 x, .int .i64 gg, .int .i64 oo, .slice pb b.length cb, .slice pa a.length ca] TR))) Gr (by kernel_rfl) (by kernel_rfl) (fun _ _ _ _ h g => slBR_gr h g) ⟨rfl, rfl, rfl, Nat.le_refl _, fun _ _ => rfl⟩ ?steps ?fin
 case steps =>
  refine .cons (fun A W hfr hinv hdep K hK => ?_) ?_
  · have t2 := tAt (.pointer (some ⟨w.heap.size, 0, none⟩)) (hfr.at 2 (by kernel_rfl)); refine fW0 rfl ?_; clear hfr hdep; go_simp; exact hK _ _ (Gr.refl _) hinv (dsT (by trivial))
  refine .cons (fun A W hfr hinv hdep K hK => ?_) ?_
  · have t8 := tAt (.pointer (some ⟨w.heap.size, 0, none⟩)) (hdep 8 (by kernel_rfl)); refine fW0 rfl ?_; clear hfr hdep; obtain ⟨c0, c1, c2, c3, c4, c5, c6, c7⟩ := (HB.out.below hinv HB.out.lt).c8; go_simp; exact hK _ _ (Gr.refl _) hinv (dsT (by trivial))
  refine .cons (fun A W hfr hinv hdep K hK => ?_) ?_
  · have t9 := tAt (.int .i64 kk) (hdep 9 (by kernel_rfl)); refine fW0 rfl ?_; clear hfr hdep; have hw := HW.out; obtain ⟨w1, w2, w3, w4⟩ := hw; go_simp; exact hK _ _ (Gr.refl _) hinv (dsT (by trivial))
  refine .cons (fun A W hfr hinv hdep K hK => ?_) ?_
  · have t10 := tAt (.int .u64 (kk : Nat)) (hdep 10 (by kernel_rfl)); refine fW0 rfl ?_; clear hfr hdep; go_simp; refine (refN_any kk 1 W (by first | exact HF.out.1 | exact HF.out.2.1 | exact HF.out.2.2.1 | exact HF.out.2.2.2.1 | exact HF.out.2.2.2.2.1 | exact HF.out.2.2.2.2.2.1 | exact HF.out.2.2.2.2.2.2) (by omega)).mono ?_; rintro e W2 ⟨q, m, c, rfl, hy, g1, hf⟩; exact hK _ _ g1 (Gr.trans hinv g1) (fun d hd => by cases hd; exact ⟨_, _, _, rfl, hy⟩)
  refine .cons (fun A W hfr hinv hdep K hK => ?_) ?_
  · have t2 := tAt (.pointer (some ⟨w.heap.size, 0, none⟩)) (hfr.at 2 (by kernel_rfl)); refine fW0 rfl ?_; clear hfr hdep; go_simp; exact hK _ _ (Gr.refl _) hinv (dsT (by trivial))
  refine .cons (fun A W hfr hinv hdep K hK => ?_) ?_
  · have t12 := tAt (.pointer (some ⟨w.heap.size, 1, none⟩)) (hdep 12 (by kernel_rfl)); refine fW0 rfl ?_; clear hfr hdep; obtain ⟨c0, c1, c2, c3, c4, c5, c6, c7⟩ := (HB.out.below hinv HB.out.lt).c8; go_simp; exact hK _ _ (Gr.refl _) hinv (dsT (by trivial))
  refine .cons (fun A W hfr hinv hdep K hK => ?_) ?_
  · have t13 := tAt (.int .u64 t) (hdep 13 (by kernel_rfl)); refine fW0 rfl ?_; clear hfr hdep; go_simp; refine (refN_any t 8 W (by first | exact HF.out.1 | exact HF.out.2.1 | exact HF.out.2.2.1 | exact HF.out.2.2.2.1 | exact HF.out.2.2.2.2.1 | exact HF.out.2.2.2.2.2.1 | exact HF.out.2.2.2.2.2.2) (by omega)).mono ?_; rintro e W2 ⟨q, m, c, rfl, hy, g1, hf⟩; exact hK _ _ g1 (Gr.trans hinv g1) (fun d hd => by cases hd; exact ⟨_, _, _, rfl, hy⟩)
  refine .cons (fun A W hfr hinv hdep K hK => ?_) ?_
  · have t2 := tAt (.pointer (some ⟨w.heap.size, 0, none⟩)) (hfr.at 2 (by kernel_rfl)); refine fW0 rfl ?_; clear hfr hdep; go_simp; exact hK _ _ (Gr.refl _) hinv (dsT (by trivial))
  refine .cons (fun A W hfr hinv hdep K hK => ?_) ?_
  · have t15 := tAt (.pointer (some ⟨w.heap.size, 2, none⟩)) (hdep 15 (by kernel_rfl)); refine fW0 rfl ?_; clear hfr hdep; obtain ⟨c0, c1, c2, c3, c4, c5, c6, c7⟩ := (HB.out.below hinv HB.out.lt).c8; go_simp; exact hK _ _ (Gr.refl _) hinv (dsT (by trivial))
  refine .cons (fun A W hfr hinv hdep K hK => ?_) ?_
  · have t16 := tAt (.int .u64 p) (hdep 16 (by kernel_rfl)); refine fW0 rfl ?_; clear hfr hdep; go_simp; refine (refN_any p 8 W (by first | exact HF.out.1 | exact HF.out.2.1 | exact HF.out.2.2.1 | exact HF.out.2.2.2.1 | exact HF.out.2.2.2.2.1 | exact HF.out.2.2.2.2.2.1 | exact HF.out.2.2.2.2.2.2) (by omega)).mono ?_; rintro e W2 ⟨q, m, c, rfl, hy, g1, hf⟩; exact hK _ _ g1 (Gr.trans hinv g1) (fun d hd => by cases hd; exact ⟨_, _, _, rfl, hy⟩)
  refine .cons (fun A W hfr hinv hdep K hK => ?_) ?_
  · have t2 := tAt (.pointer (some ⟨w.heap.size, 0, none⟩)) (hfr.at 2 (by kernel_rfl)); refine fW0 rfl ?_; clear hfr hdep; go_simp; exact hK _ _ (Gr.refl _) hinv (dsT (by trivial))
  refine .cons (fun A W hfr hinv hdep K hK => ?_) ?_
  · have t18 := tAt (.pointer (some ⟨w.heap.size, 3, none⟩)) (hdep 18 (by kernel_rfl)); refine fW0 rfl ?_; clear hfr hdep; obtain ⟨c0, c1, c2, c3, c4, c5, c6, c7⟩ := (HB.out.below hinv HB.out.lt).c8; go_simp; exact hK _ _ (Gr.refl _) hinv (dsT (by trivial))
  refine .cons (fun A W hfr hinv hdep K hK => ?_) ?_
  · have t19 := tAt (.int .u64 x) (hdep 19 (by kernel_rfl)); refine fW0 rfl ?_; clear hfr hdep; go_simp; refine (refN_any x 8 W (by first | exact HF.out.1 | exact HF.out.2.1 | exact HF.out.2.2.1 | exact HF.out.2.2.2.1 | exact HF.out.2.2.2.2.1 | exact HF.out.2.2.2.2.2.1 | exact HF.out.2.2.2.2.2.2) (by omega)).mono ?_; rintro e W2 ⟨q, m, c, rfl, hy, g1, hf⟩; exact hK _ _ g1 (Gr.trans hinv g1) (fun d hd => by cases hd; exact ⟨_, _, _, rfl, hy⟩)
  refine .cons (fun A W hfr hinv hdep K hK => ?_) ?_
  · have t2 := tAt (.pointer (some ⟨w.heap.size, 0, none⟩)) (hfr.at 2 (by kernel_rfl)); refine fW0 rfl ?_; clear hfr hdep; go_simp; exact hK _ _ (Gr.refl _) hinv (dsT (by trivial))
  refine .cons (fun A W hfr hinv hdep K hK => ?_) ?_
  · have t21 := tAt (.pointer (some ⟨w.heap.size, 4, none⟩)) (hdep 21 (by kernel_rfl)); refine fW0 rfl ?_; clear hfr hdep; obtain ⟨c0, c1, c2, c3, c4, c5, c6, c7⟩ := (HB.out.below hinv HB.out.lt).c8; go_simp; exact hK _ _ (Gr.refl _) hinv (dsT (by trivial))
  refine .cons (fun A W hfr hinv hdep K hK => ?_) ?_
  · have t22 := tAt (.int .i64 gg) (hdep 22 (by kernel_rfl)); refine fW0 rfl ?_; clear hfr hdep; have hw := HW.out; obtain ⟨w1, w2, w3, w4⟩ := hw; go_simp; exact hK _ _ (Gr.refl _) hinv (dsT (by trivial))
  refine .cons (fun A W hfr hinv hdep K hK => ?_) ?_
  · have t23 := tAt (.int .u64 (gg : Nat)) (hdep 23 (by kernel_rfl)); refine fW0 rfl ?_; clear hfr hdep; go_simp; refine (refN_any gg 2 W (by first | exact HF.out.1 | exact HF.out.2.1 | exact HF.out.2.2.1 | exact HF.out.2.2.2.1 | exact HF.out.2.2.2.2.1 | exact HF.out.2.2.2.2.2.1 | exact HF.out.2.2.2.2.2.2) (by omega)).mono ?_; rintro e W2 ⟨q, m, c, rfl, hy, g1, hf⟩; exact hK _ _ g1 (Gr.trans hinv g1) (fun d hd => by cases hd; exact ⟨_, _, _, rfl, hy⟩)
  refine .cons (fun A W hfr hinv hdep K hK => ?_) ?_
  · have t2 := tAt (.pointer (some ⟨w.heap.size, 0, none⟩)) (hfr.at 2 (by kernel_rfl)); refine fW0 rfl ?_; clear hfr hdep; go_simp; exact hK _ _ (Gr.refl _) hinv (dsT (by trivial))
  refine .cons (fun A W hfr hinv hdep K hK => ?_) ?_
  · have t25 := tAt (.pointer (some ⟨w.heap.size, 5, none⟩)) (hdep 25 (by kernel_rfl)); refine fW0 rfl ?_; clear hfr hdep; obtain ⟨c0, c1, c2, c3, c4, c5, c6, c7⟩ := (HB.out.below hinv HB.out.lt).c8; go_simp; exact hK _ _ (Gr.refl _) hinv (dsT (by trivial))
  refine .cons (fun A W hfr hinv hdep K hK => ?_) ?_
  · have t26 := tAt (.int .i64 oo) (hdep 26 (by kernel_rfl)); refine fW0 rfl ?_; clear hfr hdep; have hw := HW.out; obtain ⟨w1, w2, w3, w4⟩ := hw; go_simp; exact hK _ _ (Gr.refl _) hinv (dsT (by trivial))
  refine .cons (fun A W hfr hinv hdep K hK => ?_) ?_
  · have t27 := tAt (.int .u64 (oo : Nat)) (hdep 27 (by kernel_rfl)); refine fW0 rfl ?_; clear hfr hdep; go_simp; refine (refN_any oo 1 W (by first | exact HF.out.1 | exact HF.out.2.1 | exact HF.out.2.2.1 | exact HF.out.2.2.2.1 | exact HF.out.2.2.2.2.1 | exact HF.out.2.2.2.2.2.1 | exact HF.out.2.2.2.2.2.2) (by omega)).mono ?_; rintro e W2 ⟨q, m, c, rfl, hy, g1, hf⟩; exact hK _ _ g1 (Gr.trans hinv g1) (fun d hd => by cases hd; exact ⟨_, _, _, rfl, hy⟩)
  refine .cons (fun A W hfr hinv hdep K hK => ?_) ?_
  · have t2 := tAt (.pointer (some ⟨w.heap.size, 0, none⟩)) (hfr.at 2 (by kernel_rfl)); refine fW0 rfl ?_; clear hfr hdep; go_simp; exact hK _ _ (Gr.refl _) hinv (dsT (by trivial))
  refine .cons (fun A W hfr hinv hdep K hK => ?_) ?_
  · have t29 := tAt (.pointer (some ⟨w.heap.size, 7, none⟩)) (hdep 29 (by kernel_rfl)); refine fW0 rfl ?_; clear hfr hdep; obtain ⟨c0, c1, c2, c3, c4, c5, c6, c7⟩ := (HB.out.below hinv HB.out.lt).c8; go_simp; exact hK _ _ (Gr.refl _) hinv (dsT (by trivial))
  refine .cons (fun A W hfr hinv hdep K hK => ?_) ?_
  · have t30 := tAt (.slice pa a.length ca) (hdep 30 (by kernel_rfl)); refine fW0 rfl ?_; clear hfr hdep; go_simp; exact hK _ _ (Gr.refl _) hinv (dsT (by trivial))
  refine .cons (fun A W hfr hinv hdep K hK => ?_) ?_
  · have t31 := tAt (.int .i64 a.length) (hdep 31 (by kernel_rfl)); refine fW0 rfl ?_; clear hfr hdep; have hw := HW.out; obtain ⟨w1, w2, w3, w4⟩ := hw; go_simp; exact hK _ _ (Gr.refl _) hinv (dsT (by trivial))
  refine .cons (fun A W hfr hinv hdep K hK => ?_) ?_
  · have t32 := tAt (.int .u64 (a.length : Nat)) (hdep 32 (by kernel_rfl)); refine fW0 rfl ?_; clear hfr hdep; go_simp; refine (refN_any a.length 1 W (by first | exact HF.out.1 | exact HF.out.2.1 | exact HF.out.2.2.1 | exact HF.out.2.2.2.1 | exact HF.out.2.2.2.2.1 | exact HF.out.2.2.2.2.2.1 | exact HF.out.2.2.2.2.2.2) (by omega)).mono ?_; rintro e W2 ⟨q, m, c, rfl, hy, g1, hf⟩; exact hK _ _ g1 (Gr.trans hinv g1) (fun d hd => by cases hd; exact ⟨_, _, _, rfl, hy⟩)
  refine .cons (fun A W hfr hinv hdep K hK => ?_) ?_
  · have t2 := tAt (.pointer (some ⟨w.heap.size, 0, none⟩)) (hfr.at 2 (by kernel_rfl)); refine fW0 rfl ?_; clear hfr hdep; go_simp; exact hK _ _ (Gr.refl _) hinv (dsT (by trivial))
  refine .cons (fun A W hfr hinv hdep K hK => ?_) ?_
  · have t34 := tAt (.pointer (some ⟨w.heap.size, 6, none⟩)) (hdep 34 (by kernel_rfl)); refine fW0 rfl ?_; clear hfr hdep; obtain ⟨c0, c1, c2, c3, c4, c5, c6, c7⟩ := (HB.out.below hinv HB.out.lt).c8; go_simp; exact hK _ _ (Gr.refl _) hinv (fun d hd => by cases hd; exact ⟨_, _, _, rfl, HY.out.kept hinv⟩)
  refine .cons (fun A W hfr hinv hdep K hK => ?_) ?_
  · have t2 := tAt (.pointer (some ⟨w.heap.size, 0, none⟩)) (hfr.at 2 (by kernel_rfl)); refine fW0 rfl ?_; clear hfr hdep; go_simp; exact hK _ _ (Gr.refl _) hinv (dsT (by trivial))
  refine .cons (fun A W hfr hinv hdep K hK => ?_) ?_
  · have t36 := tAt (.pointer (some ⟨w.heap.size, 7, none⟩)) (hdep 36 (by kernel_rfl)); refine fW0 rfl ?_; clear hfr hdep; obtain ⟨c0, c1, c2, c3, c4, c5, c6, c7⟩ := (HB.out.below hinv HB.out.lt).c8; go_simp; exact hK _ _ (Gr.refl _) hinv (fun d hd => by cases hd; exact ⟨_, _, _, rfl, HX.out.kept hinv⟩)
  refine .cons (fun A W hfr hinv hdep K hK => ?_) ?_
  · have s11 : IsB W (A.tmps.getD 11 undef) (Wd.enc 1 kk) := hdep 11 (by kernel_rfl); have s14 : IsB W (A.tmps.getD 14 undef) (Wd.enc 8 t) := hdep 14 (by kernel_rfl); have s17 : IsB W (A.tmps.getD 17 undef) (Wd.enc 8 p) := hdep 17 (by kernel_rfl); have s20 : IsB W (A.tmps.getD 20 undef) (Wd.enc 8 x) := hdep 20 (by kernel_rfl); have s24 : IsB W (A.tmps.getD 24 undef) (Wd.enc 2 gg) := hdep 24 (by kernel_rfl); have s28 : IsB W (A.tmps.getD 28 undef) (Wd.enc 1 oo) := hdep 28 (by kernel_rfl); have s33 : IsB W (A.tmps.getD 33 undef) (Wd.enc 1 a.length) := hdep 33 (by kernel_rfl); have s35 : IsB W (A.tmps.getD 35 undef) b := hdep 35 (by kernel_rfl); have s37 : IsB W (A.tmps.getD 37 undef) a := hdep 37 (by kernel_rfl); refine fW0 rfl ?_; clear hfr hdep; obtain ⟨p0, n0, c0, s11, h0⟩ := s11; have t11 := tmpAt s11; obtain ⟨p1, n1, c1, s14, h1⟩ := s14; have t14 := tmpAt s14; obtain ⟨p2, n2, c2, s17, h2⟩ := s17; have t17 := tmpAt s17; obtain ⟨p3, n3, c3, s20, h3⟩ := s20; have t20 := tmpAt s20; obtain ⟨p4, n4, c4, s24, h4⟩ := s24; have t24 := tmpAt s24; obtain ⟨p5, n5, c5, s28, h5⟩ := s28; have t28 := tmpAt s28; obtain ⟨p6, n6, c6, s33, h6⟩ := s33; have t33 := tmpAt s33; obtain ⟨p7, n7, c7, s35, h7⟩ := s35; have t35 := tmpAt s35; obtain ⟨p8, n8, c8, s37, h8⟩ := s37; have t37 := tmpAt s37; go_simp; exact hK _ _ ((Gr.refl W).alloc (Nat.le_refl _) _) (hinv.alloc hinv.size _) (fun d hd => by cases hd; exact ⟨_, _, _, rfl, Rows.nine h0 h1 h2 h3 h4 h5 h6 h7 h8 rfl⟩)
  refine .cons (fun A W hfr hinv hdep K hK => ?_) ?_
  · have s38 : IsRows W (A.tmps.getD 38 undef) (nine kk t p x gg oo b a) := hdep 38 (by kernel_rfl); refine fW0 rfl ?_; clear hfr hdep; obtain ⟨pr, nr, cr, s38, hr⟩ := s38; have t38 := tmpAt s38; go_simp; refine (refJoin_any _ _ _ _ W hr HT.out).mono ?_; rintro e W2 ⟨q, m, c, rfl, hy, g1, hf⟩; exact hK _ _ g1 (Gr.trans hinv g1) (fun d hd => by cases hd; exact ⟨_, _, _, rfl, hy, fun y hy2 => Nat.le_trans (Nat.le_of_lt (Nat.lt_of_lt_of_le HB.out.lt hinv.size)) (hf y hy2)⟩)
  refine .cons (fun A W hfr hinv hdep K hK => ?_) ?_
  · have s39 : OwnX w.heap.size W (A.tmps.getD 39 undef) (nine kk t p x gg oo b a).flatten := hdep 39 (by kernel_rfl); refine fW0 rfl ?_; clear hfr hdep; obtain ⟨pr, nr, cr, s39, hr⟩ := s39; have t39 := tmpAt s39; go_simp; exact hK _ _ (Gr.refl _) hinv (fun d hd => by cases hd; exact ⟨_, _, _, rfl, hr⟩)
  exact True.intro
 case fin =>
  intro A W hfr hfin hsl
  obtain ⟨pr, nr, cr, s5, hr, hf⟩ : OwnX w.heap.size W (A.tmps.getD 5 undef) (nine kk t p x gg oo b a).flatten := hsl 32 _ 5 rfl rfl; have t5 := tmpAt s5; have e := Flow.frame hfr [8, 9, 10, 11, 12, 13, 14, 15, 16, 17, 18, 19, 20, 21, 22, 23, 24, 25, 26, 27, 28, 29, 30, 31, 32, 33, 34, 35, 36, 37, 38, 39, 5] (List.range 58) (by kernel_rfl) (by kernel_rfl)
  simp [List.range, List.range.loop] at e
  rw [t5] at e
  rw [e]; have HG := Lib.hid (grow1 hfin); have HR := Lib.hid hr; have HO := Lib.hid hf; clear e hfr hsl hfin s5 t5 hr hf
  first
  | (rename_i hB; refine hB _ _ ?_)
  | (rename_i hB y0; refine hB _ _ ?_)
  | (rename_i hB y0 y1; refine hB _ _ ?_)
  | (rename_i hB y0 y1 y2; refine hB _ _ ?_)
  | (rename_i hB y0 y1 y2 y3; refine hB _ _ ?_)
  | (rename_i hB y0 y1 y2 y3 y4; refine hB _ _ ?_)
  | (rename_i hB y0 y1 y2 y3 y4 y5; refine hB _ _ ?_)
  | (rename_i hB y0 y1 y2 y3 y4 y5 y6; refine hB _ _ ?_)
  | (rename_i hB y0 y1 y2 y3 y4 y5 y6 y7; refine hB _ _ ?_)
  | (rename_i hB y0 y1 y2 y3 y4 y5 y6 y7 y8; refine hB _ _ ?_)
  obtain ⟨B0, hB0⟩ : ∃ B0, B0 = (nine kk t p x gg oo b a).flatten := ⟨_, rfl⟩
  rw [← hB0] at HR
  have hl := HR.out.len
  have hl2 : B0.length = 29 + b.length + a.length := by rw [hB0, nine_rec, bodyL_len]
  have hn : nr = 29 + b.length + a.length := by omega
  have hn1 : nr ≤ 600 := by omega
  have HN := Lib.hid hn; have HB0 := Lib.hid hB0; have HAT := Lib.hid hat; have HLB := Lib.hid hl2; clear hl hl2 hn hB0 hat HB HX HY HW HT HF hb ha HG0; go_wp2_with fail; refine (refN_any nr 2 _ (by omega) (by omega)).mono ?_; rintro e w1 ⟨q1, m1, d1, rfl, hy1, g1, _⟩; have HR1 := Lib.hid (HR.out.kept g1); have HG1 := Lib.hid (Gr.trans HG.out g1); have HY1 := Lib.hid hy1; clear hy1 g1 HR HG; go_wp2_with fail; refine (refN_any at' 8 _ HAT.out (by omega)).mono ?_; rintro e w2 ⟨q2, m2, d2, rfl, hy2, g2, _⟩; have HR2 := Lib.hid (HR1.out.kept g2); have HY2 := Lib.hid (HY1.out.kept g2); have HG2 := Lib.hid (Gr.trans HG1.out g2); have HRows := Lib.hid (Rows.three (t := 31) hy2 HY2.out HR2.out rfl); clear hy2 g2 HR1 HY1 HG1; go_wp2_with fail; refine (refJoin_any _ _ _ _ _ HRows.out (by have := HLB.out; unfold tot; simp only [List.flatten_cons, List.flatten_nil, List.length_append, Wd.enc_length, List.length_nil]; omega)).mono ?_; rintro e w3 ⟨q3, m3, d3, rfl, hy3, g3, _⟩; have HR3 := Lib.hid (HR2.out.kept (grow1 g3)); have HY3 := Lib.hid (HY2.out.kept (grow1 g3)); have HG3 := Lib.hid (Gr.trans HG2.out (grow1 g3)); have HJ3 := Lib.hid hy3; clear hy3 g3 HRows HR2 HY2 HG2; go_wp2_with fail; refine (refSum_any _ _ _ _ _ HJ3.out).mono ?_; rintro e w4 ⟨rfl, rfl⟩; obtain ⟨S, hS⟩ : ∃ S, S = sumW [Wd.enc 8 at', Wd.enc 2 nr, B0].flatten := ⟨_, rfl⟩; rw [← hS]; have hU : U S = ((S.toNat : Nat) : Int) := rfl; obtain ⟨m, hm⟩ : ∃ m, m = S.toNat := ⟨_, rfl⟩
  have hm1 : m ≤ 4294967295 := by have := S.isLt; omega
  rw [hU, ← hm]; have HS := Lib.hid hS; have HM := Lib.hid hm; clear hS hm hU HJ3; go_wp2_with fail; refine (refN_any m 4 _ (by omega) (by omega)).mono ?_; rintro e w5 ⟨q5, m5, d5, rfl, hy5, g5, _⟩; have HR5 := Lib.hid (HR3.out.kept g5); have HY5 := Lib.hid (HY3.out.kept g5); have HG5 := Lib.hid (Gr.trans HG3.out g5); have HRows := Lib.hid (Rows.three (t := 31) HY5.out hy5 HR5.out rfl); clear hy5 g5 HR3 HY3 HG3; go_wp2_with fail; refine (refJoin_any _ _ _ _ _ HRows.out (by have := HLB.out; unfold tot; simp only [List.flatten_cons, List.flatten_nil, List.length_append, Wd.enc_length, List.length_nil]; omega)).mono ?_; rintro e w6 ⟨q6, m6, d6, rfl, hy6, g6, hf6⟩; have HG6 := Lib.hid (Gr.trans HG5.out (grow1 g6)); have HJ6 := Lib.hid hy6; have HF6 := Lib.hid hf6; clear hy6 g6 hf6 HRows; go_wp2_with fail
  go_ret
  have hrec : [Wd.enc 2 nr, Wd.enc 4 m, B0].flatten = recL ⟨kk, t, p, x, gg, oo, b, a⟩ at' := by
   have e1 : S = sumL ⟨kk, t, p, x, gg, oo, b, a⟩ at' := by
    rw [HS.out, HB0.out, HN.out]
    unfold sumL sizeL
    rw [nine_rec]
    simp
   rw [HM.out, e1, HB0.out, HN.out, nine_rec]
   unfold recL sizeL
   simp
  exact ⟨_, _, _, rfl, hrec ▸ HJ6.out, HG6.out, fun y hy => Nat.le_trans (by have := HG5.out.size; simp; omega) (HF6.out y hy)⟩
end Go.Proofs.YtbpgonmoepnnpaaGreat
