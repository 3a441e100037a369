
/-
  A record's bytes with one byte turned are no record's; what is redone and changed back.
-/
import Derived.Test.YtfjdlcgojigogaaRecRedo
import Derived.Laws.BitsAllLaws
namespace Go.Proofs.Ytfjdlcgojigogaa
open Go.RowKit Cr

theorem nat_xor_self {n v : Nat} (h : n ^^^ v = n) : v = 0 := by
  have : n ^^^ (n ^^^ v) = n ^^^ n := by rw [h]
  rwa [← Nat.xor_assoc, Nat.xor_self, Nat.zero_xor] at this
theorem enc4_inj {a b : Nat} (ha : a < 4294967296) (hb : b < 4294967296) (h : Wd.enc 4 a = Wd.enc 4 b) : a = b := by
  have h1 := congrArg Wd.dec h
  rw [Wd.dec_enc, Wd.dec_enc, Nat.mod_eq_of_lt (by omega), Nat.mod_eq_of_lt (by omega)] at h1
  exact h1
/-- One byte turned. -/
def turned1 (xs : List Int) (p v : Nat) : List Int := xs.set p (Cr.flip (xs.getD p 0) v)
theorem turned1_len (xs : List Int) (p v : Nat) : (turned1 xs p v).length = xs.length := List.length_set
theorem flip_small {x : Int} {v : Nat} (h : 0 ≤ x ∧ x < 256) (hv : v < 256) : 0 ≤ Cr.flip x v ∧ Cr.flip x v < 256 := by
  unfold Cr.flip
  have h1 : x.toNat < 2 ^ 8 := by omega
  have h2 : v < 2 ^ 8 := by omega
  have := Nat.xor_lt_two_pow h1 h2
  omega
theorem turned1_small {xs : List Int} (h : Wd.Small xs) (p v : Nat) (hv : v < 256) : Wd.Small (turned1 xs p v) := fun x hx => by
  rcases List.mem_or_eq_of_mem_set hx with h1 | rfl
  · exact h x h1
  · exact flip_small (h.getD p) hv
theorem flip_ne {x : Int} {v : Nat} (h : 0 ≤ x) (hv : v ≠ 0) : Cr.flip x v ≠ x := by
  unfold Cr.flip
  intro e
  exact hv (nat_xor_self (n := x.toNat) (by omega))

/-- A byte turned behind the first two: no record begins there. -/
theorem rec_turned {r : Rc} (hm : mayR r = true) (hi : r.In) (at' p v : Nat) (hp2 : 2 ≤ p) (hp : p < (recL r at').length) (hv0 : v ≠ 0) (hv : v < 256) : ofB (turned1 (recL r at') p v) at' = false := by
  cases hof : ofB (turned1 (recL r at') p v) at'
  · rfl
  exfalso
  obtain ⟨Y, hY⟩ : ∃ Y, Y = turned1 (recL r at') p v := ⟨_, rfl⟩
  rw [← hY] at hof
  unfold ofB at hof
  rw [Bool.and_eq_true] at hof
  obtain ⟨h1, h2⟩ := hof
  obtain ⟨s, hs⟩ : ∃ s, s = cand Y := ⟨_, rfl⟩
  rw [← hs] at h1 h2
  clear hs
  have f1 := mayR_fits h1
  have f0 := mayR_fits hm
  have a1 := f1.na
  have a2 := f1.nb1
  have a3 := f0.na
  have a4 := f0.nb1
  have lY : Y.length = 35 + r.b.length + r.a.length := by rw [hY, turned1_len, recL_len]
  have hpre := preB_split h2
  -- the lengths are one
  have hsz : sizeL s = sizeL r := by
    have e1 : Y.take 2 = sizeL r := by
      rw [hY]
      unfold turned1
      rw [List.take_set_of_le (by omega)]
      unfold recL
      exact List.take_left' (by unfold sizeL; exact Wd.enc_length _ _)
    have e2 : Y.take 2 = sizeL s := by
      rw [hpre]
      unfold recL
      rw [List.append_assoc]
      exact List.take_left' (by unfold sizeL; exact Wd.enc_length _ _)
    rw [← e2, e1]
  have hlen : s.b.length + s.a.length = r.b.length + r.a.length := by
    have e := congrArg Wd.dec hsz
    unfold sizeL at e
    rw [Wd.dec_enc, Wd.dec_enc, Nat.mod_eq_of_lt (by omega), Nat.mod_eq_of_lt (by omega)] at e
    omega
  have hYs : Y = recL s at' := by
    have e : (recL s at').length = Y.length := by rw [recL_len, lY]; omega
    have := preB_iff.1 h2
    rw [e, List.take_length] at this
    exact this
  -- the parts
  obtain ⟨S, eS⟩ : ∃ S, S = sizeL r := ⟨_, rfl⟩
  obtain ⟨A, eA⟩ : ∃ A, A = bodyL r := ⟨_, rfl⟩
  obtain ⟨B, eB⟩ : ∃ B, B = bodyL s := ⟨_, rfl⟩
  have lS : S.length = 2 := by rw [eS]; unfold sizeL; exact Wd.enc_length _ _
  have lA : A.length = 29 + r.b.length + r.a.length := by rw [eA, bodyL_len]
  have lB : B.length = A.length := by rw [eB, bodyL_len, lA]; omega
  have eq : (S ++ (Wd.enc 4 (sumW (Wd.enc 8 at' ++ (S ++ A))).toNat ++ A)).set p (Cr.flip ((S ++ (Wd.enc 4 (sumW (Wd.enc 8 at' ++ (S ++ A))).toNat ++ A)).getD p 0) v) = S ++ (Wd.enc 4 (sumW (Wd.enc 8 at' ++ (S ++ B))).toNat ++ B) := by
    have e1 : recL r at' = S ++ (Wd.enc 4 (sumW (Wd.enc 8 at' ++ (S ++ A))).toNat ++ A) := by rw [eS, eA]; rfl
    have e2 : recL s at' = S ++ (Wd.enc 4 (sumW (Wd.enc 8 at' ++ (S ++ B))).toNat ++ B) := by rw [eS, eB, ← hsz]; rfl
    rw [← e1, ← e2, ← hYs, hY]
    rfl
  have hAs : Wd.Small A := by rw [eA]; exact rows9_small hi
  rw [recL_len] at hp
  clear hY lY hpre hsz hYs eA eB eS h1 h2 f1 f0
  obtain ⟨SA, eSA⟩ : ∃ W, W = sumW (Wd.enc 8 at' ++ (S ++ A)) := ⟨_, rfl⟩
  obtain ⟨SB, eSB⟩ : ∃ W, W = sumW (Wd.enc 8 at' ++ (S ++ B)) := ⟨_, rfl⟩
  rw [← eSA, ← eSB] at eq
  have lE : ∀ n, (Wd.enc 4 n).length = 4 := fun n => Wd.enc_length 4 n
  have g0 : (S ++ (Wd.enc 4 SA.toNat ++ A)).getD p 0 = (Wd.enc 4 SA.toNat ++ A).getD (p - 2) 0 := by
    simp only [List.getD, List.getElem?_append_right (show S.length ≤ p by omega), lS]
  rw [g0, List.set_append_right _ _ (by omega), lS] at eq
  have eq2 := List.append_cancel_left eq
  by_cases hp6 : p < 6
  · have g1 : (Wd.enc 4 SA.toNat ++ A).getD (p - 2) 0 = (Wd.enc 4 SA.toNat).getD (p - 2) 0 := by
      simp only [List.getD, List.getElem?_append_left (show p - 2 < (Wd.enc 4 SA.toNat).length by rw [lE]; omega)]
    rw [g1, List.set_append_left _ _ (by rw [lE]; omega)] at eq2
    have h3 := List.append_inj eq2 (by rw [List.length_set, lE, lE])
    have h4 : SA = SB := by rw [eSA, eSB, h3.2]
    have h5 := h3.1
    rw [← h4] at h5
    have h6 := congrArg (fun l : List Int => l.getD (p - 2) 0) h5
    have hq : p - 2 < (Wd.enc 4 SA.toNat).length := by rw [lE]; omega
    simp only [List.getD, List.getElem?_set_self hq, Option.getD_some] at h6
    exact flip_ne (Wd.Small.getD (Wd.enc_small 4 SA.toNat) (p - 2)).1 hv0 h6
  · have g1 : (Wd.enc 4 SA.toNat ++ A).getD (p - 2) 0 = A.getD (p - 6) 0 := by
      simp only [List.getD, List.getElem?_append_right (show (Wd.enc 4 SA.toNat).length ≤ p - 2 by rw [lE]; omega), lE]
      congr 1
    rw [g1, List.set_append_right _ _ (by rw [lE]; omega), lE, show p - 2 - 4 = p - 6 by omega] at eq2
    have h3 := List.append_inj eq2 (by rw [lE, lE])
    have h4 := BitVec.eq_of_toNat_eq (enc4_inj SA.isLt SB.isLt h3.1)
    rw [eSA, eSB] at h4
    unfold sumW at h4
    have h5 := congrArg (~~~ ·) h4
    simp only [BitVec.not_not] at h5
    rw [← h3.2, over_app, over_app ones, over_app, over_app (over ones _) S] at h5
    rw [over_set A _ (p - 6) v (by omega)] at h5
    have h6 : its (8 * (A.length - (p - 6))) (BitVec.ofNat 32 v) = 0#32 := by
      have := congrArg (over (over (over ones (Wd.enc 8 at')) S) A ^^^ ·) h5
      simp only [xcancel, BitVec.xor_self] at this
      exact this.symm
    have h7 := its_inj _ h6
    have h8 := congrArg BitVec.toNat h7
    simp at h8
    omega

theorem two_pow (R : Nat) (h : R < 8) : 2 ^ R ≠ 0 ∧ 2 ^ R < 256 ∧ ((2 : Int) ^ R % 256) = ((2 ^ R : Nat) : Int) := by
  have : R = 0 ∨ R = 1 ∨ R = 2 ∨ R = 3 ∨ R = 4 ∨ R = 5 ∨ R = 6 ∨ R = 7 := by omega
  rcases this with rfl | rfl | rfl | rfl | rfl | rfl | rfl | rfl <;> decide
theorem bits_flip (A : Int) (R : Nat) (h0 : 0 ≤ A) (h1 : A < 256) (h : R < 8) : bits .xor .u8 A ((2 : Int) ^ R % 256) = Cr.flip A (2 ^ R) := by
  obtain ⟨_, h2, h3⟩ := two_pow R h
  rw [h3, u8_xor A _ h0 h1 (by omega) (by omega)]
  rfl
theorem bits_flip2 (A : Int) (R : Nat) (h0 : 0 ≤ A) (h1 : A < 256) (h : R < 8) : bits .xor .u8 A ((2 : Int) ^ R) = Cr.flip A (2 ^ R) := by
  obtain ⟨_, h2, _⟩ := two_pow R h
  rw [show ((2 : Int) ^ R) = ((2 ^ R : Nat) : Int) by rw [Int.natCast_pow]; rfl, u8_xor A _ h0 h1 (by omega) (by omega)]
  rfl

/-- What changes an update back, as a record. -/
def backR (r : Rc) (prev : Nat) : Rc := ⟨2, r.t, prev, r.p, r.g, r.o, [], r.b⟩
theorem backR_may {r : Rc} (hm : mayR r = true) (hk : r.k = 1) (prev : Nat) : mayR (backR r prev) = true := by
  have h := mayQ_iff.1 hm
  obtain ⟨h1, h2⟩ := h
  have h3 : r.b.length = r.a.length ∧ 0 ≤ r.g ∧ r.g < 4096 ∧ 1 ≤ r.a.length ∧ 0 ≤ r.o ∧ r.o + r.a.length ≤ 248 := by omega
  exact mayQ_iff.2 ⟨h1, .inr (.inl ⟨rfl, rfl, h3.2.1, h3.2.2.1, by show 1 ≤ r.b.length; omega, h3.2.2.2.2.1, by show r.o + r.b.length ≤ 248; omega⟩)⟩
theorem backR_in {r : Rc} (hi : r.In) (prev : Nat) (hp : prev ≤ 18446744073709551615) : (backR r prev).In := ⟨hi.t, hp, hi.p, fun _ h => (by cases h), hi.b⟩
theorem lay_lay {ps x y : List Int} {F : Nat} (h : x.length = y.length) (hF : F + x.length ≤ ps.length) : lay (lay ps F x) F y = lay ps F y := by
  unfold lay
  have h1 : (ps.take F).length = F := by simp; omega
  have h2 : (ps.take F ++ (x ++ ps.drop (F + x.length))).drop (F + y.length) = ps.drop (F + x.length) := by
    rw [← List.append_assoc]
    exact List.drop_left' (by rw [List.length_append, h1, h])
  rw [List.take_left' h1, h2, h]
/-- Redone, and changed back. -/
theorem redo_back {r : Rc} (hm : mayR r = true) (hk : r.k = 1) (prev : Nat) (ps : List Int) (hp : IsSec ps) : redoB r = true ∧ redoB (backR r prev) = true ∧ redoL (backR r prev) (redoL r (lay ps r.o.toNat r.b)) = lay ps r.o.toNat r.b := by
  have h1 : redoB r = true := by unfold redoB; rw [hm, hk]; rfl
  have h2 : redoB (backR r prev) = true := by unfold redoB; rw [backR_may hm hk]; rfl
  have h := (mayQ_iff.1 hm).2
  refine ⟨h1, h2, ?_⟩
  unfold redoL
  rw [h1, h2]
  simp only [if_true, backR]
  have hl := hp.len
  have e : r.a.length = r.b.length := by omega
  rw [lay_lay (x := r.a) (y := r.b) e (by have : (lay ps r.o.toNat r.b).length = 248 := (by simp [lay]; omega); rw [this]; omega), lay_lay rfl (by omega)]

end Go.Proofs.Ytfjdlcgojigogaa
