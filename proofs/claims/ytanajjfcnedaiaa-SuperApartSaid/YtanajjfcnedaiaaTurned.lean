
/-
  A sector that bears its sum: its words; a bit of it turned, it bears it no more.
-/
import Derived.Test.YtanajjfcnedaiaaMaOf
import Derived.Laws.BitsAllLaws
namespace Go.Proofs.Ytanajjfcnedaiaa
open Go.RowKit Cr

theorem sealL_three (nm : List Int) (k a b c : Nat) : ∃ r, sealL (upTo nm k [a, b, c] 3) = nm ++ (Wd.enc k a ++ (Wd.enc k b ++ (Wd.enc k c ++ r))) := by
  refine ⟨List.replicate (252 - (upTo nm k [a, b, c] 3).length) 0 ++ Wd.enc 4 (sumW (padTo 252 (upTo nm k [a, b, c] 3))).toNat, ?_⟩
  unfold sealL
  conv => lhs; arg 1; unfold padTo
  conv => lhs; arg 1; arg 1; rw [← upTo_three]
  simp only [List.append_assoc]
theorem word0 {nm : List Int} {k a : Nat} {r xs : List Int} (h8 : nm.length = 8) (h : xs = nm ++ (Wd.enc k a ++ r)) : (xs.drop 8).take k = Wd.enc k a := by
  rw [h, List.drop_left' h8, List.take_left' (Wd.enc_length _ _)]
theorem word1 {nm : List Int} {k a b : Nat} {r xs : List Int} (h8 : nm.length = 8) (h : xs = nm ++ (Wd.enc k a ++ (Wd.enc k b ++ r))) : (xs.drop (8 + k)).take k = Wd.enc k b := by
  rw [h, ← List.append_assoc, List.drop_left' (by rw [List.length_append, h8, Wd.enc_length]), List.take_left' (Wd.enc_length _ _)]
theorem word2 {nm : List Int} {k a b c : Nat} {r xs : List Int} (h8 : nm.length = 8) (h : xs = nm ++ (Wd.enc k a ++ (Wd.enc k b ++ (Wd.enc k c ++ r)))) : (xs.drop (8 + k + k)).take k = Wd.enc k c := by
  rw [h, ← List.append_assoc, ← List.append_assoc, List.drop_left' (by simp only [List.length_append, h8, Wd.enc_length]), List.take_left' (Wd.enc_length _ _)]

/-- A layout's sector is its own. -/
theorem lyOk_self (n l g : Int) (hm : mayL n l g = true) : lyOk (lyB n l g) = true ∧ (lyN (lyB n l g) : Int) = n ∧ logOf (lyN (lyB n l g)) = l ∧ grpOf (lyN (lyB n l g)) = g := by
  obtain ⟨i0, i1, _⟩ := may_in hm
  have hN : (lyN (lyB n l g) : Int) = n := by
    obtain ⟨r, hr'⟩ := sealL_three nameS 4 n.toNat l.toNat g.toNat
    have hr : lyB n l g = _ := hr'
    have h1 : lyN (lyB n l g) = Wd.dec (((lyB n l g).drop 8).take 4) := at_dec (lyB_sec n l g) 8 4 (by omega) (by omega) (by omega)
    rw [h1, word0 (nm := nameS) (a := n.toNat) rfl hr, Wd.dec_enc]
    have : n.toNat % 256 ^ 4 = n.toNat := Nat.mod_eq_of_lt (by omega)
    rw [this]
    omega
  have h2 : okN n = true ∧ l = logOf n ∧ g = grpOf n := by
    simp only [mayL, Bool.and_eq_true, decide_eq_true_eq] at hm
    exact hm
  refine ⟨?_, hN, by rw [hN]; exact h2.2.1.symm, by rw [hN]; exact h2.2.2.symm⟩
  unfold lyOk
  rw [hN, h2.1, ← h2.2.1, ← h2.2.2]
  simp
/-- A master's sector is its own. -/
theorem maOk_self (e s t : Nat) (h0 : e ≤ 18446744073709551615) (h1 : s ≤ 18446744073709551615) (h2 : t ≤ 18446744073709551615) : maOk (maB e s t) = true ∧ maE (maB e s t) = e ∧ maS (maB e s t) = s ∧ maT (maB e s t) = t := by
  obtain ⟨r, hr'⟩ := sealL_three nameM 8 e s t
  have hr : maB e s t = _ := hr'
  have e1 : maE (maB e s t) = e := by
    have h : maE (maB e s t) = Wd.dec (((maB e s t).drop 8).take 8) := at_dec (maB_sec e s t) 8 8 (by omega) (by omega) (by omega)
    rw [h, word0 (nm := nameM) (a := e) rfl hr, Wd.dec_enc]
    exact Nat.mod_eq_of_lt (by omega)
  have e2 : maS (maB e s t) = s := by
    have h : maS (maB e s t) = Wd.dec (((maB e s t).drop (8 + 8)).take 8) := at_dec (maB_sec e s t) 16 8 (by omega) (by omega) (by omega)
    rw [h, word1 (nm := nameM) (b := s) rfl hr, Wd.dec_enc]
    exact Nat.mod_eq_of_lt (by omega)
  have e3 : maT (maB e s t) = t := by
    have h : maT (maB e s t) = Wd.dec (((maB e s t).drop (8 + 8 + 8)).take 8) := at_dec (maB_sec e s t) 24 8 (by omega) (by omega) (by omega)
    rw [h, word2 (nm := nameM) (c := t) rfl hr, Wd.dec_enc]
    exact Nat.mod_eq_of_lt (by omega)
  refine ⟨?_, e1, e2, e3⟩
  unfold maOk
  rw [e1, e2, e3]
  simp

theorem nat_xor_self {n v : Nat} (h : n ^^^ v = n) : v = 0 := by
  have : n ^^^ (n ^^^ v) = n ^^^ n := by rw [h]
  rwa [← Nat.xor_assoc, Nat.xor_self, Nat.zero_xor] at this
theorem enc4_inj {a b : Nat} (ha : a < 4294967296) (hb : b < 4294967296) (h : Wd.enc 4 a = Wd.enc 4 b) : a = b := by
  have h1 := congrArg Wd.dec h
  rw [Wd.dec_enc, Wd.dec_enc, Nat.mod_eq_of_lt (by omega), Nat.mod_eq_of_lt (by omega)] at h1
  exact h1

/-- One bit turned. -/
def turned1 (xs : List Int) (p v : Nat) : List Int := xs.set p (Cr.flip (xs.getD p 0) v)
theorem flip_small {x : Int} {v : Nat} (h : 0 ≤ x ∧ x < 256) (hv : v < 256) : 0 ≤ Cr.flip x v ∧ Cr.flip x v < 256 := by
  unfold Cr.flip
  have h1 : x.toNat < 2 ^ 8 := by omega
  have h2 : v < 2 ^ 8 := by omega
  have := Nat.xor_lt_two_pow h1 h2
  omega
theorem turned1_sec {xs : List Int} (h : IsSec xs) (p v : Nat) (hv : v < 256) : IsSec (turned1 xs p v) :=
  ⟨by unfold turned1; rw [List.length_set]; exact h.len, fun x hx => by
    rcases List.mem_or_eq_of_mem_set hx with h1 | rfl
    · exact h.small x h1
    · exact flip_small (h.small.getD p) hv⟩

theorem seal_turned {ys zs : List Int} (hs : Wd.Small ys) (hl : ys.length ≤ 252) (hzl : zs.length ≤ 252) (p v : Nat) (hp : p < 256) (hv0 : v ≠ 0) (hv : v < 256) : turned1 (sealL ys) p v ≠ sealL zs := by
  intro h
  have la := padTo_len (n := 252) hl
  have lb := padTo_len (n := 252) hzl
  have hA := padTo_small (n := 252) hs
  unfold turned1 sealL at h
  obtain ⟨A, eA⟩ : ∃ A, A = padTo 252 ys := ⟨_, rfl⟩
  obtain ⟨B, eB⟩ : ∃ B, B = padTo 252 zs := ⟨_, rfl⟩
  rw [← eA] at h la hA
  rw [← eB] at h lb
  clear eA eB
  have le : (Wd.enc 4 (sumW A).toNat).length = 4 := Wd.enc_length _ _
  by_cases hp2 : p < 252
  · rw [List.set_append_left _ _ (by omega)] at h
    have h1 := List.append_inj h (by rw [List.length_set]; omega)
    have hg : (A ++ Wd.enc 4 (sumW A).toNat).getD p 0 = A.getD p 0 := by
      simp only [List.getD, List.getElem?_append_left (show p < A.length by omega)]
    rw [hg] at h1
    have h2 := enc4_inj (sumW A).isLt (sumW B).isLt h1.2
    rw [← h1.1] at h2
    have h3 := BitVec.eq_of_toNat_eq h2
    have h4 := over_set A ones p v (by omega)
    have h5 : over ones (A.set p (Cr.flip (A.getD p 0) v)) = over ones A := by
      have h9 := congrArg (~~~ ·) h3
      unfold sumW at h9
      simp only [BitVec.not_not] at h9
      exact h9.symm
    rw [h4] at h5
    have h6 : its (8 * (A.length - p)) (BitVec.ofNat 32 v) = 0#32 := by
      have := congrArg (over ones A ^^^ ·) h5
      simp only [xcancel, BitVec.xor_self] at this
      exact this
    have h7 := its_inj _ h6
    have h8 := congrArg BitVec.toNat h7
    simp at h8
    omega
  · rw [List.set_append_right _ _ (by omega)] at h
    have h1 := List.append_inj h (by omega)
    have h2 := h1.2
    rw [← h1.1] at h2
    have h3 := congrArg (fun l : List Int => l.getD (p - 252) 0) h2
    have hg : (A ++ Wd.enc 4 (sumW A).toNat).getD p 0 = (Wd.enc 4 (sumW A).toNat).getD (p - 252) 0 := by
      simp only [List.getD, List.getElem?_append_right (show A.length ≤ p by omega), la]
    rw [hg, la] at h3
    obtain ⟨E, eE⟩ : ∃ E, E = Wd.enc 4 (sumW A).toNat := ⟨_, rfl⟩
    have hE : Wd.Small E := by rw [eE]; exact Wd.enc_small _ _
    rw [← eE] at h3 le
    have h4 := hE.getD (p - 252)
    have h5 : (E.set (p - 252) (Cr.flip (E.getD (p - 252) 0) v)).getD (p - 252) 0 = Cr.flip (E.getD (p - 252) 0) v := by
      have hq : p - 252 < E.length := by omega
      simp [List.getD, hq]
    rw [h5] at h3
    unfold Cr.flip at h3
    have h6 : (E.getD (p - 252) 0).toNat ^^^ v = (E.getD (p - 252) 0).toNat := by omega
    exact hv0 (nat_xor_self h6)

/-- How many uses the sectors ahead of the groups have; the first five of k groups; a block. -/
def use0 (x : Int) : Int := if 0 ≤ x ∧ x < 3 then 1 else 0
def use1 (l x : Int) : Int := if 3 ≤ x ∧ x < 3 + l then 1 else 0
def use2 (l x k : Int) : Int := if 3 + l ≤ x ∧ x < 3 + l + 64 * k ∧ (x - (3 + l)) % 64 < 5 then 1 else 0
theorem use2_succ (l x : Int) (k : Nat) : use2 l x ((k + 1 : Nat) : Int) = use2 l x k + (if 3 + l + 64 * k ≤ x ∧ x < 3 + l + 64 * k + 5 then 1 else 0) := by
  unfold use2
  split <;> split <;> split <;> omega
theorem use2_zero (l x : Int) : use2 l x 0 = 0 := by unfold use2; rw [if_neg (by omega)]
theorem uses_le {n l x : Int} {m : Nat} (h : 16 ≤ l) (_ : n < 3 + l + 64 * (m : Int) + 8) : 0 ≤ use0 x + use1 l x + use2 l x m + (if blkB n l m x then 1 else 0) ∧ use0 x + use1 l x + use2 l x m + (if blkB n l m x then 1 else 0) ≤ 1 := by
  unfold use0 use1 use2
  by_cases q1 : 3 + l ≤ x ∧ x < 3 + l + (m : Int) * 64 ∧ x < n ∧ 5 ≤ (x - (3 + l)) % 64
  · simp only [show blkB n l m x = true from decide_eq_true q1, if_true]
    split <;> split <;> split <;> omega
  · simp only [show blkB n l m x = false from decide_eq_false q1, Bool.false_eq_true, if_false]
    split <;> split <;> split <;> omega
theorem inodes_apart {i k l : Int} (_ : 1 ≤ i) (_ : 1 ≤ k) (h3 : i ≠ k) (h4 : 3 + l + (i - 1) / 16 * 64 + 1 + (i - 1) % 16 / 4 = 3 + l + (k - 1) / 16 * 64 + 1 + (k - 1) % 16 / 4) (h5 : (i - 1) % 4 * 62 < (k - 1) % 4 * 62 + 62) : ¬ (k - 1) % 4 * 62 < (i - 1) % 4 * 62 + 62 := by
  intro h6
  have e1 : (i - 1) / 16 = (k - 1) / 16 := by omega
  have e2 : (i - 1) % 16 / 4 = (k - 1) % 16 / 4 := by omega
  have e3 : (i - 1) % 4 = (k - 1) % 4 := by omega
  omega

theorem Blk.past {w : World} {g : Nat} {t : TypeId} {cs : Array Value} (h : Blk w g t cs) (o : Obj) (cs' : Array Value) : Blk ((w.alloc o).setRow w.heap.size cs') g t cs := (h.alloc o).other (by have := h.lt; omega)
theorem gr_past {a w : World} (h : Gr a w) (o : Obj) (cs' : Array Value) : Gr a ((w.alloc o).setRow w.heap.size cs') := below_setRow (h.alloc h.size o) h.size cs'

/-- A layout's sector, and a master's, read again; and with a bit turned. -/
theorem of_self (n l g : Int) (hm : mayL n l g = true) (w : World) : Calls Try.prog 31 #[.agg (sec (Sx (lyB n l g)))] w (RetLy n l g 0 w) := by
  have h := of_any (lyB n l g) w (lyB_sec n l g)
  obtain ⟨e0, e1, e2, e3⟩ := lyOk_self n l g hm
  rw [e1] at e2 e3 h
  rw [e0, e2, e3] at h
  exact h
theorem maOf_self (e s t : Nat) (h0 : e ≤ 18446744073709551615) (h1 : s ≤ 18446744073709551615) (h2 : t ≤ 18446744073709551615) (w : World) : Calls Try.prog 33 #[.agg (sec (Sx (maB e s t)))] w fun en w' => en = .returned (.tuple #[.agg #[.int .u64 e, .int .u64 s, .int .u64 t], .int .i64 0]) ∧ Gr w w' := by
  have h := masterOf_any (maB e s t) w (maB_sec e s t)
  obtain ⟨e0, e1, e2, e3⟩ := maOk_self e s t h0 h1 h2
  rw [e0, e1, e2, e3] at h
  exact h
theorem lyB_turned (n l g : Int) (p v : Nat) (hp : p < 256) (hv0 : v ≠ 0) (hv : v < 256) : lyOk (turned1 (lyB n l g) p v) = false := by
  unfold lyOk
  rw [Bool.and_eq_false_iff]
  right
  apply decide_eq_false
  unfold lyB
  exact seal_turned (upTo_small nameS_small (by simp)) (by rw [upTo_len (by simp)]; decide) (by rw [upTo_len (by simp)]; decide) p v hp hv0 hv
theorem maB_turned (e s t : Nat) (p v : Nat) (hp : p < 256) (hv0 : v ≠ 0) (hv : v < 256) : maOk (turned1 (maB e s t) p v) = false := by
  unfold maOk
  apply decide_eq_false
  unfold maB
  exact seal_turned (upTo_small nameM_small (by simp)) (by rw [upTo_len (by simp)]; decide) (by rw [upTo_len (by simp)]; decide) p v hp hv0 hv
theorem of_turned (n l g : Int) (p v : Nat) (hp : p < 256) (hv0 : v ≠ 0) (hv : v < 256) (w : World) : Calls Try.prog 31 #[.agg (sec (Sx (turned1 (lyB n l g) p v)))] w (RetLy 0 0 0 4 w) := by
  have h := of_any (turned1 (lyB n l g) p v) w (turned1_sec (lyB_sec n l g) p v hv)
  rw [lyB_turned n l g p v hp hv0 hv] at h
  exact h
theorem maOf_turned (e s t : Nat) (p v : Nat) (hp : p < 256) (hv0 : v ≠ 0) (hv : v < 256) (w : World) : Calls Try.prog 33 #[.agg (sec (Sx (turned1 (maB e s t) p v)))] w fun en w' => en = .returned (.tuple #[.agg #[.int .u64 (0 : Nat), .int .u64 (0 : Nat), .int .u64 (0 : Nat)], .int .i64 4]) ∧ Gr w w' := by
  have h := masterOf_any (turned1 (maB e s t) p v) w (turned1_sec (maB_sec e s t) p v hv)
  rw [maB_turned e s t p v hp hv0 hv] at h
  exact h
/-- One byte of a sector in memory. -/
theorem Blk.byte {w : World} {g : Nat} {xs : List Int} (h : Blk w g TS (sec (Sx xs))) (k : IsSec xs) (p : Nat) (hp : p < 256) : w.cell? ⟨g, p, none⟩ = some (.int .u8 (xs.getD p 0)) ∧ w.frozen? ⟨g, p, none⟩ = false := by
  have h1 := (h.byt k).at (by omega)
  obtain ⟨b, o, e, hc⟩ := h1
  cases e
  have := hc p hp
  rw [Nat.zero_add] at this
  exact ⟨this, h.frozen p⟩
theorem Blk.turn {w : World} {g : Nat} {xs : List Int} (h : Blk w g TS (sec (Sx xs))) (k : IsSec xs) (p v : Nat) (hv : v < 256) : Blk (w.setCell ⟨g, p, none⟩ (.int .u8 (Cr.flip (xs.getD p 0) v))) g TS (sec (Sx (turned1 xs p v))) := by
  have h1 := h.set p (.int .u8 (Cr.flip (xs.getD p 0) v))
  have e : (sec (Sx xs)).setIfInBounds p (.int .u8 (Cr.flip (xs.getD p 0) v)) = sec (Sx (turned1 xs p v)) := by
    unfold sec
    rw [Sx_cells k, Sx_cells (turned1_sec k p v hv)]
    unfold turned1
    rw [List.map_set]
    simp
  rw [← e]
  exact h1

theorem two_pow (R : Nat) (h : R < 8) : 2 ^ R ≠ 0 ∧ 2 ^ R < 256 ∧ ((2 : Int) ^ R % 256) = ((2 ^ R : Nat) : Int) := by
  have : R = 0 ∨ R = 1 ∨ R = 2 ∨ R = 3 ∨ R = 4 ∨ R = 5 ∨ R = 6 ∨ R = 7 := by omega
  rcases this with rfl | rfl | rfl | rfl | rfl | rfl | rfl | rfl <;> decide
theorem bits_flip (A : Int) (R : Nat) (h0 : 0 ≤ A) (h1 : A < 256) (h : R < 8) : bits .xor .u8 A ((2 : Int) ^ R % 256) = Cr.flip A (2 ^ R) := by
  obtain ⟨_, h2, h3⟩ := two_pow R h
  rw [h3, u8_xor A _ h0 h1 (by omega) (by omega)]
  rfl
theorem bits_flip2 (A : Int) (R : Nat) (h0 : 0 ≤ A) (h1 : A < 256) (h : R < 8) : bits .xor .u8 A ((2 : Int) ^ R) = Cr.flip A (2 ^ R) := by
  obtain ⟨_, h2, _⟩ := two_pow R h
  rw [show ((2 : Int) ^ R) = ((2 ^ R : Nat) : Int) by rw [Int.natCast_pow]; rfl, u8_xor A _ h0 h1 (by omega) (by omega)]
  rfl

end Go.Proofs.Ytanajjfcnedaiaa
