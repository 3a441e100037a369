
/-
  The document's way to read a record is the program's.
-/
import Derived.Test.YtchfhgeipmfegaaRec
namespace Go.Proofs.Ytchfhgeipmfegaa
open Cr

/-- How many bytes of After a record's bytes tell. -/
theorem rec_na {r : Rc} (hm : mayR r = true) (at' : Nat) (rest : List Int) : atR (recL r at' ++ rest) 34 1 = r.a.length := by
  have f7 := (mayR_fits hm).na
  obtain ⟨k, t, p, x, g, o, b, a⟩ := r
  simp only at f7
  obtain ⟨S, hS⟩ : ∃ S, S = Wd.enc 2 (29 + b.length + a.length) := ⟨_, rfl⟩
  obtain ⟨M, hM⟩ : ∃ M, M = Wd.enc 4 (sumL ⟨k, t, p, x, g, o, b, a⟩ at').toNat := ⟨_, rfl⟩
  have lS : S.length = 2 := by rw [hS]; exact Wd.enc_length _ _
  have lM : M.length = 4 := by rw [hM]; exact Wd.enc_length _ _
  have lE : ∀ j n, (Wd.enc j n).length = j := Wd.enc_length
  have e : recL ⟨k, t, p, x, g, o, b, a⟩ at' ++ rest = (S ++ (M ++ (Wd.enc 1 k.toNat ++ (Wd.enc 8 t ++ (Wd.enc 8 p ++ (Wd.enc 8 x ++ (Wd.enc 2 g.toNat ++ Wd.enc 1 o.toNat))))))) ++ (Wd.enc 1 a.length ++ (b ++ (a ++ rest))) := by
    unfold recL sizeL
    rw [← hM, ← hS]
    simp [bodyL, rows9]
  refine (atR_mid' (xs := recL ⟨k, t, p, x, g, o, b, a⟩ at' ++ rest) (f := 34) (s := 1) (k := 1) (n := a.length) e (by simp [lS, lM, lE]) rfl (by omega) (by omega)).trans ?_
  exact Nat.mod_eq_of_lt (by omega)

/-- What the document reads: so many bytes the body has; After; Before. -/
def szR (xs : List Int) : Nat := Wd.dec (xs.take 2)
def cand2 (xs : List Int) (m : Nat) : Rc :=
  { k := (atR xs 6 1 : Nat), t := atR xs 7 8, p := atR xs 15 8, x := atR xs 23 8, g := (atR xs 31 2 : Nat), o := (atR xs 33 1 : Nat), b := (xs.drop 35).take m, a := (xs.drop (35 + m)).take (atR xs 34 1) }
theorem cand2_in (xs : List Int) (hx : Wd.Small xs) (m : Nat) : (cand2 xs m).In := by
  have h := cand_in xs hx
  exact ⟨h.t, h.p, h.x, (hx.drop _).take _, (hx.drop _).take _⟩

theorem ref_yes {xs : List Int} {at' m : Nat} (hx : Wd.Small xs) (h1 : szR xs + 6 ≤ xs.length) (hm : mayR (cand2 xs m) = true) (he : recL (cand2 xs m) at' = xs.take (6 + szR xs)) : ofB xs at' = true ∧ cand xs = cand2 xs m ∧ (recL (cand xs) at').length = 6 + szR xs := by
  have hl : (recL (cand2 xs m) at').length = 6 + szR xs := by rw [he, List.length_take]; omega
  have hp : preB xs (recL (cand2 xs m) at') = true := by rw [preB_iff, hl, he]
  have hc := cand_pre hm (cand2_in xs hx m) hp
  refine ⟨?_, hc, by rw [hc, hl]⟩
  unfold ofB
  rw [hc, hm, hp]
  rfl
theorem ref_of {xs : List Int} {at' : Nat} (h : ofB xs at' = true) : 35 ≤ xs.length ∧ 29 ≤ szR xs ∧ szR xs + 6 ≤ xs.length ∧ atR xs 34 1 + 29 ≤ szR xs ∧ mayR (cand2 xs (szR xs - 29 - atR xs 34 1)) = true ∧ cand2 xs (szR xs - 29 - atR xs 34 1) = cand xs ∧ recL (cand2 xs (szR xs - 29 - atR xs 34 1)) at' = xs.take (6 + szR xs) := by
  unfold ofB at h
  rw [Bool.and_eq_true] at h
  obtain ⟨hm, hp⟩ := h
  have hf := mayR_fits hm
  have f7 := hf.na
  have f8 := hf.nb
  have f9 := hf.nb1
  have hs := preB_split hp
  have hk : (cand xs).k = ((atR xs 6 1 : Nat) : Int) := rfl
  have hself : ∀ m, m = (if atR xs 6 1 = 1 then atR xs 34 1 else 0) → cand2 xs m = cand xs := fun m h => by subst h; rfl
  obtain ⟨r, hr⟩ : ∃ r, r = cand xs := ⟨_, rfl⟩
  rw [← hr] at hm hp f7 f8 f9 hs hk hself ⊢
  obtain ⟨T, hT⟩ : ∃ T, T = xs.drop (recL r at').length := ⟨_, rfl⟩
  rw [← hT] at hs
  have hna := rec_na hm at' T
  rw [← hs] at hna
  have hlen : xs.length = 35 + r.b.length + r.a.length + T.length := by
    have := congrArg List.length hs
    rw [List.length_append, recL_len] at this
    exact this
  have hsz : szR xs = 29 + r.b.length + r.a.length := by
    have e : xs.take 2 = sizeL r := by
      rw [hs]
      unfold recL
      rw [List.append_assoc]
      exact List.take_left' (show (sizeL r).length = 2 by unfold sizeL; exact Wd.enc_length _ _)
    unfold szR
    rw [e]
    unfold sizeL
    rw [Wd.dec_enc]
    exact Nat.mod_eq_of_lt (by omega)
  have hb : szR xs - 29 - atR xs 34 1 = r.b.length := by rw [hsz, hna]; omega
  have hif : (if atR xs 6 1 = 1 then atR xs 34 1 else 0) = r.b.length := by
    rw [f8, hna, hk]
    split <;> split <;> omega
  have hc : cand2 xs (szR xs - 29 - atR xs 34 1) = r := by
    rw [hb]
    exact hself _ hif.symm
  refine ⟨by omega, by omega, by omega, by omega, by rw [hc]; exact hm, hc, ?_⟩
  rw [hc]
  have hl : (recL r at').length = 6 + szR xs := by rw [recL_len]; omega
  rw [← hl]
  exact (preB_iff.1 hp).symm

end Go.Proofs.Ytchfhgeipmfegaa
