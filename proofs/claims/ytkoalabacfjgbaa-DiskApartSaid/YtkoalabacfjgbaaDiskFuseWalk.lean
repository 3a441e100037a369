
import Derived.Test.YtkoalabacfjgbaaKnown3
namespace Go.Proofs.Ytkoalabacfjgbaa
open Go.RowKit Go.Maps

theorem sector_at (j : Int) (h0 : 0 ≤ j) (h1 : j < 256) (w : World) : Calls Try.prog 5 #[.int .u8 j] w fun e w' => RetSector (Sec.of (UInt8.ofNat j.toNat)) w e w' := by
  have := sector_any (UInt8.ofNat j.toNat) w
  rwa [B8_of j h0 h1] at this

/-- A number brought into 0 .. n - 1. -/
theorem into (z : Int) (n : Nat) (hn : 0 < n) (h2 : n ≤ 20) : ∃ J : Nat, J < n ∧ (z.tmod (n : Int) + (n : Int)) % (n : Int) = (J : Int) ∧ (z.tmod (n : Int) + (n : Int)).tmod (n : Int) = (J : Int) ∧ 0 ≤ z.tmod (n : Int) + (n : Int) ∧ -20 ≤ z.tmod (n : Int) ∧ z.tmod (n : Int) ≤ 20 := by
  have h1 := Int.tmod_lt_of_pos z (show (0 : Int) < (n : Int) by omega)
  have h3 : -(n : Int) < z.tmod (n : Int) := by
    have := Int.tmod_lt_of_pos (-z) (show (0 : Int) < (n : Int) by omega)
    rw [Int.neg_tmod] at this
    omega
  refine ⟨((z.tmod (n : Int) + (n : Int)) % (n : Int)).toNat, ?_, ?_, ?_, by omega, by omega, by omega⟩
  · have := Int.emod_lt_of_pos (z.tmod (n : Int) + (n : Int)) (show (0 : Int) < (n : Int) by omega)
    have := Int.emod_nonneg (z.tmod (n : Int) + (n : Int)) (show (n : Int) ≠ 0 by omega)
    omega
  · have := Int.emod_nonneg (z.tmod (n : Int) + (n : Int)) (show (n : Int) ≠ 0 by omega)
    omega
  · rw [Int.tmod_eq_emod_of_nonneg (by omega)]
    have := Int.emod_nonneg (z.tmod (n : Int) + (n : Int)) (show (n : Int) ≠ 0 by omega)
    omega

/-- Behind k writes. -/
def Fz (z : Int) (n k dn : Nat) (s : St) : Prop := s.ls.length = n ∧ s.writes = dn ∧ dn ≤ k ∧ ((((k : Int) ≤ z) ∧ dn = k ∧ s.fuse = z - k ∧ s.dead = false) ∨ (z < k ∧ (dn : Int) = z ∧ s.dead = true))
/-- A disk of the law's own, below whose blocks nothing has turned. -/
def Own (w wr : World) (d : Value) (s : St) : Prop := ∃ F, Dk wr F d s ∧ Gr w wr ∧ ∀ k, F k → w.heap.size ≤ k
theorem Own.gr {w wr wx : World} {d : Value} {s : St} (h : Own w wr d s) (g : Gr wr wx) : Own w wx d s := by
  obtain ⟨F, h1, h2, h3⟩ := h
  exact ⟨F, h1.gr g, Gr.trans h2 g, h3⟩
theorem Own.grown {w wr : World} {d : Value} {s : St} (h : Own w wr d s) : Gr w wr := by
  obtain ⟨F, h1, h2, h3⟩ := h
  exact h2
theorem Own.upd {w wr wx : World} {d : Value} {s' : St} {F F' : Nat → Prop} (hg : Gr w wr) (hF : ∀ k, F k → w.heap.size ≤ k) (h : Dk wx F' d s') (u : Upd F F' wr wx) : Own w wx d s' :=
  ⟨F', h, Below.trans hg (u.below hg.size hF), u.from hg.size hF⟩

end Go.Proofs.Ytkoalabacfjgbaa
