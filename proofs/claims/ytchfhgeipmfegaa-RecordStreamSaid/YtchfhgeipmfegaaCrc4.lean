
import Derived.Test.YtchfhgeipmfegaaCrc2
import Derived.Test.YtchfhgeipmfegaaCrc3
namespace Go.Proofs.Ytchfhgeipmfegaa
open Go.RowKit Cr

/-- All bits. -/
def ones : W := 4294967295#32
theorem U_ones : U ones = 4294967295 := rfl
/-- The sum of bytes. -/
def sumW (l : List Int) : W := ~~~(over ones l)
/-- What a word that changes does to a sum. -/
def patW (s f : W) (behind : Nat) : W := s ^^^ its (8 * (4 + behind)) f

theorem not_spell (s : W) : bits BinOp.xor IntKind.u32 IntKind.u32.max (U s) = U (~~~s) := by
  rw [show IntKind.u32.max = U ones from rfl, U_xor, show ones = BitVec.allOnes 32 from rfl, BitVec.allOnes_xor]

/-- One list in a new block. -/
theorem Rows.one {w W' : World} {t : TypeId} {p : Option Addr} {n c : Nat} {x : List Int} (h : Byt w p n c x) (hW : W'.heap = (w.alloc (.cells #[.slice p n c] t)).heap) : Rows W' (some ⟨w.heap.size, 0, none⟩) 1 1 [x] := by
  have hg := (Below.refl w.heap.size w).alloc (Nat.le_refl _) (.cells #[.slice p n c] t)
  have g1 := (h.kept hg).heap hW
  have hc : ∀ i, W'.cell? ⟨w.heap.size, i, none⟩ = (#[.slice p n c] : Array Value)[i]? := fun i => by
    rw [← World.cell?_alloc_at (w := w) #[.slice p n c] t w.heap.size i rfl]
    exact World.cell?_of_block (w := w.alloc _) (by rw [hW])
  refine ⟨rfl, Nat.le_refl _, by simp only [maxLen]; omega, fun _ => ⟨_, 0, rfl, fun i hi => ?_⟩, fun h => by cases h⟩
  obtain rfl : i = 0 := by omega
  exact ⟨p, n, c, hc 0, g1⟩
theorem Rows.two {w W' : World} {t : TypeId} {p1 p2 : Option Addr} {n1 n2 c1 c2 : Nat} {x1 x2 : List Int} (h1 : Byt w p1 n1 c1 x1) (h2 : Byt w p2 n2 c2 x2) (hW : W'.heap = (w.alloc (.cells #[.slice p1 n1 c1, .slice p2 n2 c2] t)).heap) : Rows W' (some ⟨w.heap.size, 0, none⟩) 2 2 [x1, x2] := by
  have hg := (Below.refl w.heap.size w).alloc (Nat.le_refl _) (.cells #[.slice p1 n1 c1, .slice p2 n2 c2] t)
  have g1 := (h1.kept hg).heap hW
  have g2 := (h2.kept hg).heap hW
  have hc : ∀ i, W'.cell? ⟨w.heap.size, i, none⟩ = (#[.slice p1 n1 c1, .slice p2 n2 c2] : Array Value)[i]? := fun i => by
    rw [← World.cell?_alloc_at (w := w) #[.slice p1 n1 c1, .slice p2 n2 c2] t w.heap.size i rfl]
    exact World.cell?_of_block (w := w.alloc _) (by rw [hW])
  refine ⟨rfl, Nat.le_refl _, by simp only [maxLen]; omega, fun _ => ⟨_, 0, rfl, fun i hi => ?_⟩, fun h => by cases h⟩
  have : i = 0 ∨ i = 1 := by omega
  rcases this with rfl | rfl
  · exact ⟨p1, n1, c1, hc 0, g1⟩
  · exact ⟨p2, n2, c2, hc 1, g2⟩
theorem Rows.nil (w : World) : Rows w none 0 0 [] := ⟨rfl, Nat.le_refl _, Nat.zero_le _, fun h => absurd h (Nat.lt_irrefl 0), fun _ => rfl⟩

set_option maxRecDepth 100000 in
theorem at_crc (m : Nat) (p : Option Addr) (n c : Nat) (xss : List (List Int)) (w : World) (hm : m ≤ 18446744073709551615) (h : Rows w p n c xss) : Calls Try.prog 60 #[.int .u64 m, .slice p n c] w fun e w' => e = .returned (.int .u32 (U (sumW (Wd.enc 8 m ++ xss.flatten)))) ∧ Gr w w' := by
  have HH := Lib.hid h
  clear h
  have hf : overs (over ones (Wd.enc 8 m)) xss = over ones (Wd.enc 8 m ++ xss.flatten) := by rw [overs_flat, over_app]
  have HF := Lib.hid hf
  clear hf
  have HO := fun q k d ys => over_any ones q k d ys
  rw [U_ones] at HO
  have HO := Lib.hid HO
  go_enter Try.func60, Try.ntmps60
  go_wp2_with fail
  refine (eight_any _ _ hm).mono ?_
  rintro e w1 ⟨p1, n1, c1, rfl, hb1, g1, _⟩
  have HR := Lib.hid (Rows.one (t := 22) hb1 rfl)
  have HG := Lib.hid (g1.alloc g1.size (.cells #[.slice p1 n1 c1] 22))
  clear hb1 g1
  go_wp2_with fail
  refine (HO.out _ _ _ _ _ HR.out).mono ?_
  rintro e w2 ⟨rfl, g2⟩
  have HG2 := Lib.hid (Gr.trans HG.out g2)
  have HH2 := Lib.hid (HH.out.kept HG2.out)
  clear g2 HG HR HO HH
  go_wp2_with fail
  refine (over_any _ _ _ _ _ _ HH2.out).mono ?_
  rintro e w3 ⟨rfl, g3⟩
  have HG3 := Lib.hid (HG2.out.trans g3)
  clear g3 HG2 HH2
  go_wp2
  go_ret
  exact ⟨ret_i (by have e : overs ones [Wd.enc 8 m] = over ones (Wd.enc 8 m) := rfl; rw [e, HF.out]; exact not_spell _), HG3.out⟩

end Go.Proofs.Ytchfhgeipmfegaa
