
import Derived.Test.YtanajjfcnedaiaaCrc2
import Derived.Test.YtanajjfcnedaiaaCrc3
namespace Go.Proofs.Ytanajjfcnedaiaa
open Go.RowKit Cr

/-- All bits. -/
def ones : W := 4294967295#32
theorem U_ones : U ones = 4294967295 := rfl
/-- The sum of bytes. -/
def sumW (l : List Int) : W := ~~~(over ones l)
/-- What a word that changes does to a sum. -/
def patW (s f : W) (behind : Nat) : W := s ^^^ its (8 * (4 + behind)) f

theorem not_spell (s : W) : bits BinOp.xor IntKind.u32 IntKind.u32.max (U s) = U (~~~s) := by
  rw [show IntKind.u32.max = U ones from rfl, U_xor, show ones = BitVec.allOnes 32 from rfl, BitVec.allOnes_xor]

/-- One list in a new block. -/
theorem Rows.one {w W' : World} {t : TypeId} {p : Option Addr} {n c : Nat} {x : List Int} (h : Byt w p n c x) (hW : W'.heap = (w.alloc (.cells #[.slice p n c] t)).heap) : Rows W' (some ⟨w.heap.size, 0, none⟩) 1 1 [x] := by
  have hg := (Below.refl w.heap.size w).alloc (Nat.le_refl _) (.cells #[.slice p n c] t)
  have g1 := (h.kept hg).heap hW
  have hc : ∀ i, W'.cell? ⟨w.heap.size, i, none⟩ = (#[.slice p n c] : Array Value)[i]? := fun i => by
    rw [← World.cell?_alloc_at (w := w) #[.slice p n c] t w.heap.size i rfl]
    exact World.cell?_of_block (w := w.alloc _) (by rw [hW])
  refine ⟨rfl, Nat.le_refl _, by simp only [maxLen]; omega, fun _ => ⟨_, 0, rfl, fun i hi => ?_⟩, fun h => by cases h⟩
  obtain rfl : i = 0 := by omega
  exact ⟨p, n, c, hc 0, g1⟩
theorem Rows.two {w W' : World} {t : TypeId} {p1 p2 : Option Addr} {n1 n2 c1 c2 : Nat} {x1 x2 : List Int} (h1 : Byt w p1 n1 c1 x1) (h2 : Byt w p2 n2 c2 x2) (hW : W'.heap = (w.alloc (.cells #[.slice p1 n1 c1, .slice p2 n2 c2] t)).heap) : Rows W' (some ⟨w.heap.size, 0, none⟩) 2 2 [x1, x2] := by
  have hg := (Below.refl w.heap.size w).alloc (Nat.le_refl _) (.cells #[.slice p1 n1 c1, .slice p2 n2 c2] t)
  have g1 := (h1.kept hg).heap hW
  have g2 := (h2.kept hg).heap hW
  have hc : ∀ i, W'.cell? ⟨w.heap.size, i, none⟩ = (#[.slice p1 n1 c1, .slice p2 n2 c2] : Array Value)[i]? := fun i => by
    rw [← World.cell?_alloc_at (w := w) #[.slice p1 n1 c1, .slice p2 n2 c2] t w.heap.size i rfl]
    exact World.cell?_of_block (w := w.alloc _) (by rw [hW])
  refine ⟨rfl, Nat.le_refl _, by simp only [maxLen]; omega, fun _ => ⟨_, 0, rfl, fun i hi => ?_⟩, fun h => by cases h⟩
  have : i = 0 ∨ i = 1 := by omega
  rcases this with rfl | rfl
  · exact ⟨p1, n1, c1, hc 0, g1⟩
  · exact ⟨p2, n2, c2, hc 1, g2⟩
theorem Rows.nil (w : World) : Rows w none 0 0 [] := ⟨rfl, Nat.le_refl _, Nat.zero_le _, fun h => absurd h (Nat.lt_irrefl 0), fun _ => rfl⟩

set_option maxRecDepth 100000 in
theorem sum_any (p : Option Addr) (n c : Nat) (xss : List (List Int)) (w : World) (h : Rows w p n c xss) : Calls Try.prog 49 #[.slice p n c] w fun e w' => e = .returned (.int .u32 (U (sumW xss.flatten))) ∧ Gr w w' := by
  have HH := Lib.hid h
  clear h
  have hf : overs ones xss = over ones xss.flatten := overs_flat xss ones
  have HF := Lib.hid hf
  clear hf
  have HO := over_any ones p n c xss
  rw [U_ones] at HO
  have HO := Lib.hid HO
  go_enter Try.func49, Try.ntmps49
  go_wp2_with fail
  refine (HO.out _ HH.out).mono ?_
  rintro e w1 ⟨rfl, g1⟩
  have HG := Lib.hid g1
  clear g1 HO
  go_wp2
  go_ret
  exact ⟨ret_i (by rw [HF.out]; exact not_spell _), HG.out⟩

end Go.Proofs.Ytanajjfcnedaiaa
