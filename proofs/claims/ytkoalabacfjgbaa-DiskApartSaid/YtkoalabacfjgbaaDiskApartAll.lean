
/-
  The law DiskApart, for every input.
-/
import Derived.Test.YtkoalabacfjgbaaDiskApartWalk
import Derived.Test.YtkoalabacfjgbaaApartNone
namespace Go.Proofs.Ytkoalabacfjgbaa
open Go.RowKit Go.Maps Go.Shelf

theorem diskApart_walk (q : Option Addr) (m c : Nat) (xs : List Int) (q1 : Option Addr) (m1 c1 : Nat) (f1 : Nat → Do) (q2 : Option Addr) (m2 c2 : Nat) (f2 : Nat → Do) (w : World) (hb : Bys w q m c xs) (h1 : Acts w q1 m1 f1) (h2 : Acts w q2 m2 f2) :
    Calls Try.prog 3 #[.slice q m c, .slice q1 m1 c1, .slice q2 m2 c2] w fun e w' => RetTrue w e w' := by
  by_cases h : m < 1 ∨ 40 < m ∨ 40 < m1 ∨ 40 < m2
  · exact diskApart_none q m c q1 m1 c1 q2 m2 c2 w hb.most h1.1 h2.1 h
  · exact diskApart_main q m c xs q1 m1 c1 f1 q2 m2 c2 f2 w hb h1 h2 (by omega) (by omega) (by omega) (by omega)

end Go.Proofs.Ytkoalabacfjgbaa
