/-
  No cell of these rows narrows 'for every input' (looked for: loops, veiled, ifaces, maps, wideKeys, modest, calm, conditions, laid).
  DERIVED. THE GIVEN ROWS OF THIS SEAT. 4 by the template 'for every input the law returns true; each argument reads behind the call as it read before'; 0 by the template 'total and deterministic' (their statements: YtmmhfjcaejkmiaaTotals.lean).
  GIVEN WITH THE SEED: the statements are not yours to turn. If you find one false, say at which input.
  Laid BY PROGRAM, IN A SANDBOX (cutbox-rows.mjs): the forced cells as the released guide's own fill.sh prints them over the translation bf67f82267af9891… (all of the seat's roots in one cut). By AI agents, Wed Nov 11 2026. No macro, syntax, notation, axiom, sorry.
-/
import Derived.Test.YtmmhfjcaejkmiaaChecked
import GoSem.Claim
import GoSem.ClaimJoined
import GoSem.ClaimMapViews
import Derived.JoinedTies
import Derived.KernelRfl
namespace Go.Proofs.Ytmmhfjcaejkmiaa
/- THE CELL 'sum', in the pinned program and in every row, IS THE sha256 OF THE DUMP (.gsa) THAT YtmmhfjcaejkmiaaProg.lean LOADS. Nothing in Lean hashes anything: it is a label: what it is worth is what the hold of that sum in a sandbox is worth. -/
noncomputable def Try.pinned : Pinned := { name := "ytmmhfjcaejkmiaa", sum := "bf67f82267af9891acc5bfda9e5b8c1952a4a3a82edabe39477eb6be84f9e9d8", checked := Try.checked }
namespace Rows
def none {H : Type} : Left H := { results := [], args := [] }

/-- 'hornbooklaw02.SumsDivide': WHATEVER THE INPUT: true; the input reads as it did. -/
def sumsDivideSpec : ChangeSpec := { name := "sumsDivide", fn := fun _ => fun
  | [d] => { results := [.lit (.bool true)], args := [d] }
  | _ => none }
def sumsDivideRow : OpenClaim := { program := "ytmmhfjcaejkmiaa", sum := "bf67f82267af9891acc5bfda9e5b8c1952a4a3a82edabe39477eb6be84f9e9d8", func := "hornbook/hornbooklaw02.SumsDivide", spec := "sumsDivide", apart := false }
def SumsDivideSaid : Prop := sumsDivideRow.holds Try.pinned (OpenSpec.ofChange sumsDivideSpec)

/-- ITS FALSE NEIGHBOUR: 'it returns false'. Refute it at one input. -/
def sumsDivideWrong : ChangeSpec := { name := "sumsDivide", fn := fun _ => fun
  | [d] => { results := [.lit (.bool false)], args := [d] }
  | _ => none }
def SumsDivideWrongFalsely : Prop := sumsDivideRow.holds Try.pinned (OpenSpec.ofChange sumsDivideWrong)

/-- 'hornbooklaw02.SumsPlaces': WHATEVER THE INPUT: true; the input reads as it did. -/
def sumsPlacesSpec : ChangeSpec := { name := "sumsPlaces", fn := fun _ => fun
  | [d1, d2, d3, d4] => { results := [.lit (.bool true)], args := [d1, d2, d3, d4] }
  | _ => none }
def sumsPlacesRow : OpenClaim := { program := "ytmmhfjcaejkmiaa", sum := "bf67f82267af9891acc5bfda9e5b8c1952a4a3a82edabe39477eb6be84f9e9d8", func := "hornbook/hornbooklaw02.SumsPlaces", spec := "sumsPlaces", apart := false }
def SumsPlacesSaid : Prop := sumsPlacesRow.holds Try.pinned (OpenSpec.ofChange sumsPlacesSpec)

/-- ITS FALSE NEIGHBOUR: 'it returns false'. Refute it at one input. -/
def sumsPlacesWrong : ChangeSpec := { name := "sumsPlaces", fn := fun _ => fun
  | [d1, d2, d3, d4] => { results := [.lit (.bool false)], args := [d1, d2, d3, d4] }
  | _ => none }
def SumsPlacesWrongFalsely : Prop := sumsPlacesRow.holds Try.pinned (OpenSpec.ofChange sumsPlacesWrong)

/-- 'hornbooklaw02.SumsPatch': WHATEVER THE INPUT: true; the input reads as it did. -/
def sumsPatchSpec : ChangeSpec := { name := "sumsPatch", fn := fun _ => fun
  | [d1, d2, d3] => { results := [.lit (.bool true)], args := [d1, d2, d3] }
  | _ => none }
def sumsPatchRow : OpenClaim := { program := "ytmmhfjcaejkmiaa", sum := "bf67f82267af9891acc5bfda9e5b8c1952a4a3a82edabe39477eb6be84f9e9d8", func := "hornbook/hornbooklaw02.SumsPatch", spec := "sumsPatch", apart := false }
def SumsPatchSaid : Prop := sumsPatchRow.holds Try.pinned (OpenSpec.ofChange sumsPatchSpec)

/-- ITS FALSE NEIGHBOUR: 'it returns false'. Refute it at one input. -/
def sumsPatchWrong : ChangeSpec := { name := "sumsPatch", fn := fun _ => fun
  | [d1, d2, d3] => { results := [.lit (.bool false)], args := [d1, d2, d3] }
  | _ => none }
def SumsPatchWrongFalsely : Prop := sumsPatchRow.holds Try.pinned (OpenSpec.ofChange sumsPatchWrong)

/-- 'hornbooklaw02.SumsApart': WHATEVER THE INPUT: true; the input reads as it did. -/
def sumsApartSpec : ChangeSpec := { name := "sumsApart", fn := fun _ => fun
  | [d1, d2, d3, d4, d5] => { results := [.lit (.bool true)], args := [d1, d2, d3, d4, d5] }
  | _ => none }
def sumsApartRow : OpenClaim := { program := "ytmmhfjcaejkmiaa", sum := "bf67f82267af9891acc5bfda9e5b8c1952a4a3a82edabe39477eb6be84f9e9d8", func := "hornbook/hornbooklaw02.SumsApart", spec := "sumsApart", apart := false }
def SumsApartSaid : Prop := sumsApartRow.holds Try.pinned (OpenSpec.ofChange sumsApartSpec)

/-- ITS FALSE NEIGHBOUR: 'it returns false'. Refute it at one input. -/
def sumsApartWrong : ChangeSpec := { name := "sumsApart", fn := fun _ => fun
  | [d1, d2, d3, d4, d5] => { results := [.lit (.bool false)], args := [d1, d2, d3, d4, d5] }
  | _ => none }
def SumsApartWrongFalsely : Prop := sumsApartRow.holds Try.pinned (OpenSpec.ofChange sumsApartWrong)

/- THE SECOND FORM. 'bulk': how many values and letters a reading holds, each counted each time it is reached (what is shared counts as often as it is met; a slice's spare places count too). A statement '..UptoSaid' is the law's where the arguments, and the package variables that the reading takes, are together of bulk at most 1048576: NARROWER than '..Said'. Prove '..Said' where nothing that the law and all that it calls make is longer than what came in: it says more and counts as full. Else prove '..UptoSaid'. A law counts once. -/
mutual
def uptoBulk {H : Type} : DataW H → Nat
  | .lit (.string bytes) => bytes.length + 1
  | .lit _ => 1
  | .nil => 1
  | .ptr d => uptoBulk d + 1
  | .slice elems spare => uptoBulkAll elems + uptoBulkAll spare + 1
  | .agg parts => uptoBulkAll parts + 1
  | .iface _ d => uptoBulk d + 1
  | .map entries => uptoBulkEntries entries + 1
  | .held _ => 1
def uptoBulkAll {H : Type} : List (DataW H) → Nat
  | [] => 0
  | d :: r => uptoBulk d + uptoBulkAll r
def uptoBulkEntries {H : Type} : List (Lit × DataW H) → Nat
  | [] => 0
  | x :: r => uptoBulkEntry x + uptoBulkEntries r
def uptoBulkEntry {H : Type} : Lit × DataW H → Nat
  | (.string bytes, d) => bytes.length + uptoBulk d + 1
  | (_, d) => uptoBulk d + 1
 end
def uptoSmall : (H : Type) → List (DataW H) → Bool := fun _ ds => decide (uptoBulkAll ds ≤ 1048576)
def OpenSpec.upto (s : _root_.Go.ChangeSpec) : _root_.Go.OpenSpec := { _root_.Go.OpenSpec.ofChange s with cond := some uptoSmall }

/-- 'hornbooklaw02.SumsDivide', WHERE WHAT IT READS IS OF BULK AT MOST 1048576: true; the input reads as it did. -/
def sumsDivideUptoRow : OpenClaim := { program := "ytmmhfjcaejkmiaa", sum := "bf67f82267af9891acc5bfda9e5b8c1952a4a3a82edabe39477eb6be84f9e9d8", func := "hornbook/hornbooklaw02.SumsDivide", spec := "sumsDivide", apart := false, narrowed := true }
def SumsDivideUptoSaid : Prop := sumsDivideUptoRow.holds Try.pinned (OpenSpec.upto sumsDivideSpec)

/-- 'hornbooklaw02.SumsPlaces', WHERE WHAT IT READS IS OF BULK AT MOST 1048576: true; the input reads as it did. -/
def sumsPlacesUptoRow : OpenClaim := { program := "ytmmhfjcaejkmiaa", sum := "bf67f82267af9891acc5bfda9e5b8c1952a4a3a82edabe39477eb6be84f9e9d8", func := "hornbook/hornbooklaw02.SumsPlaces", spec := "sumsPlaces", apart := false, narrowed := true }
def SumsPlacesUptoSaid : Prop := sumsPlacesUptoRow.holds Try.pinned (OpenSpec.upto sumsPlacesSpec)

/-- 'hornbooklaw02.SumsPatch', WHERE WHAT IT READS IS OF BULK AT MOST 1048576: true; the input reads as it did. -/
def sumsPatchUptoRow : OpenClaim := { program := "ytmmhfjcaejkmiaa", sum := "bf67f82267af9891acc5bfda9e5b8c1952a4a3a82edabe39477eb6be84f9e9d8", func := "hornbook/hornbooklaw02.SumsPatch", spec := "sumsPatch", apart := false, narrowed := true }
def SumsPatchUptoSaid : Prop := sumsPatchUptoRow.holds Try.pinned (OpenSpec.upto sumsPatchSpec)

/-- 'hornbooklaw02.SumsApart', WHERE WHAT IT READS IS OF BULK AT MOST 1048576: true; the input reads as it did. -/
def sumsApartUptoRow : OpenClaim := { program := "ytmmhfjcaejkmiaa", sum := "bf67f82267af9891acc5bfda9e5b8c1952a4a3a82edabe39477eb6be84f9e9d8", func := "hornbook/hornbooklaw02.SumsApart", spec := "sumsApart", apart := false, narrowed := true }
def SumsApartUptoSaid : Prop := sumsApartUptoRow.holds Try.pinned (OpenSpec.upto sumsApartSpec)

end Rows
end Go.Proofs.Ytmmhfjcaejkmiaa
