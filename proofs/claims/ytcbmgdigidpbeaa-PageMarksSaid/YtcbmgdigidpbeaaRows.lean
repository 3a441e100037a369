/-
  No cell of these rows narrows 'for every input' (looked for: loops, veiled, ifaces, maps, wideKeys, modest, calm, conditions, laid).
  DERIVED. THE GIVEN ROWS OF THIS SEAT. 5 by the template 'for every input the law returns true; each argument reads behind the call as it read before'; 0 by the template 'total and deterministic' (their statements: YtcbmgdigidpbeaaTotals.lean).
  GIVEN WITH THE SEED: the statements are not yours to turn. If you find one false, say at which input.
  Laid BY PROGRAM, IN A SANDBOX (cutbox-rows.mjs): the forced cells as the released guide's own fill.sh prints them over the translation 75318f58ea112772… (all of the seat's roots in one cut). By AI agents, Wed Nov 11 2026. No macro, syntax, notation, axiom, sorry.
-/
import Derived.Test.YtcbmgdigidpbeaaChecked
import GoSem.Claim
import GoSem.ClaimJoined
import GoSem.ClaimMapViews
import Derived.JoinedTies
import Derived.KernelRfl
namespace Go.Proofs.Ytcbmgdigidpbeaa
/- THE CELL 'sum', in the pinned program and in every row, IS THE sha256 OF THE DUMP (.gsa) THAT YtcbmgdigidpbeaaProg.lean LOADS. Nothing in Lean hashes anything: it is a label: what it is worth is what the hold of that sum in a sandbox is worth. -/
noncomputable def Try.pinned : Pinned := { name := "ytcbmgdigidpbeaa", sum := "75318f58ea1127727fdc817583617867a061ef3db548763022234ef55e47dbeb", checked := Try.checked }
namespace Rows
def none {H : Type} : Left H := { results := [], args := [] }

/-- 'hornbooklaw01.WordsFit': WHATEVER THE INPUT: true; the input reads as it did. -/
def wordsFitSpec : ChangeSpec := { name := "wordsFit", fn := fun _ => fun
  | [d1, d2, d3] => { results := [.lit (.bool true)], args := [d1, d2, d3] }
  | _ => none }
def wordsFitRow : OpenClaim := { program := "ytcbmgdigidpbeaa", sum := "75318f58ea1127727fdc817583617867a061ef3db548763022234ef55e47dbeb", func := "hornbook/hornbooklaw01.WordsFit", spec := "wordsFit", inPlace := ["internal/bytealg.IndexByteString"], apart := false }
def WordsFitSaid : Prop := wordsFitRow.holds Try.pinned (OpenSpec.ofChange wordsFitSpec)

/-- ITS FALSE NEIGHBOUR: 'it returns false'. Refute it at one input. -/
def wordsFitWrong : ChangeSpec := { name := "wordsFit", fn := fun _ => fun
  | [d1, d2, d3] => { results := [.lit (.bool false)], args := [d1, d2, d3] }
  | _ => none }
def WordsFitWrongFalsely : Prop := wordsFitRow.holds Try.pinned (OpenSpec.ofChange wordsFitWrong)

/-- 'hornbooklaw01.PageWords': WHATEVER THE INPUT: true; the input reads as it did. -/
def pageWordsSpec : ChangeSpec := { name := "pageWords", fn := fun _ => fun
  | [d1, d2, d3, d4] => { results := [.lit (.bool true)], args := [d1, d2, d3, d4] }
  | _ => none }
def pageWordsRow : OpenClaim := { program := "ytcbmgdigidpbeaa", sum := "75318f58ea1127727fdc817583617867a061ef3db548763022234ef55e47dbeb", func := "hornbook/hornbooklaw01.PageWords", spec := "pageWords", inPlace := ["internal/bytealg.IndexByteString"], apart := false }
def PageWordsSaid : Prop := pageWordsRow.holds Try.pinned (OpenSpec.ofChange pageWordsSpec)

/-- ITS FALSE NEIGHBOUR: 'it returns false'. Refute it at one input. -/
def pageWordsWrong : ChangeSpec := { name := "pageWords", fn := fun _ => fun
  | [d1, d2, d3, d4] => { results := [.lit (.bool false)], args := [d1, d2, d3, d4] }
  | _ => none }
def PageWordsWrongFalsely : Prop := pageWordsRow.holds Try.pinned (OpenSpec.ofChange pageWordsWrong)

/-- 'hornbooklaw01.PageMarks': WHATEVER THE INPUT: true; the input reads as it did. -/
def pageMarksSpec : ChangeSpec := { name := "pageMarks", fn := fun _ => fun
  | [d1, d2] => { results := [.lit (.bool true)], args := [d1, d2] }
  | _ => none }
def pageMarksRow : OpenClaim := { program := "ytcbmgdigidpbeaa", sum := "75318f58ea1127727fdc817583617867a061ef3db548763022234ef55e47dbeb", func := "hornbook/hornbooklaw01.PageMarks", spec := "pageMarks", inPlace := ["internal/bytealg.IndexByteString"], apart := false }
def PageMarksSaid : Prop := pageMarksRow.holds Try.pinned (OpenSpec.ofChange pageMarksSpec)

/-- ITS FALSE NEIGHBOUR: 'it returns false'. Refute it at one input. -/
def pageMarksWrong : ChangeSpec := { name := "pageMarks", fn := fun _ => fun
  | [d1, d2] => { results := [.lit (.bool false)], args := [d1, d2] }
  | _ => none }
def PageMarksWrongFalsely : Prop := pageMarksRow.holds Try.pinned (OpenSpec.ofChange pageMarksWrong)

/-- 'hornbooklaw01.WordsBeside': WHATEVER THE INPUT: true; the input reads as it did. -/
def wordsBesideSpec : ChangeSpec := { name := "wordsBeside", fn := fun _ => fun
  | [d1, d2, d3, d4, d5] => { results := [.lit (.bool true)], args := [d1, d2, d3, d4, d5] }
  | _ => none }
def wordsBesideRow : OpenClaim := { program := "ytcbmgdigidpbeaa", sum := "75318f58ea1127727fdc817583617867a061ef3db548763022234ef55e47dbeb", func := "hornbook/hornbooklaw01.WordsBeside", spec := "wordsBeside", inPlace := ["internal/bytealg.IndexByteString"], apart := false }
def WordsBesideSaid : Prop := wordsBesideRow.holds Try.pinned (OpenSpec.ofChange wordsBesideSpec)

/-- ITS FALSE NEIGHBOUR: 'it returns false'. Refute it at one input. -/
def wordsBesideWrong : ChangeSpec := { name := "wordsBeside", fn := fun _ => fun
  | [d1, d2, d3, d4, d5] => { results := [.lit (.bool false)], args := [d1, d2, d3, d4, d5] }
  | _ => none }
def WordsBesideWrongFalsely : Prop := wordsBesideRow.holds Try.pinned (OpenSpec.ofChange wordsBesideWrong)

/-- 'hornbooklaw01.SignsTell': WHATEVER THE INPUT: true; the input reads as it did. -/
def signsTellSpec : ChangeSpec := { name := "signsTell", fn := fun _ => fun
  | [d1, d2, d3] => { results := [.lit (.bool true)], args := [d1, d2, d3] }
  | _ => none }
def signsTellRow : OpenClaim := { program := "ytcbmgdigidpbeaa", sum := "75318f58ea1127727fdc817583617867a061ef3db548763022234ef55e47dbeb", func := "hornbook/hornbooklaw01.SignsTell", spec := "signsTell", inPlace := ["internal/bytealg.IndexByteString"], apart := false }
def SignsTellSaid : Prop := signsTellRow.holds Try.pinned (OpenSpec.ofChange signsTellSpec)

/-- ITS FALSE NEIGHBOUR: 'it returns false'. Refute it at one input. -/
def signsTellWrong : ChangeSpec := { name := "signsTell", fn := fun _ => fun
  | [d1, d2, d3] => { results := [.lit (.bool false)], args := [d1, d2, d3] }
  | _ => none }
def SignsTellWrongFalsely : Prop := signsTellRow.holds Try.pinned (OpenSpec.ofChange signsTellWrong)

/- THE SECOND FORM. 'bulk': how many values and letters a reading holds, each counted each time it is reached (what is shared counts as often as it is met; a slice's spare places count too). A statement '..UptoSaid' is the law's where the arguments, and the package variables that the reading takes, are together of bulk at most 1048576: NARROWER than '..Said'. Prove '..Said' where nothing that the law and all that it calls make is longer than what came in: it says more and counts as full. Else prove '..UptoSaid'. A law counts once. -/
mutual
def uptoBulk {H : Type} : DataW H → Nat
  | .lit (.string bytes) => bytes.length + 1
  | .lit _ => 1
  | .nil => 1
  | .ptr d => uptoBulk d + 1
  | .slice elems spare => uptoBulkAll elems + uptoBulkAll spare + 1
  | .agg parts => uptoBulkAll parts + 1
  | .iface _ d => uptoBulk d + 1
  | .map entries => uptoBulkEntries entries + 1
  | .held _ => 1
def uptoBulkAll {H : Type} : List (DataW H) → Nat
  | [] => 0
  | d :: r => uptoBulk d + uptoBulkAll r
def uptoBulkEntries {H : Type} : List (Lit × DataW H) → Nat
  | [] => 0
  | x :: r => uptoBulkEntry x + uptoBulkEntries r
def uptoBulkEntry {H : Type} : Lit × DataW H → Nat
  | (.string bytes, d) => bytes.length + uptoBulk d + 1
  | (_, d) => uptoBulk d + 1
 end
def uptoSmall : (H : Type) → List (DataW H) → Bool := fun _ ds => decide (uptoBulkAll ds ≤ 1048576)
def OpenSpec.upto (s : _root_.Go.ChangeSpec) : _root_.Go.OpenSpec := { _root_.Go.OpenSpec.ofChange s with cond := some uptoSmall }

/-- 'hornbooklaw01.WordsFit', WHERE WHAT IT READS IS OF BULK AT MOST 1048576: true; the input reads as it did. -/
def wordsFitUptoRow : OpenClaim := { program := "ytcbmgdigidpbeaa", sum := "75318f58ea1127727fdc817583617867a061ef3db548763022234ef55e47dbeb", func := "hornbook/hornbooklaw01.WordsFit", spec := "wordsFit", inPlace := ["internal/bytealg.IndexByteString"], apart := false, narrowed := true }
def WordsFitUptoSaid : Prop := wordsFitUptoRow.holds Try.pinned (OpenSpec.upto wordsFitSpec)

/-- 'hornbooklaw01.PageWords', WHERE WHAT IT READS IS OF BULK AT MOST 1048576: true; the input reads as it did. -/
def pageWordsUptoRow : OpenClaim := { program := "ytcbmgdigidpbeaa", sum := "75318f58ea1127727fdc817583617867a061ef3db548763022234ef55e47dbeb", func := "hornbook/hornbooklaw01.PageWords", spec := "pageWords", inPlace := ["internal/bytealg.IndexByteString"], apart := false, narrowed := true }
def PageWordsUptoSaid : Prop := pageWordsUptoRow.holds Try.pinned (OpenSpec.upto pageWordsSpec)

/-- 'hornbooklaw01.PageMarks', WHERE WHAT IT READS IS OF BULK AT MOST 1048576: true; the input reads as it did. -/
def pageMarksUptoRow : OpenClaim := { program := "ytcbmgdigidpbeaa", sum := "75318f58ea1127727fdc817583617867a061ef3db548763022234ef55e47dbeb", func := "hornbook/hornbooklaw01.PageMarks", spec := "pageMarks", inPlace := ["internal/bytealg.IndexByteString"], apart := false, narrowed := true }
def PageMarksUptoSaid : Prop := pageMarksUptoRow.holds Try.pinned (OpenSpec.upto pageMarksSpec)

/-- 'hornbooklaw01.WordsBeside', WHERE WHAT IT READS IS OF BULK AT MOST 1048576: true; the input reads as it did. -/
def wordsBesideUptoRow : OpenClaim := { program := "ytcbmgdigidpbeaa", sum := "75318f58ea1127727fdc817583617867a061ef3db548763022234ef55e47dbeb", func := "hornbook/hornbooklaw01.WordsBeside", spec := "wordsBeside", inPlace := ["internal/bytealg.IndexByteString"], apart := false, narrowed := true }
def WordsBesideUptoSaid : Prop := wordsBesideUptoRow.holds Try.pinned (OpenSpec.upto wordsBesideSpec)

/-- 'hornbooklaw01.SignsTell', WHERE WHAT IT READS IS OF BULK AT MOST 1048576: true; the input reads as it did. -/
def signsTellUptoRow : OpenClaim := { program := "ytcbmgdigidpbeaa", sum := "75318f58ea1127727fdc817583617867a061ef3db548763022234ef55e47dbeb", func := "hornbook/hornbooklaw01.SignsTell", spec := "signsTell", inPlace := ["internal/bytealg.IndexByteString"], apart := false, narrowed := true }
def SignsTellUptoSaid : Prop := signsTellUptoRow.holds Try.pinned (OpenSpec.upto signsTellSpec)

end Rows
end Go.Proofs.Ytcbmgdigidpbeaa
