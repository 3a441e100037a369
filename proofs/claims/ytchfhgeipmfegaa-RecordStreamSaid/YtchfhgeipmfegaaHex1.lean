
import Derived.Test.YtchfhgeipmfegaaRef2
namespace Go.Proofs.Ytchfhgeipmfegaa
open Go.RowKit

/-- The four bits of a sign; 16: it is none. -/
def four (c : Int) : Int := if 48 ≤ c ∧ c ≤ 57 then c - 48 else if 97 ≤ c ∧ c ≤ 102 then c - 87 else 16
/-- The sign of four bits. -/
def sign (x : Int) : Int := if x ≤ 9 then x + 48 else x + 87

end Go.Proofs.Ytchfhgeipmfegaa
