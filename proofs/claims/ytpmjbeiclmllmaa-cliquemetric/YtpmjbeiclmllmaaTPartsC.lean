/-
  Contract of graph.Parts.
-/
import Derived.Test.YtpmjbeiclmllmaaTParts
namespace Go.Proofs.Ytpmjbeiclmllmaa.T3
open Go.RowKit
/-- The labels that Parts tells. -/
def partsL (N : Int) (l : List A) : List Int := if chkE N l = 0 then ints (labs (lead l) N.toNat) else []
end Go.Proofs.Ytpmjbeiclmllmaa.T3
