/-
  Contract of graph.Parts.
-/
import Derived.Test.YtpmjbeiclmllmaaGreatTParts
namespace Go.Proofs.YtpmjbeiclmllmaaGreat.T3
open Go.RowKit
/-- The labels that Parts tells. -/
def partsL (N : Int) (l : List A) : List Int := if chkE N l = 0 then ints (labs (lead l) N.toNat) else []
end Go.Proofs.YtpmjbeiclmllmaaGreat.T3
