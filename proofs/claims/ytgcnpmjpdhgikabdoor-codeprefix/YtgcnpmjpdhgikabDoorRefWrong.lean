/-
  Contracts of the reference's number and wrong: what the code's appendNumber and check answer.
-/
import Derived.Test.YtgcnpmjpdhgikabDoorAppend
namespace Go.Proofs.YtgcnpmjpdhgikabDoor
open Go.RowKit
end Go.Proofs.YtgcnpmjpdhgikabDoor
