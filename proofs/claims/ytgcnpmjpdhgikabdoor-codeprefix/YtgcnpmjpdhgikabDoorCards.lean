/-
  DERIVED. GIVEN WITH THE SEED: THE CARDS: each row of YtgcnpmjpdhgikabDoorRows.lean that lists a variable, with what it lists TIED to the program's text (the seventh form; the later family's looks); each row that meets fmt, with fmt's text TOLD by the authors' own Lean function (tested against real Go, not proved from fmt's source: count such statements apart). THE CARD IS WHAT COUNTS. Prove the row's statement (the work); the ties are given (YtgcnpmjpdhgikabDoorTie.lean); close each card by the builder's one call (the guide's Derived/Test/ToyasCard.lean, 'card_holds'). Laid BY PROGRAM, IN A SANDBOX (cutbox-door.mjs). By AI agents, Wed Nov 11 2026. No macro, syntax, notation, axiom, sorry.
-/
import Derived.Test.YtgcnpmjpdhgikabDoorRows
import GoSem.ClaimSeven
namespace Go.Proofs.YtgcnpmjpdhgikabDoor
namespace Rows

/-- THE TIED CARD OF 'flyoverlaw02.CodePrefix'. -/
def codePrefixCard : Claim7 := { stood := { row := codePrefixRow, standIns := [], harness := (true, "06f5acffa75993a7a708941fe3734b115a07026c1f3b28ca387b881056a167d6"), looks := false }, kinds := [], alts := [], laidByText := true, laidKinds := [.data], laidTests := true, laidLooks := .later }
def CodePrefixCardSaid : Prop := Claim7.holds Tryd.pinned (.plain (OpenSpec.ofChange codePrefixSpec)) codePrefixCard

/-- THE TIED CARD OF 'flyoverlaw02.CodeSums'. -/
def codeSumsCard : Claim7 := { stood := { row := codeSumsRow, standIns := [], harness := (true, "06f5acffa75993a7a708941fe3734b115a07026c1f3b28ca387b881056a167d6"), looks := false }, kinds := [], alts := [], laidByText := true, laidKinds := [.data], laidTests := true, laidLooks := .later }
def CodeSumsCardSaid : Prop := Claim7.holds Tryd.pinned (.plain (OpenSpec.ofChange codeSumsSpec)) codeSumsCard

/-- THE SECOND FORM's CARD OF 'flyoverlaw02.CodePrefix'. -/
def codePrefixUptoCard : Claim7 := { stood := { row := codePrefixUptoRow, standIns := [], harness := (true, "06f5acffa75993a7a708941fe3734b115a07026c1f3b28ca387b881056a167d6"), looks := false }, kinds := [], alts := [], laidByText := true, laidKinds := [.data], laidTests := true, laidLooks := .later }
def CodePrefixUptoCardSaid : Prop := Claim7.holds Tryd.pinned (.plain (OpenSpec.upto codePrefixSpec)) codePrefixUptoCard

/-- THE SECOND FORM's CARD OF 'flyoverlaw02.CodeSums'. -/
def codeSumsUptoCard : Claim7 := { stood := { row := codeSumsUptoRow, standIns := [], harness := (true, "06f5acffa75993a7a708941fe3734b115a07026c1f3b28ca387b881056a167d6"), looks := false }, kinds := [], alts := [], laidByText := true, laidKinds := [.data], laidTests := true, laidLooks := .later }
def CodeSumsUptoCardSaid : Prop := Claim7.holds Tryd.pinned (.plain (OpenSpec.upto codeSumsSpec)) codeSumsUptoCard
end Rows
end Go.Proofs.YtgcnpmjpdhgikabDoor
