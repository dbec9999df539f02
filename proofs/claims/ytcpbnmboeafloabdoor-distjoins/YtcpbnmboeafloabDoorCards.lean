/-
  DERIVED. GIVEN WITH THE SEED: THE CARDS: each row of YtcpbnmboeafloabDoorRows.lean that lists a variable, with what it lists TIED to the program's text (the seventh form; the later family's looks); each row that meets fmt, with fmt's text TOLD by the authors' own Lean function (tested against real Go, not proved from fmt's source: count such statements apart). THE CARD IS WHAT COUNTS. Prove the row's statement (the work); the ties are given (YtcpbnmboeafloabDoorTie.lean); close each card by the builder's one call (the guide's Derived/Test/ToyasCard.lean, 'card_holds'). Laid BY PROGRAM, IN A SANDBOX (cutbox-door.mjs). By AI agents, Wed Nov 11 2026. No macro, syntax, notation, axiom, sorry.
-/
import Derived.Test.YtcpbnmboeafloabDoorRows
import GoSem.ClaimSeven
namespace Go.Proofs.YtcpbnmboeafloabDoor
namespace Rows

/-- THE TIED CARD OF 'flyoverlaw01.DistJoins'. -/
def distJoinsCard : Claim7 := { stood := { row := distJoinsRow, standIns := [], harness := (true, "32b89a7eb13ec52ce7e6e76a40367fd3b2b240411120d32e3fdddc00666a064b"), looks := true }, kinds := [], alts := [], laidByText := true, laidKinds := [.data, .data, .data, .sentinel, .sentinel], laidTests := true, laidLooks := .later }
def DistJoinsCardSaid : Prop := Claim7.holds Tryd.pinned (.plain (OpenSpec.ofChange distJoinsSpec)) distJoinsCard

/-- THE SECOND FORM's CARD OF 'flyoverlaw01.DistJoins'. -/
def distJoinsUptoCard : Claim7 := { stood := { row := distJoinsUptoRow, standIns := [], harness := (true, "32b89a7eb13ec52ce7e6e76a40367fd3b2b240411120d32e3fdddc00666a064b"), looks := true }, kinds := [], alts := [], laidByText := true, laidKinds := [.data, .data, .data, .sentinel, .sentinel], laidTests := true, laidLooks := .later }
def DistJoinsUptoCardSaid : Prop := Claim7.holds Tryd.pinned (.plain (OpenSpec.upto distJoinsSpec)) distJoinsUptoCard
end Rows
end Go.Proofs.YtcpbnmboeafloabDoor
