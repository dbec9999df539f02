/-
  DERIVED. GIVEN WITH THE SEED: THE CARDS: each row of YtchmiiclogmheaaDoorRows.lean that lists a variable, with what it lists TIED to the program's text (the seventh form; the later family's looks); each row that meets fmt, with fmt's text TOLD by the authors' own Lean function (tested against real Go, not proved from fmt's source: count such statements apart). THE CARD IS WHAT COUNTS. Prove the row's statement (the work); the ties are given (YtchmiiclogmheaaDoorTie.lean); close each card by the builder's one call (the guide's Derived/Test/ToyasCard.lean, 'card_holds'). Laid BY PROGRAM, IN A SANDBOX (cutbox-door.mjs). By AI agents, Wed Nov 11 2026. No macro, syntax, notation, axiom, sorry.
-/
import Derived.Test.YtchmiiclogmheaaDoorRows
import GoSem.ClaimSeven
namespace Go.Proofs.YtchmiiclogmheaaDoor
namespace Rows

/-- THE TIED CARD OF 'flyoverlaw20.MessEncodes'. -/
def messEncodesCard : Claim7 := { stood := { row := messEncodesRow, standIns := [], harness := (true, "00a800f57e84f03495cd595d3d37246ee1c63c100f8139a13e06f307bb0898a3"), looks := false }, kinds := [], alts := [], laidByText := true, laidKinds := [.widerDeep], laidTests := true, laidLooks := .later }
def MessEncodesCardSaid : Prop := Claim7.holds Tryd.pinned (.plain (OpenSpec.ofChange messEncodesSpec)) messEncodesCard

/-- THE TIED CARD OF 'flyoverlaw20.MessDecodes'. -/
def messDecodesCard : Claim7 := { stood := { row := messDecodesRow, standIns := [], harness := (true, "00a800f57e84f03495cd595d3d37246ee1c63c100f8139a13e06f307bb0898a3"), looks := false }, kinds := [], alts := [], laidByText := true, laidKinds := [.widerDeep], laidTests := true, laidLooks := .later }
def MessDecodesCardSaid : Prop := Claim7.holds Tryd.pinned (.plain (OpenSpec.ofChange messDecodesSpec)) messDecodesCard

/-- THE TIED CARD OF 'flyoverlaw20.MessMatrices'. -/
def messMatricesCard : Claim7 := { stood := { row := messMatricesRow, standIns := [], harness := (true, "00a800f57e84f03495cd595d3d37246ee1c63c100f8139a13e06f307bb0898a3"), looks := false }, kinds := [], alts := [], laidByText := true, laidKinds := [.widerDeep], laidTests := true, laidLooks := .later }
def MessMatricesCardSaid : Prop := Claim7.holds Tryd.pinned (.plain (OpenSpec.ofChange messMatricesSpec)) messMatricesCard

/-- THE TIED CARD OF 'flyoverlaw20.MessBack'. -/
def messBackCard : Claim7 := { stood := { row := messBackRow, standIns := [], harness := (true, "00a800f57e84f03495cd595d3d37246ee1c63c100f8139a13e06f307bb0898a3"), looks := false }, kinds := [], alts := [], laidByText := true, laidKinds := [.widerDeep], laidTests := true, laidLooks := .later }
def MessBackCardSaid : Prop := Claim7.holds Tryd.pinned (.plain (OpenSpec.ofChange messBackSpec)) messBackCard

/-- THE TIED CARD OF 'flyoverlaw20.MessUnlike'. -/
def messUnlikeCard : Claim7 := { stood := { row := messUnlikeRow, standIns := [], harness := (true, "00a800f57e84f03495cd595d3d37246ee1c63c100f8139a13e06f307bb0898a3"), looks := false }, kinds := [], alts := [], laidByText := true, laidKinds := [.widerDeep], laidTests := true, laidLooks := .later }
def MessUnlikeCardSaid : Prop := Claim7.holds Tryd.pinned (.plain (OpenSpec.ofChange messUnlikeSpec)) messUnlikeCard

/-- THE SECOND FORM's CARD OF 'flyoverlaw20.MessEncodes'. -/
def messEncodesUptoCard : Claim7 := { stood := { row := messEncodesUptoRow, standIns := [], harness := (true, "00a800f57e84f03495cd595d3d37246ee1c63c100f8139a13e06f307bb0898a3"), looks := false }, kinds := [], alts := [], laidByText := true, laidKinds := [.widerDeep], laidTests := true, laidLooks := .later }
def MessEncodesUptoCardSaid : Prop := Claim7.holds Tryd.pinned (.plain (OpenSpec.upto messEncodesSpec)) messEncodesUptoCard

/-- THE SECOND FORM's CARD OF 'flyoverlaw20.MessDecodes'. -/
def messDecodesUptoCard : Claim7 := { stood := { row := messDecodesUptoRow, standIns := [], harness := (true, "00a800f57e84f03495cd595d3d37246ee1c63c100f8139a13e06f307bb0898a3"), looks := false }, kinds := [], alts := [], laidByText := true, laidKinds := [.widerDeep], laidTests := true, laidLooks := .later }
def MessDecodesUptoCardSaid : Prop := Claim7.holds Tryd.pinned (.plain (OpenSpec.upto messDecodesSpec)) messDecodesUptoCard

/-- THE SECOND FORM's CARD OF 'flyoverlaw20.MessMatrices'. -/
def messMatricesUptoCard : Claim7 := { stood := { row := messMatricesUptoRow, standIns := [], harness := (true, "00a800f57e84f03495cd595d3d37246ee1c63c100f8139a13e06f307bb0898a3"), looks := false }, kinds := [], alts := [], laidByText := true, laidKinds := [.widerDeep], laidTests := true, laidLooks := .later }
def MessMatricesUptoCardSaid : Prop := Claim7.holds Tryd.pinned (.plain (OpenSpec.upto messMatricesSpec)) messMatricesUptoCard

/-- THE SECOND FORM's CARD OF 'flyoverlaw20.MessBack'. -/
def messBackUptoCard : Claim7 := { stood := { row := messBackUptoRow, standIns := [], harness := (true, "00a800f57e84f03495cd595d3d37246ee1c63c100f8139a13e06f307bb0898a3"), looks := false }, kinds := [], alts := [], laidByText := true, laidKinds := [.widerDeep], laidTests := true, laidLooks := .later }
def MessBackUptoCardSaid : Prop := Claim7.holds Tryd.pinned (.plain (OpenSpec.upto messBackSpec)) messBackUptoCard

/-- THE SECOND FORM's CARD OF 'flyoverlaw20.MessUnlike'. -/
def messUnlikeUptoCard : Claim7 := { stood := { row := messUnlikeUptoRow, standIns := [], harness := (true, "00a800f57e84f03495cd595d3d37246ee1c63c100f8139a13e06f307bb0898a3"), looks := false }, kinds := [], alts := [], laidByText := true, laidKinds := [.widerDeep], laidTests := true, laidLooks := .later }
def MessUnlikeUptoCardSaid : Prop := Claim7.holds Tryd.pinned (.plain (OpenSpec.upto messUnlikeSpec)) messUnlikeUptoCard
end Rows
end Go.Proofs.YtchmiiclogmheaaDoor
