/-
  NARROWER THAN 'FOR EVERY INPUT', by the rows' own cells (each row's printed sentence says how): MessEncodes: laid · MessDecodes: laid · MessMatrices: laid · MessBack: laid · MessUnlike: laid.
  DERIVED. THE GIVEN ROWS OF THIS SEAT. 5 by the template 'for every input the law returns true; each argument reads behind the call as it read before'; 0 by the template 'total and deterministic' (their statements: YtchmiiclogmheaaDoorTotals.lean).
  GIVEN WITH THE SEED: the statements are not yours to turn. If you find one false, say at which input.
  Laid BY PROGRAM, IN A SANDBOX (cutbox-rows.mjs): the forced cells as the released guide's own fill.sh prints them over the translation e496a37ae89d9708… (all of the seat's roots in one cut). By AI agents, Wed Nov 11 2026. No macro, syntax, notation, axiom, sorry.
-/
import Derived.Test.YtchmiiclogmheaaDoorChecked
import GoSem.Claim
import GoSem.ClaimJoined
import GoSem.ClaimMapViews
import Derived.JoinedTies
import Derived.KernelRfl
namespace Go.Proofs.YtchmiiclogmheaaDoor
/- THE CELL 'sum', in the pinned program and in every row, IS THE sha256 OF THE DUMP (.gsa) THAT YtchmiiclogmheaaDoorProg.lean LOADS. Nothing in Lean hashes anything: it is a label: what it is worth is what the hold of that sum in a sandbox is worth. -/
noncomputable def Tryd.pinned : Pinned := { name := "ytchmiiclogmheaadoor", sum := "e496a37ae89d97081e2dfbf1e3de1df2a7d38b46686edb8e0be1c73c1be36c61", checked := Tryd.checked }
namespace Rows
def none {H : Type} : Left H := { results := [], args := [] }

/- WHAT THE LISTED PACKAGE-LEVEL VARIABLES READ AS WHEN THE CALL BEGINS. Each datum BY PROGRAM (the guide's laid-datum.mjs) off the statement by which the dump's own 'gosem.cut.vars' lays the variable. In a bare row this is a premise. The card (YtchmiiclogmheaaDoorCards.lean) ties it to the program's text. -/
def laid_flyover_mess_fieldsOf {H : Type} : DataW H := .agg [.nil, .slice [.lit (.int .i64 0), .lit (.int .i64 1), .lit (.int .i64 2), .lit (.int .i64 7), .lit (.int .i64 8)] [], .slice [.lit (.int .i64 0), .lit (.int .i64 1), .lit (.int .i64 2), .lit (.int .i64 9)] [], .slice [.lit (.int .i64 3), .lit (.int .i64 0), .lit (.int .i64 4), .lit (.int .i64 5), .lit (.int .i64 6), .lit (.int .i64 7)] [], .slice [.lit (.int .i64 3), .lit (.int .i64 0), .lit (.int .i64 6), .lit (.int .i64 9)] []]

/-- 'flyoverlaw20.MessEncodes': WHATEVER THE INPUT: true; the input reads as it did. -/
def messEncodesSpec : ChangeSpec := { name := "messEncodes", fn := fun _ => fun
  | [d] => { results := [.lit (.bool true)], args := [d] }
  | _ => none }
def messEncodesRow : OpenClaim := { program := "ytchmiiclogmheaadoor", sum := "e496a37ae89d97081e2dfbf1e3de1df2a7d38b46686edb8e0be1c73c1be36c61", func := "flyover/flyoverlaw20.MessEncodes", spec := "messEncodes", unfollowed := true, recurses := true, named := ["flyover/mess.fieldsOf"], apart := false, laid := [("flyover/mess.fieldsOf", laid_flyover_mess_fieldsOf)] }
def MessEncodesSaid : Prop := messEncodesRow.holds Tryd.pinned (OpenSpec.ofChange messEncodesSpec)

/-- ITS FALSE NEIGHBOUR: 'it returns false'. Refute it at one input. -/
def messEncodesWrong : ChangeSpec := { name := "messEncodes", fn := fun _ => fun
  | [d] => { results := [.lit (.bool false)], args := [d] }
  | _ => none }
def MessEncodesWrongFalsely : Prop := messEncodesRow.holds Tryd.pinned (OpenSpec.ofChange messEncodesWrong)

/-- 'flyoverlaw20.MessDecodes': WHATEVER THE INPUT: true; the input reads as it did. -/
def messDecodesSpec : ChangeSpec := { name := "messDecodes", fn := fun _ => fun
  | [d] => { results := [.lit (.bool true)], args := [d] }
  | _ => none }
def messDecodesRow : OpenClaim := { program := "ytchmiiclogmheaadoor", sum := "e496a37ae89d97081e2dfbf1e3de1df2a7d38b46686edb8e0be1c73c1be36c61", func := "flyover/flyoverlaw20.MessDecodes", spec := "messDecodes", unfollowed := true, recurses := true, named := ["flyover/mess.fieldsOf"], apart := false, laid := [("flyover/mess.fieldsOf", laid_flyover_mess_fieldsOf)] }
def MessDecodesSaid : Prop := messDecodesRow.holds Tryd.pinned (OpenSpec.ofChange messDecodesSpec)

/-- ITS FALSE NEIGHBOUR: 'it returns false'. Refute it at one input. -/
def messDecodesWrong : ChangeSpec := { name := "messDecodes", fn := fun _ => fun
  | [d] => { results := [.lit (.bool false)], args := [d] }
  | _ => none }
def MessDecodesWrongFalsely : Prop := messDecodesRow.holds Tryd.pinned (OpenSpec.ofChange messDecodesWrong)

/-- 'flyoverlaw20.MessMatrices': WHATEVER THE INPUT: true; the input reads as it did. -/
def messMatricesSpec : ChangeSpec := { name := "messMatrices", fn := fun _ => fun
  | [d1, d2] => { results := [.lit (.bool true)], args := [d1, d2] }
  | _ => none }
def messMatricesRow : OpenClaim := { program := "ytchmiiclogmheaadoor", sum := "e496a37ae89d97081e2dfbf1e3de1df2a7d38b46686edb8e0be1c73c1be36c61", func := "flyover/flyoverlaw20.MessMatrices", spec := "messMatrices", unfollowed := true, recurses := true, named := ["flyover/mess.fieldsOf"], apart := false, laid := [("flyover/mess.fieldsOf", laid_flyover_mess_fieldsOf)] }
def MessMatricesSaid : Prop := messMatricesRow.holds Tryd.pinned (OpenSpec.ofChange messMatricesSpec)

/-- ITS FALSE NEIGHBOUR: 'it returns false'. Refute it at one input. -/
def messMatricesWrong : ChangeSpec := { name := "messMatrices", fn := fun _ => fun
  | [d1, d2] => { results := [.lit (.bool false)], args := [d1, d2] }
  | _ => none }
def MessMatricesWrongFalsely : Prop := messMatricesRow.holds Tryd.pinned (OpenSpec.ofChange messMatricesWrong)

/-- 'flyoverlaw20.MessBack': WHATEVER THE INPUT: true; the input reads as it did. -/
def messBackSpec : ChangeSpec := { name := "messBack", fn := fun _ => fun
  | [d1, d2] => { results := [.lit (.bool true)], args := [d1, d2] }
  | _ => none }
def messBackRow : OpenClaim := { program := "ytchmiiclogmheaadoor", sum := "e496a37ae89d97081e2dfbf1e3de1df2a7d38b46686edb8e0be1c73c1be36c61", func := "flyover/flyoverlaw20.MessBack", spec := "messBack", unfollowed := true, recurses := true, named := ["flyover/mess.fieldsOf"], apart := false, laid := [("flyover/mess.fieldsOf", laid_flyover_mess_fieldsOf)] }
def MessBackSaid : Prop := messBackRow.holds Tryd.pinned (OpenSpec.ofChange messBackSpec)

/-- ITS FALSE NEIGHBOUR: 'it returns false'. Refute it at one input. -/
def messBackWrong : ChangeSpec := { name := "messBack", fn := fun _ => fun
  | [d1, d2] => { results := [.lit (.bool false)], args := [d1, d2] }
  | _ => none }
def MessBackWrongFalsely : Prop := messBackRow.holds Tryd.pinned (OpenSpec.ofChange messBackWrong)

/-- 'flyoverlaw20.MessUnlike': WHATEVER THE INPUT: true; the input reads as it did. -/
def messUnlikeSpec : ChangeSpec := { name := "messUnlike", fn := fun _ => fun
  | [d1, d2] => { results := [.lit (.bool true)], args := [d1, d2] }
  | _ => none }
def messUnlikeRow : OpenClaim := { program := "ytchmiiclogmheaadoor", sum := "e496a37ae89d97081e2dfbf1e3de1df2a7d38b46686edb8e0be1c73c1be36c61", func := "flyover/flyoverlaw20.MessUnlike", spec := "messUnlike", unfollowed := true, recurses := true, named := ["flyover/mess.fieldsOf"], apart := false, laid := [("flyover/mess.fieldsOf", laid_flyover_mess_fieldsOf)] }
def MessUnlikeSaid : Prop := messUnlikeRow.holds Tryd.pinned (OpenSpec.ofChange messUnlikeSpec)

/-- ITS FALSE NEIGHBOUR: 'it returns false'. Refute it at one input. -/
def messUnlikeWrong : ChangeSpec := { name := "messUnlike", fn := fun _ => fun
  | [d1, d2] => { results := [.lit (.bool false)], args := [d1, d2] }
  | _ => none }
def MessUnlikeWrongFalsely : Prop := messUnlikeRow.holds Tryd.pinned (OpenSpec.ofChange messUnlikeWrong)

/- THE SECOND FORM. 'bulk': how many values and letters a reading holds, each counted each time it is reached (what is shared counts as often as it is met; a slice's spare places count too). A statement '..UptoSaid' is the law's where the arguments, and the package variables that the reading takes, are together of bulk at most 1048576: NARROWER than '..Said'. Prove '..Said' where nothing that the law and all that it calls make is longer than what came in: it says more and counts as full. Else prove '..UptoSaid'. A law counts once. -/
mutual
def uptoBulk {H : Type} : DataW H → Nat
  | .lit (.string bytes) => bytes.length + 1
  | .lit _ => 1
  | .nil => 1
  | .ptr d => uptoBulk d + 1
  | .slice elems spare => uptoBulkAll elems + uptoBulkAll spare + 1
  | .agg parts => uptoBulkAll parts + 1
  | .iface _ d => uptoBulk d + 1
  | .map entries => uptoBulkEntries entries + 1
  | .held _ => 1
def uptoBulkAll {H : Type} : List (DataW H) → Nat
  | [] => 0
  | d :: r => uptoBulk d + uptoBulkAll r
def uptoBulkEntries {H : Type} : List (Lit × DataW H) → Nat
  | [] => 0
  | x :: r => uptoBulkEntry x + uptoBulkEntries r
def uptoBulkEntry {H : Type} : Lit × DataW H → Nat
  | (.string bytes, d) => bytes.length + uptoBulk d + 1
  | (_, d) => uptoBulk d + 1
 end
def uptoSmall : (H : Type) → List (DataW H) → Bool := fun _ ds => decide (uptoBulkAll ds ≤ 1048576)
def OpenSpec.upto (s : _root_.Go.ChangeSpec) : _root_.Go.OpenSpec := { _root_.Go.OpenSpec.ofChange s with cond := some uptoSmall }

/-- 'flyoverlaw20.MessEncodes', WHERE WHAT IT READS IS OF BULK AT MOST 1048576: true; the input reads as it did. -/
def messEncodesUptoRow : OpenClaim := { program := "ytchmiiclogmheaadoor", sum := "e496a37ae89d97081e2dfbf1e3de1df2a7d38b46686edb8e0be1c73c1be36c61", func := "flyover/flyoverlaw20.MessEncodes", spec := "messEncodes", unfollowed := true, recurses := true, named := ["flyover/mess.fieldsOf"], apart := false, laid := [("flyover/mess.fieldsOf", laid_flyover_mess_fieldsOf)], narrowed := true }
def MessEncodesUptoSaid : Prop := messEncodesUptoRow.holds Tryd.pinned (OpenSpec.upto messEncodesSpec)

/-- 'flyoverlaw20.MessDecodes', WHERE WHAT IT READS IS OF BULK AT MOST 1048576: true; the input reads as it did. -/
def messDecodesUptoRow : OpenClaim := { program := "ytchmiiclogmheaadoor", sum := "e496a37ae89d97081e2dfbf1e3de1df2a7d38b46686edb8e0be1c73c1be36c61", func := "flyover/flyoverlaw20.MessDecodes", spec := "messDecodes", unfollowed := true, recurses := true, named := ["flyover/mess.fieldsOf"], apart := false, laid := [("flyover/mess.fieldsOf", laid_flyover_mess_fieldsOf)], narrowed := true }
def MessDecodesUptoSaid : Prop := messDecodesUptoRow.holds Tryd.pinned (OpenSpec.upto messDecodesSpec)

/-- 'flyoverlaw20.MessMatrices', WHERE WHAT IT READS IS OF BULK AT MOST 1048576: true; the input reads as it did. -/
def messMatricesUptoRow : OpenClaim := { program := "ytchmiiclogmheaadoor", sum := "e496a37ae89d97081e2dfbf1e3de1df2a7d38b46686edb8e0be1c73c1be36c61", func := "flyover/flyoverlaw20.MessMatrices", spec := "messMatrices", unfollowed := true, recurses := true, named := ["flyover/mess.fieldsOf"], apart := false, laid := [("flyover/mess.fieldsOf", laid_flyover_mess_fieldsOf)], narrowed := true }
def MessMatricesUptoSaid : Prop := messMatricesUptoRow.holds Tryd.pinned (OpenSpec.upto messMatricesSpec)

/-- 'flyoverlaw20.MessBack', WHERE WHAT IT READS IS OF BULK AT MOST 1048576: true; the input reads as it did. -/
def messBackUptoRow : OpenClaim := { program := "ytchmiiclogmheaadoor", sum := "e496a37ae89d97081e2dfbf1e3de1df2a7d38b46686edb8e0be1c73c1be36c61", func := "flyover/flyoverlaw20.MessBack", spec := "messBack", unfollowed := true, recurses := true, named := ["flyover/mess.fieldsOf"], apart := false, laid := [("flyover/mess.fieldsOf", laid_flyover_mess_fieldsOf)], narrowed := true }
def MessBackUptoSaid : Prop := messBackUptoRow.holds Tryd.pinned (OpenSpec.upto messBackSpec)

/-- 'flyoverlaw20.MessUnlike', WHERE WHAT IT READS IS OF BULK AT MOST 1048576: true; the input reads as it did. -/
def messUnlikeUptoRow : OpenClaim := { program := "ytchmiiclogmheaadoor", sum := "e496a37ae89d97081e2dfbf1e3de1df2a7d38b46686edb8e0be1c73c1be36c61", func := "flyover/flyoverlaw20.MessUnlike", spec := "messUnlike", unfollowed := true, recurses := true, named := ["flyover/mess.fieldsOf"], apart := false, laid := [("flyover/mess.fieldsOf", laid_flyover_mess_fieldsOf)], narrowed := true }
def MessUnlikeUptoSaid : Prop := messUnlikeUptoRow.holds Tryd.pinned (OpenSpec.upto messUnlikeSpec)

end Rows
end Go.Proofs.YtchmiiclogmheaaDoor
