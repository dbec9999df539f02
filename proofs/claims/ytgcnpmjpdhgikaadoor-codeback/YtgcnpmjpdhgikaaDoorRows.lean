/-
  NARROWER THAN 'FOR EVERY INPUT', by the rows' own cells (each row's printed sentence says how): CodeEncodes: loops, laid · CodeDecodes: laid · CodeFrames: laid · CodeBack: loops, laid · CodeFramed: laid · CodeTorn: laid.
  DERIVED. THE GIVEN ROWS OF THIS SEAT. 6 by the template 'for every input the law returns true; each argument reads behind the call as it read before'; 0 by the template 'total and deterministic' (their statements: YtgcnpmjpdhgikaaDoorTotals.lean).
  GIVEN WITH THE SEED: the statements are not yours to turn. If you find one false, say at which input.
  Laid BY PROGRAM, IN A SANDBOX (cutbox-rows.mjs): the forced cells as the released guide's own fill.sh prints them over the translation ec979ae53deaed1d… (all of the seat's roots in one cut). By AI agents, Wed Nov 11 2026. No macro, syntax, notation, axiom, sorry.
-/
import Derived.Test.YtgcnpmjpdhgikaaDoorChecked
import GoSem.Claim
import GoSem.ClaimJoined
import GoSem.ClaimMapViews
import Derived.JoinedTies
import Derived.KernelRfl
namespace Go.Proofs.YtgcnpmjpdhgikaaDoor
/- THE CELL 'sum', in the pinned program and in every row, IS THE sha256 OF THE DUMP (.gsa) THAT YtgcnpmjpdhgikaaDoorProg.lean LOADS. Nothing in Lean hashes anything: it is a label: what it is worth is what the hold of that sum in a sandbox is worth. -/
noncomputable def Tryd.pinned : Pinned := { name := "ytgcnpmjpdhgikaadoor", sum := "ec979ae53deaed1db0dfc2b328608f31575757ed971e6585f442aa9e7dee1804", checked := Tryd.checked }
namespace Rows
def none {H : Type} : Left H := { results := [], args := [] }

/- WHAT THE LISTED PACKAGE-LEVEL VARIABLES READ AS WHEN THE CALL BEGINS. Each datum BY PROGRAM (the guide's laid-datum.mjs) off the statement by which the dump's own 'gosem.cut.vars' lays the variable. In a bare row this is a premise. The card (YtgcnpmjpdhgikaaDoorCards.lean) ties it to the program's text. -/
def laid_flyover_code_halves {H : Type} : DataW H := .agg [.lit (.int .u32 0), .lit (.int .u32 498536548), .lit (.int .u32 997073096), .lit (.int .u32 651767980), .lit (.int .u32 1994146192), .lit (.int .u32 1802195444), .lit (.int .u32 1303535960), .lit (.int .u32 1342533948), .lit (.int .u32 3988292384), .lit (.int .u32 4027552580), .lit (.int .u32 3604390888), .lit (.int .u32 3412177804), .lit (.int .u32 2607071920), .lit (.int .u32 2262029012), .lit (.int .u32 2685067896), .lit (.int .u32 3183342108)]

/-- 'flyoverlaw02.CodeEncodes': WHATEVER THE INPUT: true; the input reads as it did. -/
def codeEncodesSpec : ChangeSpec := { name := "codeEncodes", fn := fun _ => fun
  | [d] => { results := [.lit (.bool true)], args := [d] }
  | _ => none }
def codeEncodesRow : OpenClaim := { program := "ytgcnpmjpdhgikaadoor", sum := "ec979ae53deaed1db0dfc2b328608f31575757ed971e6585f442aa9e7dee1804", func := "flyover/flyoverlaw02.CodeEncodes", spec := "codeEncodes", recurses := true, named := ["flyover/code.halves"], loops := true, apart := false, laid := [("flyover/code.halves", laid_flyover_code_halves)] }
def CodeEncodesSaid : Prop := codeEncodesRow.holds Tryd.pinned (OpenSpec.ofChange codeEncodesSpec)

/-- ITS FALSE NEIGHBOUR: 'it returns false'. Refute it at one input. -/
def codeEncodesWrong : ChangeSpec := { name := "codeEncodes", fn := fun _ => fun
  | [d] => { results := [.lit (.bool false)], args := [d] }
  | _ => none }
def CodeEncodesWrongFalsely : Prop := codeEncodesRow.holds Tryd.pinned (OpenSpec.ofChange codeEncodesWrong)

/-- 'flyoverlaw02.CodeDecodes': WHATEVER THE INPUT: true; the input reads as it did. -/
def codeDecodesSpec : ChangeSpec := { name := "codeDecodes", fn := fun _ => fun
  | [d] => { results := [.lit (.bool true)], args := [d] }
  | _ => none }
def codeDecodesRow : OpenClaim := { program := "ytgcnpmjpdhgikaadoor", sum := "ec979ae53deaed1db0dfc2b328608f31575757ed971e6585f442aa9e7dee1804", func := "flyover/flyoverlaw02.CodeDecodes", spec := "codeDecodes", recurses := true, named := ["flyover/code.halves"], apart := false, laid := [("flyover/code.halves", laid_flyover_code_halves)] }
def CodeDecodesSaid : Prop := codeDecodesRow.holds Tryd.pinned (OpenSpec.ofChange codeDecodesSpec)

/-- ITS FALSE NEIGHBOUR: 'it returns false'. Refute it at one input. -/
def codeDecodesWrong : ChangeSpec := { name := "codeDecodes", fn := fun _ => fun
  | [d] => { results := [.lit (.bool false)], args := [d] }
  | _ => none }
def CodeDecodesWrongFalsely : Prop := codeDecodesRow.holds Tryd.pinned (OpenSpec.ofChange codeDecodesWrong)

/-- 'flyoverlaw02.CodeFrames': WHATEVER THE INPUT: true; the input reads as it did. -/
def codeFramesSpec : ChangeSpec := { name := "codeFrames", fn := fun _ => fun
  | [d1, d2] => { results := [.lit (.bool true)], args := [d1, d2] }
  | _ => none }
def codeFramesRow : OpenClaim := { program := "ytgcnpmjpdhgikaadoor", sum := "ec979ae53deaed1db0dfc2b328608f31575757ed971e6585f442aa9e7dee1804", func := "flyover/flyoverlaw02.CodeFrames", spec := "codeFrames", recurses := true, named := ["flyover/code.halves"], apart := false, laid := [("flyover/code.halves", laid_flyover_code_halves)] }
def CodeFramesSaid : Prop := codeFramesRow.holds Tryd.pinned (OpenSpec.ofChange codeFramesSpec)

/-- ITS FALSE NEIGHBOUR: 'it returns false'. Refute it at one input. -/
def codeFramesWrong : ChangeSpec := { name := "codeFrames", fn := fun _ => fun
  | [d1, d2] => { results := [.lit (.bool false)], args := [d1, d2] }
  | _ => none }
def CodeFramesWrongFalsely : Prop := codeFramesRow.holds Tryd.pinned (OpenSpec.ofChange codeFramesWrong)

/-- 'flyoverlaw02.CodeBack': WHATEVER THE INPUT: true; the input reads as it did. -/
def codeBackSpec : ChangeSpec := { name := "codeBack", fn := fun _ => fun
  | [d1, d2] => { results := [.lit (.bool true)], args := [d1, d2] }
  | _ => none }
def codeBackRow : OpenClaim := { program := "ytgcnpmjpdhgikaadoor", sum := "ec979ae53deaed1db0dfc2b328608f31575757ed971e6585f442aa9e7dee1804", func := "flyover/flyoverlaw02.CodeBack", spec := "codeBack", recurses := true, named := ["flyover/code.halves"], loops := true, apart := false, laid := [("flyover/code.halves", laid_flyover_code_halves)] }
def CodeBackSaid : Prop := codeBackRow.holds Tryd.pinned (OpenSpec.ofChange codeBackSpec)

/-- ITS FALSE NEIGHBOUR: 'it returns false'. Refute it at one input. -/
def codeBackWrong : ChangeSpec := { name := "codeBack", fn := fun _ => fun
  | [d1, d2] => { results := [.lit (.bool false)], args := [d1, d2] }
  | _ => none }
def CodeBackWrongFalsely : Prop := codeBackRow.holds Tryd.pinned (OpenSpec.ofChange codeBackWrong)

/-- 'flyoverlaw02.CodeFramed': WHATEVER THE INPUT: true; the input reads as it did. -/
def codeFramedSpec : ChangeSpec := { name := "codeFramed", fn := fun _ => fun
  | [d1, d2, d3] => { results := [.lit (.bool true)], args := [d1, d2, d3] }
  | _ => none }
def codeFramedRow : OpenClaim := { program := "ytgcnpmjpdhgikaadoor", sum := "ec979ae53deaed1db0dfc2b328608f31575757ed971e6585f442aa9e7dee1804", func := "flyover/flyoverlaw02.CodeFramed", spec := "codeFramed", recurses := true, named := ["flyover/code.halves"], apart := false, laid := [("flyover/code.halves", laid_flyover_code_halves)] }
def CodeFramedSaid : Prop := codeFramedRow.holds Tryd.pinned (OpenSpec.ofChange codeFramedSpec)

/-- ITS FALSE NEIGHBOUR: 'it returns false'. Refute it at one input. -/
def codeFramedWrong : ChangeSpec := { name := "codeFramed", fn := fun _ => fun
  | [d1, d2, d3] => { results := [.lit (.bool false)], args := [d1, d2, d3] }
  | _ => none }
def CodeFramedWrongFalsely : Prop := codeFramedRow.holds Tryd.pinned (OpenSpec.ofChange codeFramedWrong)

/-- 'flyoverlaw02.CodeTorn': WHATEVER THE INPUT: true; the input reads as it did. -/
def codeTornSpec : ChangeSpec := { name := "codeTorn", fn := fun _ => fun
  | [d1, d2, d3] => { results := [.lit (.bool true)], args := [d1, d2, d3] }
  | _ => none }
def codeTornRow : OpenClaim := { program := "ytgcnpmjpdhgikaadoor", sum := "ec979ae53deaed1db0dfc2b328608f31575757ed971e6585f442aa9e7dee1804", func := "flyover/flyoverlaw02.CodeTorn", spec := "codeTorn", recurses := true, named := ["flyover/code.halves"], apart := false, laid := [("flyover/code.halves", laid_flyover_code_halves)] }
def CodeTornSaid : Prop := codeTornRow.holds Tryd.pinned (OpenSpec.ofChange codeTornSpec)

/-- ITS FALSE NEIGHBOUR: 'it returns false'. Refute it at one input. -/
def codeTornWrong : ChangeSpec := { name := "codeTorn", fn := fun _ => fun
  | [d1, d2, d3] => { results := [.lit (.bool false)], args := [d1, d2, d3] }
  | _ => none }
def CodeTornWrongFalsely : Prop := codeTornRow.holds Tryd.pinned (OpenSpec.ofChange codeTornWrong)

/- THE SECOND FORM. 'bulk': how many values and letters a reading holds, each counted each time it is reached (what is shared counts as often as it is met; a slice's spare places count too). A statement '..UptoSaid' is the law's where the arguments, and the package variables that the reading takes, are together of bulk at most 1048576: NARROWER than '..Said'. Prove '..Said' where nothing that the law and all that it calls make is longer than what came in: it says more and counts as full. Else prove '..UptoSaid'. A law counts once. -/
mutual
def uptoBulk {H : Type} : DataW H → Nat
  | .lit (.string bytes) => bytes.length + 1
  | .lit _ => 1
  | .nil => 1
  | .ptr d => uptoBulk d + 1
  | .slice elems spare => uptoBulkAll elems + uptoBulkAll spare + 1
  | .agg parts => uptoBulkAll parts + 1
  | .iface _ d => uptoBulk d + 1
  | .map entries => uptoBulkEntries entries + 1
  | .held _ => 1
def uptoBulkAll {H : Type} : List (DataW H) → Nat
  | [] => 0
  | d :: r => uptoBulk d + uptoBulkAll r
def uptoBulkEntries {H : Type} : List (Lit × DataW H) → Nat
  | [] => 0
  | x :: r => uptoBulkEntry x + uptoBulkEntries r
def uptoBulkEntry {H : Type} : Lit × DataW H → Nat
  | (.string bytes, d) => bytes.length + uptoBulk d + 1
  | (_, d) => uptoBulk d + 1
 end
def uptoSmall : (H : Type) → List (DataW H) → Bool := fun _ ds => decide (uptoBulkAll ds ≤ 1048576)
def OpenSpec.upto (s : _root_.Go.ChangeSpec) : _root_.Go.OpenSpec := { _root_.Go.OpenSpec.ofChange s with cond := some uptoSmall }

/-- 'flyoverlaw02.CodeEncodes', WHERE WHAT IT READS IS OF BULK AT MOST 1048576: true; the input reads as it did. -/
def codeEncodesUptoRow : OpenClaim := { program := "ytgcnpmjpdhgikaadoor", sum := "ec979ae53deaed1db0dfc2b328608f31575757ed971e6585f442aa9e7dee1804", func := "flyover/flyoverlaw02.CodeEncodes", spec := "codeEncodes", recurses := true, named := ["flyover/code.halves"], loops := true, apart := false, laid := [("flyover/code.halves", laid_flyover_code_halves)], narrowed := true }
def CodeEncodesUptoSaid : Prop := codeEncodesUptoRow.holds Tryd.pinned (OpenSpec.upto codeEncodesSpec)

/-- 'flyoverlaw02.CodeDecodes', WHERE WHAT IT READS IS OF BULK AT MOST 1048576: true; the input reads as it did. -/
def codeDecodesUptoRow : OpenClaim := { program := "ytgcnpmjpdhgikaadoor", sum := "ec979ae53deaed1db0dfc2b328608f31575757ed971e6585f442aa9e7dee1804", func := "flyover/flyoverlaw02.CodeDecodes", spec := "codeDecodes", recurses := true, named := ["flyover/code.halves"], apart := false, laid := [("flyover/code.halves", laid_flyover_code_halves)], narrowed := true }
def CodeDecodesUptoSaid : Prop := codeDecodesUptoRow.holds Tryd.pinned (OpenSpec.upto codeDecodesSpec)

/-- 'flyoverlaw02.CodeFrames', WHERE WHAT IT READS IS OF BULK AT MOST 1048576: true; the input reads as it did. -/
def codeFramesUptoRow : OpenClaim := { program := "ytgcnpmjpdhgikaadoor", sum := "ec979ae53deaed1db0dfc2b328608f31575757ed971e6585f442aa9e7dee1804", func := "flyover/flyoverlaw02.CodeFrames", spec := "codeFrames", recurses := true, named := ["flyover/code.halves"], apart := false, laid := [("flyover/code.halves", laid_flyover_code_halves)], narrowed := true }
def CodeFramesUptoSaid : Prop := codeFramesUptoRow.holds Tryd.pinned (OpenSpec.upto codeFramesSpec)

/-- 'flyoverlaw02.CodeBack', WHERE WHAT IT READS IS OF BULK AT MOST 1048576: true; the input reads as it did. -/
def codeBackUptoRow : OpenClaim := { program := "ytgcnpmjpdhgikaadoor", sum := "ec979ae53deaed1db0dfc2b328608f31575757ed971e6585f442aa9e7dee1804", func := "flyover/flyoverlaw02.CodeBack", spec := "codeBack", recurses := true, named := ["flyover/code.halves"], loops := true, apart := false, laid := [("flyover/code.halves", laid_flyover_code_halves)], narrowed := true }
def CodeBackUptoSaid : Prop := codeBackUptoRow.holds Tryd.pinned (OpenSpec.upto codeBackSpec)

/-- 'flyoverlaw02.CodeFramed', WHERE WHAT IT READS IS OF BULK AT MOST 1048576: true; the input reads as it did. -/
def codeFramedUptoRow : OpenClaim := { program := "ytgcnpmjpdhgikaadoor", sum := "ec979ae53deaed1db0dfc2b328608f31575757ed971e6585f442aa9e7dee1804", func := "flyover/flyoverlaw02.CodeFramed", spec := "codeFramed", recurses := true, named := ["flyover/code.halves"], apart := false, laid := [("flyover/code.halves", laid_flyover_code_halves)], narrowed := true }
def CodeFramedUptoSaid : Prop := codeFramedUptoRow.holds Tryd.pinned (OpenSpec.upto codeFramedSpec)

/-- 'flyoverlaw02.CodeTorn', WHERE WHAT IT READS IS OF BULK AT MOST 1048576: true; the input reads as it did. -/
def codeTornUptoRow : OpenClaim := { program := "ytgcnpmjpdhgikaadoor", sum := "ec979ae53deaed1db0dfc2b328608f31575757ed971e6585f442aa9e7dee1804", func := "flyover/flyoverlaw02.CodeTorn", spec := "codeTorn", recurses := true, named := ["flyover/code.halves"], apart := false, laid := [("flyover/code.halves", laid_flyover_code_halves)], narrowed := true }
def CodeTornUptoSaid : Prop := codeTornUptoRow.holds Tryd.pinned (OpenSpec.upto codeTornSpec)

end Rows
end Go.Proofs.YtgcnpmjpdhgikaaDoor
