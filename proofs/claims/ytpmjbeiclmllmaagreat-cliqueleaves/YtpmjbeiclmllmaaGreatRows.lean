/-
  No cell of these rows narrows 'for every input' (looked for: loops, veiled, ifaces, maps, wideKeys, modest, calm, conditions, laid).
  DERIVED. THE GIVEN ROWS OF THIS SEAT. 3 by the template 'for every input the law returns true; each argument reads behind the call as it read before'; 0 by the template 'total and deterministic' (their statements: YtpmjbeiclmllmaaGreatTotals.lean).
  GIVEN WITH THE SEED: the statements are not yours to turn. If you find one false, say at which input.
  Laid BY PROGRAM, IN A SANDBOX (cutbox-rows.mjs): the forced cells as the released guide's own fill.sh prints them over the translation 95f40d956087a01e… (all of the seat's roots in one cut). By AI agents, Wed Nov 11 2026. No macro, syntax, notation, axiom, sorry.
-/
import Derived.Test.YtpmjbeiclmllmaaGreatChecked
import GoSem.Claim
import GoSem.ClaimJoined
import GoSem.ClaimMapViews
import Derived.JoinedTies
import Derived.KernelRfl
namespace Go.Proofs.YtpmjbeiclmllmaaGreat
/- THE CELL 'sum', in the pinned program and in every row, IS THE sha256 OF THE DUMP (.gsa) THAT YtpmjbeiclmllmaaGreatProg.lean LOADS. Nothing in Lean hashes anything: it is a label: what it is worth is what the hold of that sum in a sandbox is worth. -/
noncomputable def Tryz.pinned : Pinned := { name := "ytpmjbeiclmllmaagreat", sum := "95f40d956087a01e38fe527f4af98cd321a098d433333f1f914420938d420630", checked := Tryz.checked }
namespace Rows
def none {H : Type} : Left H := { results := [], args := [] }

/-- 'flyoverlaw13.CliqueLeaves': WHATEVER THE INPUT: true; the input reads as it did. -/
def cliqueLeavesSpec : ChangeSpec := { name := "cliqueLeaves", fn := fun _ => fun
  | [d1, d2, d3] => { results := [.lit (.bool true)], args := [d1, d2, d3] }
  | _ => none }
def cliqueLeavesRow : OpenClaim := { program := "ytpmjbeiclmllmaagreat", sum := "95f40d956087a01e38fe527f4af98cd321a098d433333f1f914420938d420630", func := "flyover/flyoverlaw13.CliqueLeaves", spec := "cliqueLeaves", unfollowed := true, recurses := true, apart := false }
def CliqueLeavesSaid : Prop := cliqueLeavesRow.holds Tryz.pinned (OpenSpec.ofChange cliqueLeavesSpec)

/-- ITS FALSE NEIGHBOUR: 'it returns false'. Refute it at one input. -/
def cliqueLeavesWrong : ChangeSpec := { name := "cliqueLeaves", fn := fun _ => fun
  | [d1, d2, d3] => { results := [.lit (.bool false)], args := [d1, d2, d3] }
  | _ => none }
def CliqueLeavesWrongFalsely : Prop := cliqueLeavesRow.holds Tryz.pinned (OpenSpec.ofChange cliqueLeavesWrong)

/-- 'flyoverlaw13.CliqueUps': WHATEVER THE INPUT: true; the input reads as it did. -/
def cliqueUpsSpec : ChangeSpec := { name := "cliqueUps", fn := fun _ => fun
  | [d1, d2, d3] => { results := [.lit (.bool true)], args := [d1, d2, d3] }
  | _ => none }
def cliqueUpsRow : OpenClaim := { program := "ytpmjbeiclmllmaagreat", sum := "95f40d956087a01e38fe527f4af98cd321a098d433333f1f914420938d420630", func := "flyover/flyoverlaw13.CliqueUps", spec := "cliqueUps", unfollowed := true, recurses := true, apart := false }
def CliqueUpsSaid : Prop := cliqueUpsRow.holds Tryz.pinned (OpenSpec.ofChange cliqueUpsSpec)

/-- ITS FALSE NEIGHBOUR: 'it returns false'. Refute it at one input. -/
def cliqueUpsWrong : ChangeSpec := { name := "cliqueUps", fn := fun _ => fun
  | [d1, d2, d3] => { results := [.lit (.bool false)], args := [d1, d2, d3] }
  | _ => none }
def CliqueUpsWrongFalsely : Prop := cliqueUpsRow.holds Tryz.pinned (OpenSpec.ofChange cliqueUpsWrong)

/-- 'flyoverlaw13.CliqueRises': WHATEVER THE INPUT: true; the input reads as it did. -/
def cliqueRisesSpec : ChangeSpec := { name := "cliqueRises", fn := fun _ => fun
  | [d1, d2] => { results := [.lit (.bool true)], args := [d1, d2] }
  | _ => none }
def cliqueRisesRow : OpenClaim := { program := "ytpmjbeiclmllmaagreat", sum := "95f40d956087a01e38fe527f4af98cd321a098d433333f1f914420938d420630", func := "flyover/flyoverlaw13.CliqueRises", spec := "cliqueRises", unfollowed := true, recurses := true, apart := false }
def CliqueRisesSaid : Prop := cliqueRisesRow.holds Tryz.pinned (OpenSpec.ofChange cliqueRisesSpec)

/-- ITS FALSE NEIGHBOUR: 'it returns false'. Refute it at one input. -/
def cliqueRisesWrong : ChangeSpec := { name := "cliqueRises", fn := fun _ => fun
  | [d1, d2] => { results := [.lit (.bool false)], args := [d1, d2] }
  | _ => none }
def CliqueRisesWrongFalsely : Prop := cliqueRisesRow.holds Tryz.pinned (OpenSpec.ofChange cliqueRisesWrong)

/- THE SECOND FORM. 'bulk': how many values and letters a reading holds, each counted each time it is reached (what is shared counts as often as it is met; a slice's spare places count too). A statement '..UptoSaid' is the law's where the arguments, and the package variables that the reading takes, are together of bulk at most 1048576: NARROWER than '..Said'. Prove '..Said' where nothing that the law and all that it calls make is longer than what came in: it says more and counts as full. Else prove '..UptoSaid'. A law counts once. -/
mutual
def uptoBulk {H : Type} : DataW H → Nat
  | .lit (.string bytes) => bytes.length + 1
  | .lit _ => 1
  | .nil => 1
  | .ptr d => uptoBulk d + 1
  | .slice elems spare => uptoBulkAll elems + uptoBulkAll spare + 1
  | .agg parts => uptoBulkAll parts + 1
  | .iface _ d => uptoBulk d + 1
  | .map entries => uptoBulkEntries entries + 1
  | .held _ => 1
def uptoBulkAll {H : Type} : List (DataW H) → Nat
  | [] => 0
  | d :: r => uptoBulk d + uptoBulkAll r
def uptoBulkEntries {H : Type} : List (Lit × DataW H) → Nat
  | [] => 0
  | x :: r => uptoBulkEntry x + uptoBulkEntries r
def uptoBulkEntry {H : Type} : Lit × DataW H → Nat
  | (.string bytes, d) => bytes.length + uptoBulk d + 1
  | (_, d) => uptoBulk d + 1
 end
def uptoSmall : (H : Type) → List (DataW H) → Bool := fun _ ds => decide (uptoBulkAll ds ≤ 1048576)
def OpenSpec.upto (s : _root_.Go.ChangeSpec) : _root_.Go.OpenSpec := { _root_.Go.OpenSpec.ofChange s with cond := some uptoSmall }

/-- 'flyoverlaw13.CliqueLeaves', WHERE WHAT IT READS IS OF BULK AT MOST 1048576: true; the input reads as it did. -/
def cliqueLeavesUptoRow : OpenClaim := { program := "ytpmjbeiclmllmaagreat", sum := "95f40d956087a01e38fe527f4af98cd321a098d433333f1f914420938d420630", func := "flyover/flyoverlaw13.CliqueLeaves", spec := "cliqueLeaves", unfollowed := true, recurses := true, apart := false, narrowed := true }
def CliqueLeavesUptoSaid : Prop := cliqueLeavesUptoRow.holds Tryz.pinned (OpenSpec.upto cliqueLeavesSpec)

/-- 'flyoverlaw13.CliqueUps', WHERE WHAT IT READS IS OF BULK AT MOST 1048576: true; the input reads as it did. -/
def cliqueUpsUptoRow : OpenClaim := { program := "ytpmjbeiclmllmaagreat", sum := "95f40d956087a01e38fe527f4af98cd321a098d433333f1f914420938d420630", func := "flyover/flyoverlaw13.CliqueUps", spec := "cliqueUps", unfollowed := true, recurses := true, apart := false, narrowed := true }
def CliqueUpsUptoSaid : Prop := cliqueUpsUptoRow.holds Tryz.pinned (OpenSpec.upto cliqueUpsSpec)

/-- 'flyoverlaw13.CliqueRises', WHERE WHAT IT READS IS OF BULK AT MOST 1048576: true; the input reads as it did. -/
def cliqueRisesUptoRow : OpenClaim := { program := "ytpmjbeiclmllmaagreat", sum := "95f40d956087a01e38fe527f4af98cd321a098d433333f1f914420938d420630", func := "flyover/flyoverlaw13.CliqueRises", spec := "cliqueRises", unfollowed := true, recurses := true, apart := false, narrowed := true }
def CliqueRisesUptoSaid : Prop := cliqueRisesUptoRow.holds Tryz.pinned (OpenSpec.upto cliqueRisesSpec)

end Rows
end Go.Proofs.YtpmjbeiclmllmaaGreat
