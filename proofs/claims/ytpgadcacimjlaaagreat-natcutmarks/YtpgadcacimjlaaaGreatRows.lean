/-
  No cell of these rows narrows 'for every input' (looked for: loops, veiled, ifaces, maps, wideKeys, modest, calm, conditions, laid).
  DERIVED. THE GIVEN ROWS OF THIS SEAT. 4 by the template 'for every input the law returns true; each argument reads behind the call as it read before'; 0 by the template 'total and deterministic' (their statements: YtpgadcacimjlaaaGreatTotals.lean).
  GIVEN WITH THE SEED: the statements are not yours to turn. If you find one false, say at which input.
  Laid BY PROGRAM, IN A SANDBOX (cutbox-rows.mjs): the forced cells as the released guide's own fill.sh prints them over the translation 090bbe881a0e513d… (all of the seat's roots in one cut). By AI agents, Wed Nov 11 2026. No macro, syntax, notation, axiom, sorry.
-/
import Derived.Test.YtpgadcacimjlaaaGreatChecked
import GoSem.Claim
import GoSem.ClaimJoined
import GoSem.ClaimMapViews
import Derived.JoinedTies
import Derived.KernelRfl
namespace Go.Proofs.YtpgadcacimjlaaaGreat
/- THE CELL 'sum', in the pinned program and in every row, IS THE sha256 OF THE DUMP (.gsa) THAT YtpgadcacimjlaaaGreatProg.lean LOADS. Nothing in Lean hashes anything: it is a label: what it is worth is what the hold of that sum in a sandbox is worth. -/
noncomputable def Tryz.pinned : Pinned := { name := "ytpgadcacimjlaaagreat", sum := "090bbe881a0e513d3ab2a72146784e726314597950450c49d45b6fa9f67ff33e", checked := Tryz.checked }
namespace Rows
def none {H : Type} : Left H := { results := [], args := [] }

/-- 'flyoverlaw08.NatcutCounts': WHATEVER THE INPUT: true; the input reads as it did. -/
def natcutCountsSpec : ChangeSpec := { name := "natcutCounts", fn := fun _ => fun
  | [d1, d2] => { results := [.lit (.bool true)], args := [d1, d2] }
  | _ => none }
def natcutCountsRow : OpenClaim := { program := "ytpgadcacimjlaaagreat", sum := "090bbe881a0e513d3ab2a72146784e726314597950450c49d45b6fa9f67ff33e", func := "flyover/flyoverlaw08.NatcutCounts", spec := "natcutCounts", unfollowed := true, recurses := true, plainKeys := false, apart := false }
def NatcutCountsSaid : Prop := natcutCountsRow.holds Tryz.pinned (OpenSpec.ofChange natcutCountsSpec)

/-- ITS FALSE NEIGHBOUR: 'it returns false'. Refute it at one input. -/
def natcutCountsWrong : ChangeSpec := { name := "natcutCounts", fn := fun _ => fun
  | [d1, d2] => { results := [.lit (.bool false)], args := [d1, d2] }
  | _ => none }
def NatcutCountsWrongFalsely : Prop := natcutCountsRow.holds Tryz.pinned (OpenSpec.ofChange natcutCountsWrong)

/-- 'flyoverlaw08.NatcutCuts': WHATEVER THE INPUT: true; the input reads as it did. -/
def natcutCutsSpec : ChangeSpec := { name := "natcutCuts", fn := fun _ => fun
  | [d1, d2, d3] => { results := [.lit (.bool true)], args := [d1, d2, d3] }
  | _ => none }
def natcutCutsRow : OpenClaim := { program := "ytpgadcacimjlaaagreat", sum := "090bbe881a0e513d3ab2a72146784e726314597950450c49d45b6fa9f67ff33e", func := "flyover/flyoverlaw08.NatcutCuts", spec := "natcutCuts", unfollowed := true, recurses := true, plainKeys := false, apart := false }
def NatcutCutsSaid : Prop := natcutCutsRow.holds Tryz.pinned (OpenSpec.ofChange natcutCutsSpec)

/-- ITS FALSE NEIGHBOUR: 'it returns false'. Refute it at one input. -/
def natcutCutsWrong : ChangeSpec := { name := "natcutCuts", fn := fun _ => fun
  | [d1, d2, d3] => { results := [.lit (.bool false)], args := [d1, d2, d3] }
  | _ => none }
def NatcutCutsWrongFalsely : Prop := natcutCutsRow.holds Tryz.pinned (OpenSpec.ofChange natcutCutsWrong)

/-- 'flyoverlaw08.NatcutMarks': WHATEVER THE INPUT: true; the input reads as it did. -/
def natcutMarksSpec : ChangeSpec := { name := "natcutMarks", fn := fun _ => fun
  | [d1, d2, d3] => { results := [.lit (.bool true)], args := [d1, d2, d3] }
  | _ => none }
def natcutMarksRow : OpenClaim := { program := "ytpgadcacimjlaaagreat", sum := "090bbe881a0e513d3ab2a72146784e726314597950450c49d45b6fa9f67ff33e", func := "flyover/flyoverlaw08.NatcutMarks", spec := "natcutMarks", unfollowed := true, recurses := true, plainKeys := false, apart := false }
def NatcutMarksSaid : Prop := natcutMarksRow.holds Tryz.pinned (OpenSpec.ofChange natcutMarksSpec)

/-- ITS FALSE NEIGHBOUR: 'it returns false'. Refute it at one input. -/
def natcutMarksWrong : ChangeSpec := { name := "natcutMarks", fn := fun _ => fun
  | [d1, d2, d3] => { results := [.lit (.bool false)], args := [d1, d2, d3] }
  | _ => none }
def NatcutMarksWrongFalsely : Prop := natcutMarksRow.holds Tryz.pinned (OpenSpec.ofChange natcutMarksWrong)

/-- 'flyoverlaw08.NatcutFragments': WHATEVER THE INPUT: true; the input reads as it did. -/
def natcutFragmentsSpec : ChangeSpec := { name := "natcutFragments", fn := fun _ => fun
  | [d1, d2] => { results := [.lit (.bool true)], args := [d1, d2] }
  | _ => none }
def natcutFragmentsRow : OpenClaim := { program := "ytpgadcacimjlaaagreat", sum := "090bbe881a0e513d3ab2a72146784e726314597950450c49d45b6fa9f67ff33e", func := "flyover/flyoverlaw08.NatcutFragments", spec := "natcutFragments", unfollowed := true, recurses := true, plainKeys := false, apart := false }
def NatcutFragmentsSaid : Prop := natcutFragmentsRow.holds Tryz.pinned (OpenSpec.ofChange natcutFragmentsSpec)

/-- ITS FALSE NEIGHBOUR: 'it returns false'. Refute it at one input. -/
def natcutFragmentsWrong : ChangeSpec := { name := "natcutFragments", fn := fun _ => fun
  | [d1, d2] => { results := [.lit (.bool false)], args := [d1, d2] }
  | _ => none }
def NatcutFragmentsWrongFalsely : Prop := natcutFragmentsRow.holds Tryz.pinned (OpenSpec.ofChange natcutFragmentsWrong)

/- THE SECOND FORM. 'bulk': how many values and letters a reading holds, each counted each time it is reached (what is shared counts as often as it is met; a slice's spare places count too). A statement '..UptoSaid' is the law's where the arguments, and the package variables that the reading takes, are together of bulk at most 1048576: NARROWER than '..Said'. Prove '..Said' where nothing that the law and all that it calls make is longer than what came in: it says more and counts as full. Else prove '..UptoSaid'. A law counts once. -/
mutual
def uptoBulk {H : Type} : DataW H → Nat
  | .lit (.string bytes) => bytes.length + 1
  | .lit _ => 1
  | .nil => 1
  | .ptr d => uptoBulk d + 1
  | .slice elems spare => uptoBulkAll elems + uptoBulkAll spare + 1
  | .agg parts => uptoBulkAll parts + 1
  | .iface _ d => uptoBulk d + 1
  | .map entries => uptoBulkEntries entries + 1
  | .held _ => 1
def uptoBulkAll {H : Type} : List (DataW H) → Nat
  | [] => 0
  | d :: r => uptoBulk d + uptoBulkAll r
def uptoBulkEntries {H : Type} : List (Lit × DataW H) → Nat
  | [] => 0
  | x :: r => uptoBulkEntry x + uptoBulkEntries r
def uptoBulkEntry {H : Type} : Lit × DataW H → Nat
  | (.string bytes, d) => bytes.length + uptoBulk d + 1
  | (_, d) => uptoBulk d + 1
 end
def uptoSmall : (H : Type) → List (DataW H) → Bool := fun _ ds => decide (uptoBulkAll ds ≤ 1048576)
def OpenSpec.upto (s : _root_.Go.ChangeSpec) : _root_.Go.OpenSpec := { _root_.Go.OpenSpec.ofChange s with cond := some uptoSmall }

/-- 'flyoverlaw08.NatcutCounts', WHERE WHAT IT READS IS OF BULK AT MOST 1048576: true; the input reads as it did. -/
def natcutCountsUptoRow : OpenClaim := { program := "ytpgadcacimjlaaagreat", sum := "090bbe881a0e513d3ab2a72146784e726314597950450c49d45b6fa9f67ff33e", func := "flyover/flyoverlaw08.NatcutCounts", spec := "natcutCounts", unfollowed := true, recurses := true, plainKeys := false, apart := false, narrowed := true }
def NatcutCountsUptoSaid : Prop := natcutCountsUptoRow.holds Tryz.pinned (OpenSpec.upto natcutCountsSpec)

/-- 'flyoverlaw08.NatcutCuts', WHERE WHAT IT READS IS OF BULK AT MOST 1048576: true; the input reads as it did. -/
def natcutCutsUptoRow : OpenClaim := { program := "ytpgadcacimjlaaagreat", sum := "090bbe881a0e513d3ab2a72146784e726314597950450c49d45b6fa9f67ff33e", func := "flyover/flyoverlaw08.NatcutCuts", spec := "natcutCuts", unfollowed := true, recurses := true, plainKeys := false, apart := false, narrowed := true }
def NatcutCutsUptoSaid : Prop := natcutCutsUptoRow.holds Tryz.pinned (OpenSpec.upto natcutCutsSpec)

/-- 'flyoverlaw08.NatcutMarks', WHERE WHAT IT READS IS OF BULK AT MOST 1048576: true; the input reads as it did. -/
def natcutMarksUptoRow : OpenClaim := { program := "ytpgadcacimjlaaagreat", sum := "090bbe881a0e513d3ab2a72146784e726314597950450c49d45b6fa9f67ff33e", func := "flyover/flyoverlaw08.NatcutMarks", spec := "natcutMarks", unfollowed := true, recurses := true, plainKeys := false, apart := false, narrowed := true }
def NatcutMarksUptoSaid : Prop := natcutMarksUptoRow.holds Tryz.pinned (OpenSpec.upto natcutMarksSpec)

/-- 'flyoverlaw08.NatcutFragments', WHERE WHAT IT READS IS OF BULK AT MOST 1048576: true; the input reads as it did. -/
def natcutFragmentsUptoRow : OpenClaim := { program := "ytpgadcacimjlaaagreat", sum := "090bbe881a0e513d3ab2a72146784e726314597950450c49d45b6fa9f67ff33e", func := "flyover/flyoverlaw08.NatcutFragments", spec := "natcutFragments", unfollowed := true, recurses := true, plainKeys := false, apart := false, narrowed := true }
def NatcutFragmentsUptoSaid : Prop := natcutFragmentsUptoRow.holds Tryz.pinned (OpenSpec.upto natcutFragmentsSpec)

end Rows
end Go.Proofs.YtpgadcacimjlaaaGreat
