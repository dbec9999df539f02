/-
  No cell of these rows narrows 'for every input' (looked for: loops, veiled, ifaces, maps, wideKeys, modest, calm, conditions, laid).
  DERIVED. THE GIVEN ROWS OF THIS SEAT. 5 by the template 'for every input the law returns true; each argument reads behind the call as it read before'; 0 by the template 'total and deterministic' (their statements: YtlbkmhlpgpfafaaTotals.lean).
  GIVEN WITH THE SEED: the statements are not yours to turn. If you find one false, say at which input.
  Laid BY PROGRAM, IN A SANDBOX (cutbox-rows.mjs): the forced cells as the released guide's own fill.sh prints them over the translation 26a91abe524a2405… (all of the seat's roots in one cut). By AI agents, Wed Nov 11 2026. No macro, syntax, notation, axiom, sorry.
-/
import Derived.Test.YtlbkmhlpgpfafaaChecked
import GoSem.Claim
import GoSem.ClaimJoined
import GoSem.ClaimMapViews
import Derived.JoinedTies
import Derived.KernelRfl
namespace Go.Proofs.Ytlbkmhlpgpfafaa
/- THE CELL 'sum', in the pinned program and in every row, IS THE sha256 OF THE DUMP (.gsa) THAT YtlbkmhlpgpfafaaProg.lean LOADS. Nothing in Lean hashes anything: it is a label: what it is worth is what the hold of that sum in a sandbox is worth. -/
noncomputable def Try.pinned : Pinned := { name := "ytlbkmhlpgpfafaa", sum := "26a91abe524a2405b653f7ef09cadd18ee093c9fe92498ff7bb80d1c8e344e37", checked := Try.checked }
namespace Rows
def none {H : Type} : Left H := { results := [], args := [] }

/-- 'flyoverlaw17.FilesPlays': WHATEVER THE INPUT: true; the input reads as it did. -/
def filesPlaysSpec : ChangeSpec := { name := "filesPlays", fn := fun _ => fun
  | [d] => { results := [.lit (.bool true)], args := [d] }
  | _ => none }
def filesPlaysRow : OpenClaim := { program := "ytlbkmhlpgpfafaa", sum := "26a91abe524a2405b653f7ef09cadd18ee093c9fe92498ff7bb80d1c8e344e37", func := "flyover/flyoverlaw17.FilesPlays", spec := "filesPlays", unfollowed := true, recurses := true, apart := false }
def FilesPlaysSaid : Prop := filesPlaysRow.holds Try.pinned (OpenSpec.ofChange filesPlaysSpec)

/-- ITS FALSE NEIGHBOUR: 'it returns false'. Refute it at one input. -/
def filesPlaysWrong : ChangeSpec := { name := "filesPlays", fn := fun _ => fun
  | [d] => { results := [.lit (.bool false)], args := [d] }
  | _ => none }
def FilesPlaysWrongFalsely : Prop := filesPlaysRow.holds Try.pinned (OpenSpec.ofChange filesPlaysWrong)

/-- 'flyoverlaw17.FilesTwo': WHATEVER THE INPUT: true; the input reads as it did. -/
def filesTwoSpec : ChangeSpec := { name := "filesTwo", fn := fun _ => fun
  | [d] => { results := [.lit (.bool true)], args := [d] }
  | _ => none }
def filesTwoRow : OpenClaim := { program := "ytlbkmhlpgpfafaa", sum := "26a91abe524a2405b653f7ef09cadd18ee093c9fe92498ff7bb80d1c8e344e37", func := "flyover/flyoverlaw17.FilesTwo", spec := "filesTwo", unfollowed := true, recurses := true, apart := false }
def FilesTwoSaid : Prop := filesTwoRow.holds Try.pinned (OpenSpec.ofChange filesTwoSpec)

/-- ITS FALSE NEIGHBOUR: 'it returns false'. Refute it at one input. -/
def filesTwoWrong : ChangeSpec := { name := "filesTwo", fn := fun _ => fun
  | [d] => { results := [.lit (.bool false)], args := [d] }
  | _ => none }
def FilesTwoWrongFalsely : Prop := filesTwoRow.holds Try.pinned (OpenSpec.ofChange filesTwoWrong)

/-- 'flyoverlaw17.FilesTwice': WHATEVER THE INPUT: true; the input reads as it did. -/
def filesTwiceSpec : ChangeSpec := { name := "filesTwice", fn := fun _ => fun
  | [d1, d2, d3] => { results := [.lit (.bool true)], args := [d1, d2, d3] }
  | _ => none }
def filesTwiceRow : OpenClaim := { program := "ytlbkmhlpgpfafaa", sum := "26a91abe524a2405b653f7ef09cadd18ee093c9fe92498ff7bb80d1c8e344e37", func := "flyover/flyoverlaw17.FilesTwice", spec := "filesTwice", unfollowed := true, recurses := true, apart := false }
def FilesTwiceSaid : Prop := filesTwiceRow.holds Try.pinned (OpenSpec.ofChange filesTwiceSpec)

/-- ITS FALSE NEIGHBOUR: 'it returns false'. Refute it at one input. -/
def filesTwiceWrong : ChangeSpec := { name := "filesTwice", fn := fun _ => fun
  | [d1, d2, d3] => { results := [.lit (.bool false)], args := [d1, d2, d3] }
  | _ => none }
def FilesTwiceWrongFalsely : Prop := filesTwiceRow.holds Try.pinned (OpenSpec.ofChange filesTwiceWrong)

/-- 'flyoverlaw17.FilesSafe': WHATEVER THE INPUT: true; the input reads as it did. -/
def filesSafeSpec : ChangeSpec := { name := "filesSafe", fn := fun _ => fun
  | [d1, d2, d3] => { results := [.lit (.bool true)], args := [d1, d2, d3] }
  | _ => none }
def filesSafeRow : OpenClaim := { program := "ytlbkmhlpgpfafaa", sum := "26a91abe524a2405b653f7ef09cadd18ee093c9fe92498ff7bb80d1c8e344e37", func := "flyover/flyoverlaw17.FilesSafe", spec := "filesSafe", unfollowed := true, recurses := true, apart := false }
def FilesSafeSaid : Prop := filesSafeRow.holds Try.pinned (OpenSpec.ofChange filesSafeSpec)

/-- ITS FALSE NEIGHBOUR: 'it returns false'. Refute it at one input. -/
def filesSafeWrong : ChangeSpec := { name := "filesSafe", fn := fun _ => fun
  | [d1, d2, d3] => { results := [.lit (.bool false)], args := [d1, d2, d3] }
  | _ => none }
def FilesSafeWrongFalsely : Prop := filesSafeRow.holds Try.pinned (OpenSpec.ofChange filesSafeWrong)

/-- 'flyoverlaw17.FilesSwap': WHATEVER THE INPUT: true; the input reads as it did. -/
def filesSwapSpec : ChangeSpec := { name := "filesSwap", fn := fun _ => fun
  | [d1, d2, d3] => { results := [.lit (.bool true)], args := [d1, d2, d3] }
  | _ => none }
def filesSwapRow : OpenClaim := { program := "ytlbkmhlpgpfafaa", sum := "26a91abe524a2405b653f7ef09cadd18ee093c9fe92498ff7bb80d1c8e344e37", func := "flyover/flyoverlaw17.FilesSwap", spec := "filesSwap", unfollowed := true, recurses := true, apart := false }
def FilesSwapSaid : Prop := filesSwapRow.holds Try.pinned (OpenSpec.ofChange filesSwapSpec)

/-- ITS FALSE NEIGHBOUR: 'it returns false'. Refute it at one input. -/
def filesSwapWrong : ChangeSpec := { name := "filesSwap", fn := fun _ => fun
  | [d1, d2, d3] => { results := [.lit (.bool false)], args := [d1, d2, d3] }
  | _ => none }
def FilesSwapWrongFalsely : Prop := filesSwapRow.holds Try.pinned (OpenSpec.ofChange filesSwapWrong)

/- THE SECOND FORM. 'bulk': how many values and letters a reading holds, each counted each time it is reached (what is shared counts as often as it is met; a slice's spare places count too). A statement '..UptoSaid' is the law's where the arguments, and the package variables that the reading takes, are together of bulk at most 1048576: NARROWER than '..Said'. Prove '..Said' where nothing that the law and all that it calls make is longer than what came in: it says more and counts as full. Else prove '..UptoSaid'. A law counts once. -/
mutual
def uptoBulk {H : Type} : DataW H → Nat
  | .lit (.string bytes) => bytes.length + 1
  | .lit _ => 1
  | .nil => 1
  | .ptr d => uptoBulk d + 1
  | .slice elems spare => uptoBulkAll elems + uptoBulkAll spare + 1
  | .agg parts => uptoBulkAll parts + 1
  | .iface _ d => uptoBulk d + 1
  | .map entries => uptoBulkEntries entries + 1
  | .held _ => 1
def uptoBulkAll {H : Type} : List (DataW H) → Nat
  | [] => 0
  | d :: r => uptoBulk d + uptoBulkAll r
def uptoBulkEntries {H : Type} : List (Lit × DataW H) → Nat
  | [] => 0
  | x :: r => uptoBulkEntry x + uptoBulkEntries r
def uptoBulkEntry {H : Type} : Lit × DataW H → Nat
  | (.string bytes, d) => bytes.length + uptoBulk d + 1
  | (_, d) => uptoBulk d + 1
 end
def uptoSmall : (H : Type) → List (DataW H) → Bool := fun _ ds => decide (uptoBulkAll ds ≤ 1048576)
def OpenSpec.upto (s : _root_.Go.ChangeSpec) : _root_.Go.OpenSpec := { _root_.Go.OpenSpec.ofChange s with cond := some uptoSmall }

/-- 'flyoverlaw17.FilesPlays', WHERE WHAT IT READS IS OF BULK AT MOST 1048576: true; the input reads as it did. -/
def filesPlaysUptoRow : OpenClaim := { program := "ytlbkmhlpgpfafaa", sum := "26a91abe524a2405b653f7ef09cadd18ee093c9fe92498ff7bb80d1c8e344e37", func := "flyover/flyoverlaw17.FilesPlays", spec := "filesPlays", unfollowed := true, recurses := true, apart := false, narrowed := true }
def FilesPlaysUptoSaid : Prop := filesPlaysUptoRow.holds Try.pinned (OpenSpec.upto filesPlaysSpec)

/-- 'flyoverlaw17.FilesTwo', WHERE WHAT IT READS IS OF BULK AT MOST 1048576: true; the input reads as it did. -/
def filesTwoUptoRow : OpenClaim := { program := "ytlbkmhlpgpfafaa", sum := "26a91abe524a2405b653f7ef09cadd18ee093c9fe92498ff7bb80d1c8e344e37", func := "flyover/flyoverlaw17.FilesTwo", spec := "filesTwo", unfollowed := true, recurses := true, apart := false, narrowed := true }
def FilesTwoUptoSaid : Prop := filesTwoUptoRow.holds Try.pinned (OpenSpec.upto filesTwoSpec)

/-- 'flyoverlaw17.FilesTwice', WHERE WHAT IT READS IS OF BULK AT MOST 1048576: true; the input reads as it did. -/
def filesTwiceUptoRow : OpenClaim := { program := "ytlbkmhlpgpfafaa", sum := "26a91abe524a2405b653f7ef09cadd18ee093c9fe92498ff7bb80d1c8e344e37", func := "flyover/flyoverlaw17.FilesTwice", spec := "filesTwice", unfollowed := true, recurses := true, apart := false, narrowed := true }
def FilesTwiceUptoSaid : Prop := filesTwiceUptoRow.holds Try.pinned (OpenSpec.upto filesTwiceSpec)

/-- 'flyoverlaw17.FilesSafe', WHERE WHAT IT READS IS OF BULK AT MOST 1048576: true; the input reads as it did. -/
def filesSafeUptoRow : OpenClaim := { program := "ytlbkmhlpgpfafaa", sum := "26a91abe524a2405b653f7ef09cadd18ee093c9fe92498ff7bb80d1c8e344e37", func := "flyover/flyoverlaw17.FilesSafe", spec := "filesSafe", unfollowed := true, recurses := true, apart := false, narrowed := true }
def FilesSafeUptoSaid : Prop := filesSafeUptoRow.holds Try.pinned (OpenSpec.upto filesSafeSpec)

/-- 'flyoverlaw17.FilesSwap', WHERE WHAT IT READS IS OF BULK AT MOST 1048576: true; the input reads as it did. -/
def filesSwapUptoRow : OpenClaim := { program := "ytlbkmhlpgpfafaa", sum := "26a91abe524a2405b653f7ef09cadd18ee093c9fe92498ff7bb80d1c8e344e37", func := "flyover/flyoverlaw17.FilesSwap", spec := "filesSwap", unfollowed := true, recurses := true, apart := false, narrowed := true }
def FilesSwapUptoSaid : Prop := filesSwapUptoRow.holds Try.pinned (OpenSpec.upto filesSwapSpec)

end Rows
end Go.Proofs.Ytlbkmhlpgpfafaa
