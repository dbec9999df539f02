/-
  No cell of these rows narrows 'for every input' (looked for: loops, veiled, ifaces, maps, wideKeys, modest, calm, conditions, laid).
  DERIVED. THE GIVEN ROWS OF THIS SEAT. 12 by the template 'for every input the law returns true; each argument reads behind the call as it read before'; 0 by the template 'total and deterministic' (their statements: YtaafkpojjdjphaaGreatTotals.lean).
  GIVEN WITH THE SEED: the statements are not yours to turn. If you find one false, say at which input.
  Laid BY PROGRAM, IN A SANDBOX (cutbox-rows.mjs): the forced cells as the released guide's own fill.sh prints them over the translation 2d54f87b3bfe34e2… (all of the seat's roots in one cut). By AI agents, Wed Nov 11 2026. No macro, syntax, notation, axiom, sorry.
-/
import Derived.Test.YtaafkpojjdjphaaGreatChecked
import GoSem.Claim
import GoSem.ClaimJoined
import GoSem.ClaimMapViews
import Derived.JoinedTies
import Derived.KernelRfl
namespace Go.Proofs.YtaafkpojjdjphaaGreat
/- THE CELL 'sum', in the pinned program and in every row, IS THE sha256 OF THE DUMP (.gsa) THAT YtaafkpojjdjphaaGreatProg.lean LOADS. Nothing in Lean hashes anything: it is a label: what it is worth is what the hold of that sum in a sandbox is worth. -/
noncomputable def Tryz.pinned : Pinned := { name := "ytaafkpojjdjphaagreat", sum := "2d54f87b3bfe34e2584df63a074715dd7ca632738a9ab133ec110995c39d336e", checked := Tryz.checked }
namespace Rows
def none {H : Type} : Left H := { results := [], args := [] }

/-- 'flyoverlaw13.CliqueUps': WHATEVER THE INPUT: true; the input reads as it did. -/
def cliqueUpsSpec : ChangeSpec := { name := "cliqueUps", fn := fun _ => fun
  | [d1, d2, d3] => { results := [.lit (.bool true)], args := [d1, d2, d3] }
  | _ => none }
def cliqueUpsRow : OpenClaim := { program := "ytaafkpojjdjphaagreat", sum := "2d54f87b3bfe34e2584df63a074715dd7ca632738a9ab133ec110995c39d336e", func := "flyover/flyoverlaw13.CliqueUps", spec := "cliqueUps", unfollowed := true, recurses := true, apart := false }
def CliqueUpsSaid : Prop := cliqueUpsRow.holds Tryz.pinned (OpenSpec.ofChange cliqueUpsSpec)

/-- ITS FALSE NEIGHBOUR: 'it returns false'. Refute it at one input. -/
def cliqueUpsWrong : ChangeSpec := { name := "cliqueUps", fn := fun _ => fun
  | [d1, d2, d3] => { results := [.lit (.bool false)], args := [d1, d2, d3] }
  | _ => none }
def CliqueUpsWrongFalsely : Prop := cliqueUpsRow.holds Tryz.pinned (OpenSpec.ofChange cliqueUpsWrong)

/-- 'flyoverlaw13.CliqueRises': WHATEVER THE INPUT: true; the input reads as it did. -/
def cliqueRisesSpec : ChangeSpec := { name := "cliqueRises", fn := fun _ => fun
  | [d1, d2] => { results := [.lit (.bool true)], args := [d1, d2] }
  | _ => none }
def cliqueRisesRow : OpenClaim := { program := "ytaafkpojjdjphaagreat", sum := "2d54f87b3bfe34e2584df63a074715dd7ca632738a9ab133ec110995c39d336e", func := "flyover/flyoverlaw13.CliqueRises", spec := "cliqueRises", unfollowed := true, recurses := true, apart := false }
def CliqueRisesSaid : Prop := cliqueRisesRow.holds Tryz.pinned (OpenSpec.ofChange cliqueRisesSpec)

/-- ITS FALSE NEIGHBOUR: 'it returns false'. Refute it at one input. -/
def cliqueRisesWrong : ChangeSpec := { name := "cliqueRises", fn := fun _ => fun
  | [d1, d2] => { results := [.lit (.bool false)], args := [d1, d2] }
  | _ => none }
def CliqueRisesWrongFalsely : Prop := cliqueRisesRow.holds Tryz.pinned (OpenSpec.ofChange cliqueRisesWrong)

/-- 'flyoverlaw14.OverlayAlls': WHATEVER THE INPUT: true; the input reads as it did. -/
def overlayAllsSpec : ChangeSpec := { name := "overlayAlls", fn := fun _ => fun
  | [d1, d2, d3] => { results := [.lit (.bool true)], args := [d1, d2, d3] }
  | _ => none }
def overlayAllsRow : OpenClaim := { program := "ytaafkpojjdjphaagreat", sum := "2d54f87b3bfe34e2584df63a074715dd7ca632738a9ab133ec110995c39d336e", func := "flyover/flyoverlaw14.OverlayAlls", spec := "overlayAlls", unfollowed := true, recurses := true, apart := false }
def OverlayAllsSaid : Prop := overlayAllsRow.holds Tryz.pinned (OpenSpec.ofChange overlayAllsSpec)

/-- ITS FALSE NEIGHBOUR: 'it returns false'. Refute it at one input. -/
def overlayAllsWrong : ChangeSpec := { name := "overlayAlls", fn := fun _ => fun
  | [d1, d2, d3] => { results := [.lit (.bool false)], args := [d1, d2, d3] }
  | _ => none }
def OverlayAllsWrongFalsely : Prop := overlayAllsRow.holds Tryz.pinned (OpenSpec.ofChange overlayAllsWrong)

/-- 'flyoverlaw14.OverlayRenews': WHATEVER THE INPUT: true; the input reads as it did. -/
def overlayRenewsSpec : ChangeSpec := { name := "overlayRenews", fn := fun _ => fun
  | [d1, d2, d3] => { results := [.lit (.bool true)], args := [d1, d2, d3] }
  | _ => none }
def overlayRenewsRow : OpenClaim := { program := "ytaafkpojjdjphaagreat", sum := "2d54f87b3bfe34e2584df63a074715dd7ca632738a9ab133ec110995c39d336e", func := "flyover/flyoverlaw14.OverlayRenews", spec := "overlayRenews", unfollowed := true, recurses := true, apart := false }
def OverlayRenewsSaid : Prop := overlayRenewsRow.holds Tryz.pinned (OpenSpec.ofChange overlayRenewsSpec)

/-- ITS FALSE NEIGHBOUR: 'it returns false'. Refute it at one input. -/
def overlayRenewsWrong : ChangeSpec := { name := "overlayRenews", fn := fun _ => fun
  | [d1, d2, d3] => { results := [.lit (.bool false)], args := [d1, d2, d3] }
  | _ => none }
def OverlayRenewsWrongFalsely : Prop := overlayRenewsRow.holds Tryz.pinned (OpenSpec.ofChange overlayRenewsWrong)

/-- 'flyoverlaw14.OverlayHolds': WHATEVER THE INPUT: true; the input reads as it did. -/
def overlayHoldsSpec : ChangeSpec := { name := "overlayHolds", fn := fun _ => fun
  | [d1, d2, d3] => { results := [.lit (.bool true)], args := [d1, d2, d3] }
  | _ => none }
def overlayHoldsRow : OpenClaim := { program := "ytaafkpojjdjphaagreat", sum := "2d54f87b3bfe34e2584df63a074715dd7ca632738a9ab133ec110995c39d336e", func := "flyover/flyoverlaw14.OverlayHolds", spec := "overlayHolds", unfollowed := true, recurses := true, apart := false }
def OverlayHoldsSaid : Prop := overlayHoldsRow.holds Tryz.pinned (OpenSpec.ofChange overlayHoldsSpec)

/-- ITS FALSE NEIGHBOUR: 'it returns false'. Refute it at one input. -/
def overlayHoldsWrong : ChangeSpec := { name := "overlayHolds", fn := fun _ => fun
  | [d1, d2, d3] => { results := [.lit (.bool false)], args := [d1, d2, d3] }
  | _ => none }
def OverlayHoldsWrongFalsely : Prop := overlayHoldsRow.holds Tryz.pinned (OpenSpec.ofChange overlayHoldsWrong)

/-- 'flyoverlaw14.OverlayOuter': WHATEVER THE INPUT: true; the input reads as it did. -/
def overlayOuterSpec : ChangeSpec := { name := "overlayOuter", fn := fun _ => fun
  | [d1, d2, d3] => { results := [.lit (.bool true)], args := [d1, d2, d3] }
  | _ => none }
def overlayOuterRow : OpenClaim := { program := "ytaafkpojjdjphaagreat", sum := "2d54f87b3bfe34e2584df63a074715dd7ca632738a9ab133ec110995c39d336e", func := "flyover/flyoverlaw14.OverlayOuter", spec := "overlayOuter", unfollowed := true, recurses := true, apart := false }
def OverlayOuterSaid : Prop := overlayOuterRow.holds Tryz.pinned (OpenSpec.ofChange overlayOuterSpec)

/-- ITS FALSE NEIGHBOUR: 'it returns false'. Refute it at one input. -/
def overlayOuterWrong : ChangeSpec := { name := "overlayOuter", fn := fun _ => fun
  | [d1, d2, d3] => { results := [.lit (.bool false)], args := [d1, d2, d3] }
  | _ => none }
def OverlayOuterWrongFalsely : Prop := overlayOuterRow.holds Tryz.pinned (OpenSpec.ofChange overlayOuterWrong)

/-- 'flyoverlaw14.OverlayTwice': WHATEVER THE INPUT: true; the input reads as it did. -/
def overlayTwiceSpec : ChangeSpec := { name := "overlayTwice", fn := fun _ => fun
  | [d1, d2, d3] => { results := [.lit (.bool true)], args := [d1, d2, d3] }
  | _ => none }
def overlayTwiceRow : OpenClaim := { program := "ytaafkpojjdjphaagreat", sum := "2d54f87b3bfe34e2584df63a074715dd7ca632738a9ab133ec110995c39d336e", func := "flyover/flyoverlaw14.OverlayTwice", spec := "overlayTwice", unfollowed := true, recurses := true, apart := false }
def OverlayTwiceSaid : Prop := overlayTwiceRow.holds Tryz.pinned (OpenSpec.ofChange overlayTwiceSpec)

/-- ITS FALSE NEIGHBOUR: 'it returns false'. Refute it at one input. -/
def overlayTwiceWrong : ChangeSpec := { name := "overlayTwice", fn := fun _ => fun
  | [d1, d2, d3] => { results := [.lit (.bool false)], args := [d1, d2, d3] }
  | _ => none }
def OverlayTwiceWrongFalsely : Prop := overlayTwiceRow.holds Tryz.pinned (OpenSpec.ofChange overlayTwiceWrong)

/-- 'flyoverlaw14.OverlayStays': WHATEVER THE INPUT: true; the input reads as it did. -/
def overlayStaysSpec : ChangeSpec := { name := "overlayStays", fn := fun _ => fun
  | [d1, d2, d3] => { results := [.lit (.bool true)], args := [d1, d2, d3] }
  | _ => none }
def overlayStaysRow : OpenClaim := { program := "ytaafkpojjdjphaagreat", sum := "2d54f87b3bfe34e2584df63a074715dd7ca632738a9ab133ec110995c39d336e", func := "flyover/flyoverlaw14.OverlayStays", spec := "overlayStays", unfollowed := true, recurses := true, apart := false }
def OverlayStaysSaid : Prop := overlayStaysRow.holds Tryz.pinned (OpenSpec.ofChange overlayStaysSpec)

/-- ITS FALSE NEIGHBOUR: 'it returns false'. Refute it at one input. -/
def overlayStaysWrong : ChangeSpec := { name := "overlayStays", fn := fun _ => fun
  | [d1, d2, d3] => { results := [.lit (.bool false)], args := [d1, d2, d3] }
  | _ => none }
def OverlayStaysWrongFalsely : Prop := overlayStaysRow.holds Tryz.pinned (OpenSpec.ofChange overlayStaysWrong)

/-- 'flyoverlaw15.QueryDists': WHATEVER THE INPUT: true; the input reads as it did. -/
def queryDistsSpec : ChangeSpec := { name := "queryDists", fn := fun _ => fun
  | [d1, d2, d3] => { results := [.lit (.bool true)], args := [d1, d2, d3] }
  | _ => none }
def queryDistsRow : OpenClaim := { program := "ytaafkpojjdjphaagreat", sum := "2d54f87b3bfe34e2584df63a074715dd7ca632738a9ab133ec110995c39d336e", func := "flyover/flyoverlaw15.QueryDists", spec := "queryDists", unfollowed := true, recurses := true, apart := false }
def QueryDistsSaid : Prop := queryDistsRow.holds Tryz.pinned (OpenSpec.ofChange queryDistsSpec)

/-- ITS FALSE NEIGHBOUR: 'it returns false'. Refute it at one input. -/
def queryDistsWrong : ChangeSpec := { name := "queryDists", fn := fun _ => fun
  | [d1, d2, d3] => { results := [.lit (.bool false)], args := [d1, d2, d3] }
  | _ => none }
def QueryDistsWrongFalsely : Prop := queryDistsRow.holds Tryz.pinned (OpenSpec.ofChange queryDistsWrong)

/-- 'flyoverlaw15.QuerySame': WHATEVER THE INPUT: true; the input reads as it did. -/
def querySameSpec : ChangeSpec := { name := "querySame", fn := fun _ => fun
  | [d1, d2, d3] => { results := [.lit (.bool true)], args := [d1, d2, d3] }
  | _ => none }
def querySameRow : OpenClaim := { program := "ytaafkpojjdjphaagreat", sum := "2d54f87b3bfe34e2584df63a074715dd7ca632738a9ab133ec110995c39d336e", func := "flyover/flyoverlaw15.QuerySame", spec := "querySame", unfollowed := true, recurses := true, apart := false }
def QuerySameSaid : Prop := querySameRow.holds Tryz.pinned (OpenSpec.ofChange querySameSpec)

/-- ITS FALSE NEIGHBOUR: 'it returns false'. Refute it at one input. -/
def querySameWrong : ChangeSpec := { name := "querySame", fn := fun _ => fun
  | [d1, d2, d3] => { results := [.lit (.bool false)], args := [d1, d2, d3] }
  | _ => none }
def QuerySameWrongFalsely : Prop := querySameRow.holds Tryz.pinned (OpenSpec.ofChange querySameWrong)

/-- 'flyoverlaw15.QueryOuter': WHATEVER THE INPUT: true; the input reads as it did. -/
def queryOuterSpec : ChangeSpec := { name := "queryOuter", fn := fun _ => fun
  | [d1, d2, d3] => { results := [.lit (.bool true)], args := [d1, d2, d3] }
  | _ => none }
def queryOuterRow : OpenClaim := { program := "ytaafkpojjdjphaagreat", sum := "2d54f87b3bfe34e2584df63a074715dd7ca632738a9ab133ec110995c39d336e", func := "flyover/flyoverlaw15.QueryOuter", spec := "queryOuter", unfollowed := true, recurses := true, apart := false }
def QueryOuterSaid : Prop := queryOuterRow.holds Tryz.pinned (OpenSpec.ofChange queryOuterSpec)

/-- ITS FALSE NEIGHBOUR: 'it returns false'. Refute it at one input. -/
def queryOuterWrong : ChangeSpec := { name := "queryOuter", fn := fun _ => fun
  | [d1, d2, d3] => { results := [.lit (.bool false)], args := [d1, d2, d3] }
  | _ => none }
def QueryOuterWrongFalsely : Prop := queryOuterRow.holds Tryz.pinned (OpenSpec.ofChange queryOuterWrong)

/-- 'flyoverlaw15.QueryTriangle': WHATEVER THE INPUT: true; the input reads as it did. -/
def queryTriangleSpec : ChangeSpec := { name := "queryTriangle", fn := fun _ => fun
  | [d1, d2, d3] => { results := [.lit (.bool true)], args := [d1, d2, d3] }
  | _ => none }
def queryTriangleRow : OpenClaim := { program := "ytaafkpojjdjphaagreat", sum := "2d54f87b3bfe34e2584df63a074715dd7ca632738a9ab133ec110995c39d336e", func := "flyover/flyoverlaw15.QueryTriangle", spec := "queryTriangle", unfollowed := true, recurses := true, apart := false }
def QueryTriangleSaid : Prop := queryTriangleRow.holds Tryz.pinned (OpenSpec.ofChange queryTriangleSpec)

/-- ITS FALSE NEIGHBOUR: 'it returns false'. Refute it at one input. -/
def queryTriangleWrong : ChangeSpec := { name := "queryTriangle", fn := fun _ => fun
  | [d1, d2, d3] => { results := [.lit (.bool false)], args := [d1, d2, d3] }
  | _ => none }
def QueryTriangleWrongFalsely : Prop := queryTriangleRow.holds Tryz.pinned (OpenSpec.ofChange queryTriangleWrong)

/- THE SECOND FORM. 'bulk': how many values and letters a reading holds, each counted each time it is reached (what is shared counts as often as it is met; a slice's spare places count too). A statement '..UptoSaid' is the law's where the arguments, and the package variables that the reading takes, are together of bulk at most 1048576: NARROWER than '..Said'. Prove '..Said' where nothing that the law and all that it calls make is longer than what came in: it says more and counts as full. Else prove '..UptoSaid'. A law counts once. -/
mutual
def uptoBulk {H : Type} : DataW H → Nat
  | .lit (.string bytes) => bytes.length + 1
  | .lit _ => 1
  | .nil => 1
  | .ptr d => uptoBulk d + 1
  | .slice elems spare => uptoBulkAll elems + uptoBulkAll spare + 1
  | .agg parts => uptoBulkAll parts + 1
  | .iface _ d => uptoBulk d + 1
  | .map entries => uptoBulkEntries entries + 1
  | .held _ => 1
def uptoBulkAll {H : Type} : List (DataW H) → Nat
  | [] => 0
  | d :: r => uptoBulk d + uptoBulkAll r
def uptoBulkEntries {H : Type} : List (Lit × DataW H) → Nat
  | [] => 0
  | x :: r => uptoBulkEntry x + uptoBulkEntries r
def uptoBulkEntry {H : Type} : Lit × DataW H → Nat
  | (.string bytes, d) => bytes.length + uptoBulk d + 1
  | (_, d) => uptoBulk d + 1
 end
def uptoSmall : (H : Type) → List (DataW H) → Bool := fun _ ds => decide (uptoBulkAll ds ≤ 1048576)
def OpenSpec.upto (s : _root_.Go.ChangeSpec) : _root_.Go.OpenSpec := { _root_.Go.OpenSpec.ofChange s with cond := some uptoSmall }

/-- 'flyoverlaw13.CliqueUps', WHERE WHAT IT READS IS OF BULK AT MOST 1048576: true; the input reads as it did. -/
def cliqueUpsUptoRow : OpenClaim := { program := "ytaafkpojjdjphaagreat", sum := "2d54f87b3bfe34e2584df63a074715dd7ca632738a9ab133ec110995c39d336e", func := "flyover/flyoverlaw13.CliqueUps", spec := "cliqueUps", unfollowed := true, recurses := true, apart := false, narrowed := true }
def CliqueUpsUptoSaid : Prop := cliqueUpsUptoRow.holds Tryz.pinned (OpenSpec.upto cliqueUpsSpec)

/-- 'flyoverlaw13.CliqueRises', WHERE WHAT IT READS IS OF BULK AT MOST 1048576: true; the input reads as it did. -/
def cliqueRisesUptoRow : OpenClaim := { program := "ytaafkpojjdjphaagreat", sum := "2d54f87b3bfe34e2584df63a074715dd7ca632738a9ab133ec110995c39d336e", func := "flyover/flyoverlaw13.CliqueRises", spec := "cliqueRises", unfollowed := true, recurses := true, apart := false, narrowed := true }
def CliqueRisesUptoSaid : Prop := cliqueRisesUptoRow.holds Tryz.pinned (OpenSpec.upto cliqueRisesSpec)

/-- 'flyoverlaw14.OverlayAlls', WHERE WHAT IT READS IS OF BULK AT MOST 1048576: true; the input reads as it did. -/
def overlayAllsUptoRow : OpenClaim := { program := "ytaafkpojjdjphaagreat", sum := "2d54f87b3bfe34e2584df63a074715dd7ca632738a9ab133ec110995c39d336e", func := "flyover/flyoverlaw14.OverlayAlls", spec := "overlayAlls", unfollowed := true, recurses := true, apart := false, narrowed := true }
def OverlayAllsUptoSaid : Prop := overlayAllsUptoRow.holds Tryz.pinned (OpenSpec.upto overlayAllsSpec)

/-- 'flyoverlaw14.OverlayRenews', WHERE WHAT IT READS IS OF BULK AT MOST 1048576: true; the input reads as it did. -/
def overlayRenewsUptoRow : OpenClaim := { program := "ytaafkpojjdjphaagreat", sum := "2d54f87b3bfe34e2584df63a074715dd7ca632738a9ab133ec110995c39d336e", func := "flyover/flyoverlaw14.OverlayRenews", spec := "overlayRenews", unfollowed := true, recurses := true, apart := false, narrowed := true }
def OverlayRenewsUptoSaid : Prop := overlayRenewsUptoRow.holds Tryz.pinned (OpenSpec.upto overlayRenewsSpec)

/-- 'flyoverlaw14.OverlayHolds', WHERE WHAT IT READS IS OF BULK AT MOST 1048576: true; the input reads as it did. -/
def overlayHoldsUptoRow : OpenClaim := { program := "ytaafkpojjdjphaagreat", sum := "2d54f87b3bfe34e2584df63a074715dd7ca632738a9ab133ec110995c39d336e", func := "flyover/flyoverlaw14.OverlayHolds", spec := "overlayHolds", unfollowed := true, recurses := true, apart := false, narrowed := true }
def OverlayHoldsUptoSaid : Prop := overlayHoldsUptoRow.holds Tryz.pinned (OpenSpec.upto overlayHoldsSpec)

/-- 'flyoverlaw14.OverlayOuter', WHERE WHAT IT READS IS OF BULK AT MOST 1048576: true; the input reads as it did. -/
def overlayOuterUptoRow : OpenClaim := { program := "ytaafkpojjdjphaagreat", sum := "2d54f87b3bfe34e2584df63a074715dd7ca632738a9ab133ec110995c39d336e", func := "flyover/flyoverlaw14.OverlayOuter", spec := "overlayOuter", unfollowed := true, recurses := true, apart := false, narrowed := true }
def OverlayOuterUptoSaid : Prop := overlayOuterUptoRow.holds Tryz.pinned (OpenSpec.upto overlayOuterSpec)

/-- 'flyoverlaw14.OverlayTwice', WHERE WHAT IT READS IS OF BULK AT MOST 1048576: true; the input reads as it did. -/
def overlayTwiceUptoRow : OpenClaim := { program := "ytaafkpojjdjphaagreat", sum := "2d54f87b3bfe34e2584df63a074715dd7ca632738a9ab133ec110995c39d336e", func := "flyover/flyoverlaw14.OverlayTwice", spec := "overlayTwice", unfollowed := true, recurses := true, apart := false, narrowed := true }
def OverlayTwiceUptoSaid : Prop := overlayTwiceUptoRow.holds Tryz.pinned (OpenSpec.upto overlayTwiceSpec)

/-- 'flyoverlaw14.OverlayStays', WHERE WHAT IT READS IS OF BULK AT MOST 1048576: true; the input reads as it did. -/
def overlayStaysUptoRow : OpenClaim := { program := "ytaafkpojjdjphaagreat", sum := "2d54f87b3bfe34e2584df63a074715dd7ca632738a9ab133ec110995c39d336e", func := "flyover/flyoverlaw14.OverlayStays", spec := "overlayStays", unfollowed := true, recurses := true, apart := false, narrowed := true }
def OverlayStaysUptoSaid : Prop := overlayStaysUptoRow.holds Tryz.pinned (OpenSpec.upto overlayStaysSpec)

/-- 'flyoverlaw15.QueryDists', WHERE WHAT IT READS IS OF BULK AT MOST 1048576: true; the input reads as it did. -/
def queryDistsUptoRow : OpenClaim := { program := "ytaafkpojjdjphaagreat", sum := "2d54f87b3bfe34e2584df63a074715dd7ca632738a9ab133ec110995c39d336e", func := "flyover/flyoverlaw15.QueryDists", spec := "queryDists", unfollowed := true, recurses := true, apart := false, narrowed := true }
def QueryDistsUptoSaid : Prop := queryDistsUptoRow.holds Tryz.pinned (OpenSpec.upto queryDistsSpec)

/-- 'flyoverlaw15.QuerySame', WHERE WHAT IT READS IS OF BULK AT MOST 1048576: true; the input reads as it did. -/
def querySameUptoRow : OpenClaim := { program := "ytaafkpojjdjphaagreat", sum := "2d54f87b3bfe34e2584df63a074715dd7ca632738a9ab133ec110995c39d336e", func := "flyover/flyoverlaw15.QuerySame", spec := "querySame", unfollowed := true, recurses := true, apart := false, narrowed := true }
def QuerySameUptoSaid : Prop := querySameUptoRow.holds Tryz.pinned (OpenSpec.upto querySameSpec)

/-- 'flyoverlaw15.QueryOuter', WHERE WHAT IT READS IS OF BULK AT MOST 1048576: true; the input reads as it did. -/
def queryOuterUptoRow : OpenClaim := { program := "ytaafkpojjdjphaagreat", sum := "2d54f87b3bfe34e2584df63a074715dd7ca632738a9ab133ec110995c39d336e", func := "flyover/flyoverlaw15.QueryOuter", spec := "queryOuter", unfollowed := true, recurses := true, apart := false, narrowed := true }
def QueryOuterUptoSaid : Prop := queryOuterUptoRow.holds Tryz.pinned (OpenSpec.upto queryOuterSpec)

/-- 'flyoverlaw15.QueryTriangle', WHERE WHAT IT READS IS OF BULK AT MOST 1048576: true; the input reads as it did. -/
def queryTriangleUptoRow : OpenClaim := { program := "ytaafkpojjdjphaagreat", sum := "2d54f87b3bfe34e2584df63a074715dd7ca632738a9ab133ec110995c39d336e", func := "flyover/flyoverlaw15.QueryTriangle", spec := "queryTriangle", unfollowed := true, recurses := true, apart := false, narrowed := true }
def QueryTriangleUptoSaid : Prop := queryTriangleUptoRow.holds Tryz.pinned (OpenSpec.upto queryTriangleSpec)

end Rows
end Go.Proofs.YtaafkpojjdjphaaGreat
