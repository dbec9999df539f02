/-
  What the listed variable, as the program's text lays it, gives the walks; what a number that fits its kind lies between.
-/
import Derived.Test.YtgcnpmjpdhgikabDoorRows
import Derived.Test.YtgcnpmjpdhgikabDoorFrame
import Derived.LaidMore
import Derived.OpenShut
namespace Go.Proofs.YtgcnpmjpdhgikabDoor
open Go.RowKit
theorem gType : (Tryd.prog.globals[0]?).map (·.type) = some 46 := by kernel_rfl
theorem cells36 : Tryd.prog.cellsOf 36 = 1 := by kernel_rfl
theorem cells46 : Tryd.prog.cellsOf 46 = 16 := by kernel_rfl
theorem halves_data {H : Type} : (Rows.laid_flyover_code_halves : DataW H) = Lib.tabData .u32 hInts := rfl
theorem of_laid {W : World} (h : laidMetH Tryd.prog Rows.codeSumsRow.laid W) : Halves W := by
  rw [MakeChecks.laidMetH_plain _ _ _ (by kernel_rfl)] at h
  exact Lib.tabIs_of_head (rest := []) gHalves gType Tryd.underlying46 Tryd.underlying36 cells36 cells46 h
theorem u64_bounds {a : Int} (w : (Lit.int .u64 a).wf = true) : 0 ≤ a ∧ a ≤ 18446744073709551615 := by
  have e1 : IntKind.u64.min = 0 := rfl
  have e2 : IntKind.u64.max = 18446744073709551615 := rfl
  simp [Lit.wf, e1, e2] at w
  exact w
theorem u8_bounds {a : Int} (w : (Lit.int .u8 a).wf = true) : 0 ≤ a ∧ a ≤ 255 := by
  have e1 : IntKind.u8.min = 0 := rfl
  have e2 : IntKind.u8.max = 255 := rfl
  simp [Lit.wf, e1, e2] at w
  exact w
end Go.Proofs.YtgcnpmjpdhgikabDoor
