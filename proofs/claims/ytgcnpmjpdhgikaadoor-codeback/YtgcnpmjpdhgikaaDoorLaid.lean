/-
  What the listed variable, as the program's text lays it, gives the walks; what a number that fits its kind lies between.
-/
import Derived.Test.YtgcnpmjpdhgikaaDoorRows
import Derived.Test.YtgcnpmjpdhgikaaDoorFrame
import Derived.LaidMore
import Derived.OpenShut
namespace Go.Proofs.YtgcnpmjpdhgikaaDoor
open Go.RowKit
theorem gType : (Tryd.prog.globals[0]?).map (·.type) = some 64 := by kernel_rfl
theorem cells39 : Tryd.prog.cellsOf 39 = 1 := by kernel_rfl
theorem cells64 : Tryd.prog.cellsOf 64 = 16 := by kernel_rfl
theorem halves_data {H : Type} : (Rows.laid_flyover_code_halves : DataW H) = Lib.tabData .u32 hInts := rfl
theorem of_laid {W : World} (h : laidMetH Tryd.prog Rows.codeTornRow.laid W) : Halves W := by
  rw [MakeChecks.laidMetH_plain _ _ _ (by kernel_rfl)] at h
  exact Lib.tabIs_of_head (rest := []) gHalves gType Tryd.underlying64 Tryd.underlying39 cells39 cells64 h
theorem u64_bounds {a : Int} (w : (Lit.int .u64 a).wf = true) : 0 ≤ a ∧ a ≤ 18446744073709551615 := by
  have e1 : IntKind.u64.min = 0 := rfl
  have e2 : IntKind.u64.max = 18446744073709551615 := rfl
  simp [Lit.wf, e1, e2] at w
  exact w
theorem u8_bounds {a : Int} (w : (Lit.int .u8 a).wf = true) : 0 ≤ a ∧ a ≤ 255 := by
  have e1 : IntKind.u8.min = 0 := rfl
  have e2 : IntKind.u8.max = 255 := rfl
  simp [Lit.wf, e1, e2] at w
  exact w
end Go.Proofs.YtgcnpmjpdhgikaaDoor
