/-
  What the five library variables, as the program's text lays them, give the walks: the table of powers of ten, and two errors that hold an interface value.
-/
import Derived.Test.YtcpbnmboeafloaaDoorRows
import Derived.Test.YtcpbnmboeafloaaDoorParse
import Derived.Stop.LaidErr
import Derived.LaidMore
namespace Go.Proofs.YtcpbnmboeafloaaDoor
open Go.RowKit
theorem gTab : Tryd.prog.globalNamed "internal/strconv.uint64pow10" = some 2 := by kernel_rfl
theorem gTabType : (Tryd.prog.globals[2]?).map (·.type) = some 81 := by kernel_rfl
theorem gSynType : (Tryd.prog.globals[0]?).map (·.type) = some 53 := by kernel_rfl
theorem gRanType : (Tryd.prog.globals[1]?).map (·.type) = some 53 := by kernel_rfl
theorem cells87 : Tryd.prog.cellsOf 87 = 1 := by kernel_rfl
theorem cells9 : Tryd.prog.cellsOf 9 = 1 := by kernel_rfl
theorem cells22 : Tryd.prog.cellsOf 22 = 1 := by kernel_rfl
theorem cells81 : Tryd.prog.cellsOf 81 = 20 := by kernel_rfl
theorem starName : "*" ++ "errors.errorString" = "*errors.errorString" := by decide
theorem row85 (u : TypeId) (h : Tryd.prog.typeName? 3 u = some "*errors.errorString") : u = 85 :=
  typeName_ptr_named (nm := "errors.errorString") (by rw [starName]; kernel_rfl) (by kernel_rfl) (by decide) u (by rw [starName]; exact h)
theorem pow10_data {H : Type} : (Rows.laid_internal_strconv_uint64pow10 : DataW H) = Lib.tabData .u64 Lib.pow10Tab := rfl
theorem of_laid {W : World} (h : laidMetH Tryd.prog Rows.distTextsRow.laid W) : Tab W ∧ Errs W := by
  rw [MakeChecks.laidMetH_plain _ _ _ (by kernel_rfl)] at h
  have h3 := h.tail.tail
  have h4 := h3.tail
  have h5 := h4.tail
  refine ⟨?_, ?_, ?_⟩
  · exact Lib.tabIs_of_head (rest := Rows.distTextsRow.laid.drop 3) gTab gTabType Tryd.underlying81 Tryd.underlying22 cells22 cells81 h3
  · obtain ⟨a, s, hv, -, -, -⟩ := laid_sentinel h5 gSyn gSynType Tryd.underlying53 row85 Tryd.underlying85 Tryd.underlying87 rfl rfl Tryd.underlying9 cells87 cells9
    exact ⟨_, _, hv⟩
  · obtain ⟨a, s, hv, -, -, -⟩ := laid_sentinel h4 gRan gRanType Tryd.underlying53 row85 Tryd.underlying85 Tryd.underlying87 rfl rfl Tryd.underlying9 cells87 cells9
    exact ⟨_, _, hv⟩
end Go.Proofs.YtcpbnmboeafloaaDoor
