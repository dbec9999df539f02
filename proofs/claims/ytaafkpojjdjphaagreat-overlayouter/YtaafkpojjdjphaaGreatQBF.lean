/-
  A change of arcs between cells of the last level alone makes no matrix stale: OverlayOuter returns true for every graph, every nest and every weight, whatever the heap holds.
-/
import Derived.Test.YtaafkpojjdjphaaGreatQBE
namespace Go.Proofs.YtaafkpojjdjphaaGreat.outer
open Go.ChangeShapes Go.WideShapes Go.ChangeAt Go.RowKit
set_option maxHeartbeats 12800000 in
theorem row_holds : Rows.OverlayOuterSaid :=
 OpenClaim.holds_of_wide 8 Tryz.f8 rfl rfl rfl rfl rfl rfl rfl ⟨rfl, rfl, rfl, rfl, rfl⟩ rfl rfl rfl rfl rfl (by as_aux_lemma => kernel_rfl) Tryz.func8 (by as_aux_lemma => kernel_rfl)
  (of_decide_eq_true (by as_aux_lemma => kernel_rfl)) (by unfold Func.isWrapper; first | (rw [if_pos (by decide +kernel)]; kernel_rfl) | (rw [if_neg (by decide +kernel)]; exact ⟨rfl, rfl⟩))
  (fun os started H enc _ => lifted os started H enc)
end Go.Proofs.YtaafkpojjdjphaaGreat.outer
namespace Go.Proofs.YtaafkpojjdjphaaGreat
theorem overlayOuter_holds : Rows.OverlayOuterSaid := outer.row_holds
#print axioms overlayOuter_holds
end Go.Proofs.YtaafkpojjdjphaaGreat
