/-
  Renewed by some arcs, and then by others, an overlay says what it says when renewed by all of them at once: OverlayTwice returns true for every graph, every nest and every two lists of changes, whatever the heap holds.
-/
import Derived.Test.YtaafkpojjdjphaaGreatQBA
namespace Go.Proofs.YtaafkpojjdjphaaGreat.twice
open Go.ChangeShapes Go.WideShapes Go.ChangeAt Go.RowKit
set_option maxHeartbeats 12800000 in
theorem row_holds : Rows.OverlayTwiceSaid :=
 OpenClaim.holds_of_wide 9 Tryz.f9 rfl rfl rfl rfl rfl rfl rfl ⟨rfl, rfl, rfl, rfl, rfl⟩ rfl rfl rfl rfl rfl (by as_aux_lemma => kernel_rfl) Tryz.func9 (by as_aux_lemma => kernel_rfl)
  (of_decide_eq_true (by as_aux_lemma => kernel_rfl)) (by unfold Func.isWrapper; first | (rw [if_pos (by decide +kernel)]; kernel_rfl) | (rw [if_neg (by decide +kernel)]; exact ⟨rfl, rfl⟩))
  (fun os started H enc _ => lifted os started H enc)
end Go.Proofs.YtaafkpojjdjphaaGreat.twice
namespace Go.Proofs.YtaafkpojjdjphaaGreat
theorem overlayTwice_holds : Rows.OverlayTwiceSaid := twice.row_holds
#print axioms overlayTwice_holds
end Go.Proofs.YtaafkpojjdjphaaGreat
