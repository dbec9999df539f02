/-
  Renewed by no arcs, or with weights as they were, an overlay says what it said: OverlayStays returns true for every graph, every nest and every arcs, whatever the heap holds.
-/
import Derived.Test.YtaafkpojjdjphaaGreatRows
import Derived.Test.YtaafkpojjdjphaaGreatYOwnA
import Derived.ProofKit
import Derived.OpenShut
import Derived.ChangeOld
import Derived.Below
import Derived.SizedLaws
namespace Go.Proofs.YtaafkpojjdjphaaGreat.stays
open Go.ChangeShapes Go.WideShapes Go.ChangeAt Go.RowKit
set_option maxHeartbeats 12800000 in
theorem row_holds : Rows.OverlayStaysSaid :=
  OpenClaim.holds_of_wide 10 Tryz.f10 rfl rfl rfl rfl rfl rfl rfl ⟨rfl, rfl, rfl, rfl, rfl⟩ rfl rfl rfl rfl rfl (by as_aux_lemma => kernel_rfl) Tryz.func10 (by as_aux_lemma => kernel_rfl)
    (of_decide_eq_true (by as_aux_lemma => kernel_rfl)) (by unfold Func.isWrapper; first | (rw [if_pos (by decide +kernel)]; kernel_rfl) | (rw [if_neg (by decide +kernel)]; exact ⟨rfl, rfl⟩))
    (fun os started H enc _ => lifted os started H enc)
end Go.Proofs.YtaafkpojjdjphaaGreat.stays
namespace Go.Proofs.YtaafkpojjdjphaaGreat
theorem overlayStays_holds : Rows.OverlayStaysSaid := stays.row_holds
#print axioms overlayStays_holds
end Go.Proofs.YtaafkpojjdjphaaGreat
