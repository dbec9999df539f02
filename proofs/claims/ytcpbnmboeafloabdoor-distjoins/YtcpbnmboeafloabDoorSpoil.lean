/-
  Contracts of the book's SpoilDists and KeptDists: the first writes a mark into all room of a list of one's own; the second tells whether a lent list is as it was.
-/
import Derived.Test.YtcpbnmboeafloabDoorLend
import Derived.Test.YtcpbnmboeafloabDoorSame
namespace Go.Proofs.YtcpbnmboeafloabDoor
open Go.RowKit
/-- What a lent list's room holds. -/
theorem lent_cells {w : World} {B g c : Nat} {l : List Int} (hown : w.ownsRow B 29 1 (.slice (some ⟨g, 0, none⟩) (l.length + 1) c) (l.length + 1) (cellsD l ++ [.int .u64 77])) :
    (∀ j, j < l.length → w.cell? ⟨g, 0 + j, none⟩ = some (.int .u64 (l.getD j 0))) ∧ w.cell? ⟨g, l.length, none⟩ = some (.int .u64 77) := by
  constructor
  · intro j hj
    rw [Nat.zero_add, hown.cellAt j (by omega), List.getElem?_append_left (by rw [cellsD_len]; exact hj)]
    unfold cellsD
    simp [List.getD, List.getElem?_eq_getElem hj]
  · rw [hown.cellAt l.length (by omega), List.getElem?_append_right (by rw [cellsD_len]; exact Nat.le_refl _), cellsD_len, Nat.sub_self]
    rfl
end Go.Proofs.YtcpbnmboeafloabDoor
