/-
  Contracts of the book's SameInts and SameGraph, at the same ones: true.
-/
import Derived.Test.YtomlmphdnoempabReverse
import Derived.Laws.StructEq
namespace Go.Proofs.Ytomlmphdnoempab
open Go.RowKit
theorem below_drewN (B : Nat) (w : World) (n : Nat) : Below B w (w.drewN n) := ⟨rfl, rfl, rfl, Nat.le_refl _, fun _ _ => rfl⟩
end Go.Proofs.Ytomlmphdnoempab
