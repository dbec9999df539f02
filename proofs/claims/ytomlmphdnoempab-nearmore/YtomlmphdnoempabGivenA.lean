/-
  An arc that came in, as the walks want it.
-/
import Derived.Test.YtomlmphdnoempabGiven
namespace Go.Proofs.Ytomlmphdnoempab
open Go.RowKit
section
variable {H : Type} {enc : TypeId × Value → H} {W : World} {spare : Nat → Bool} {held : Bool}
set_option maxRecDepth 100000 in
theorem arc_in {ts : List TypeId} {ds : List (DataW H)} {j : Nat} {v : Value} {d : DataW H} {p : List MemPlace} {base : Nat} (hval : Value.okWide Try.prog W .any base 40 v) (hd : DataW.Trod enc Try.prog W 0 spare held 40 v d p)
    (_hsz : (DataW.weightsEach Try.prog ts ds).all (· ≤ reachBytes) = true) (_ht : ts[j]? = some 40) (_hj : ds[j]? = some d) : ∃ y : A, v = .agg #[.int .i64 y.f, .int .i64 y.t, .int .u32 y.w] ∧ 0 ≤ y.w ∧ y.w < 4294967296 := by
  obtain ⟨cs, rfl, _⟩ := Go.WideShapes.okWide_struct Try.underlying40 hval
  obtain ⟨fuel, hf⟩ := hd
  obtain ⟨y, hcs, hw⟩ := trod_arc hf
  refine ⟨y, ?_, hw⟩
  have : cs.toList = [.int .i64 y.f, .int .i64 y.t, .int .u32 y.w] := hcs
  rw [← Array.toArray_toList (xs := cs), this]
end
end Go.Proofs.Ytomlmphdnoempab
