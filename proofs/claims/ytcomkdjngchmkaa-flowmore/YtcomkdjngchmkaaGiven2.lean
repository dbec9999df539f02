/-
  Two nodes, an edge and a number that came in, as the walks want them.
-/
import Derived.Test.YtcomkdjngchmkaaGiven
namespace Go.Proofs.Ytcomkdjngchmkaa
open Go.RowKit
theorem cells54 : Try.prog.cellsOf 54 = 4 := by kernel_rfl
section
variable {H : Type} {enc : TypeId × Value → H} {W : World} {spare : Nat → Bool} {held : Bool}
set_option maxRecDepth 100000 in
theorem trod_raise {fuel : Nat} {cs : List Value} {x : DataW H × List MemPlace} (h : DataW.trod enc Try.prog W 0 spare held fuel 54 cs = some x) :
    ∃ s t e m : Int, cs = [.int .i64 s, .int .i64 t, .int .i64 e, .int .u32 m] ∧ 0 ≤ m ∧ m < 4294967296 := by
  obtain ⟨xs, n, _, rfl, hl, hlen, hf⟩ := DataW.trod_struct Try.underlying54 h
  rw [cells54] at hl
  match cs, hl with
  | [c0, c1, c2, c3], _ =>
    match xs, hlen with
    | [y0, y1, y2, y3], _ =>
      have f0 := hf 0 _ rfl
      have f1 := hf 1 _ rfl
      have f2 := hf 2 _ rfl
      have f3 := hf 3 _ rfl
      simp [cells3, cells50] at f0 f1 f2 f3
      obtain ⟨k, e0, _⟩ := DataW.trod_int Try.underlying3 f0
      obtain ⟨u, e1, _⟩ := DataW.trod_int Try.underlying3 f1
      obtain ⟨v, e2, _⟩ := DataW.trod_int Try.underlying3 f2
      obtain ⟨s, e3, _, hwf⟩ := DataW.trod_int Try.underlying50 f3
      simp at e0 e1 e2 e3
      subst e0 e1 e2 e3
      have h1 : IntKind.u32.min ≤ s ∧ s ≤ IntKind.u32.max := by simpa [Lit.wf] using hwf
      have m1 : IntKind.u32.min = 0 := by decide
      have m2 : IntKind.u32.max = 4294967295 := by decide
      exact ⟨k, u, v, s, rfl, by omega, by omega⟩
set_option maxRecDepth 100000 in
theorem raise_in {ts : List TypeId} {ds : List (DataW H)} {j : Nat} {v : Value} {d : DataW H} {p : List MemPlace} {base : Nat} (hval : Value.okWide Try.prog W .any base 54 v) (hd : DataW.Trod enc Try.prog W 0 spare held 54 v d p)
    (_hsz : (DataW.weightsEach Try.prog ts ds).all (· ≤ reachBytes) = true) (_ht : ts[j]? = some 54) (_hj : ds[j]? = some d) : ∃ s t e m : Int, v = .agg #[.int .i64 s, .int .i64 t, .int .i64 e, .int .u32 m] ∧ 0 ≤ m ∧ m < 4294967296 := by
  obtain ⟨cs, rfl, _⟩ := Go.WideShapes.okWide_struct Try.underlying54 hval
  obtain ⟨fuel, hf⟩ := hd
  obtain ⟨s, t, e, m, hcs, hw⟩ := trod_raise hf
  refine ⟨s, t, e, m, ?_, hw⟩
  have : cs.toList = [.int .i64 s, .int .i64 t, .int .i64 e, .int .u32 m] := hcs
  rw [← Array.toArray_toList (xs := cs), this]
end
end Go.Proofs.Ytcomkdjngchmkaa
