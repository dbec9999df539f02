/-
  A level and arcs, and a level, a cell and a vertex, that came in, as the walks want them.
-/
import Derived.Test.YtpmjbeiclmllmaaGivenN
namespace Go.Proofs.Ytpmjbeiclmllmaa
open Go.RowKit
open Go.Deep (open_slice choose_lt)
theorem cells46 : Try.prog.cellsOf 46 = 2 := by kernel_rfl
theorem cells30 : Try.prog.cellsOf 30 = 3 := by kernel_rfl
section
variable {H : Type} {enc : TypeId × Value → H} {W : World} {spare : Nat → Bool} {held : Bool}
/-- What the walks are told of a level and arcs that came in. -/
def GivenS (W : World) (v : Value) (lv : Int) (da : Option Addr) (ds : List Int) (dc : Nat) : Prop :=
  v = .agg #[.int .i64 lv, .slice da ds.length dc] ∧ Ints W da ds ∧ (da = none → ds = [] ∧ dc = 0) ∧ ds.length ≤ dc ∧ dc ≤ 9223372036854775807 ∧ ds.length * 8 ≤ 140737488351232
theorem some_weights (d e : DataW H) : (DataW.agg [d, e]).weights Try.prog 46 = d.weights Try.prog 3 ++ (e.weights Try.prog 25 ++ []) := by
  rw [DataW.weights.eq_def]
  simp only [Try.underlying46]
  rfl
set_option maxRecDepth 100000 in
theorem some_in {ts : List TypeId} {ds : List (DataW H)} {j : Nat} {v : Value} {d : DataW H} {p : List MemPlace} {base : Nat} (hval : Value.okWide Try.prog W .any base 46 v) (hd : DataW.Trod enc Try.prog W 0 spare held 46 v d p)
    (hsz : (DataW.weightsEach Try.prog ts ds).all (· ≤ reachBytes) = true) (ht : ts[j]? = some 46) (hj : ds[j]? = some d) : ∃ lv da ds dc, GivenS W v lv da ds dc := by
  obtain ⟨vs, rfl, _⟩ := Go.WideShapes.okWide_struct Try.underlying46 hval
  obtain ⟨fuel, hf⟩ := hd
  obtain ⟨xs, n, _, hx, hl, hlen, hff⟩ := DataW.trod_struct Try.underlying46 hf
  rw [cells46] at hl
  have hl' : vs.toList.length = 2 := hl
  match hvs : vs.toList, hl' with
  | [c0, c1], _ =>
    match xs, hlen with
    | [y0, y1], _ =>
      have f0 := hff 0 _ rfl
      have f1 := hff 1 _ rfl
      have hvc : (Value.agg vs).cells.toList = [c0, c1] := hvs
      rw [hvc] at f0 f1
      simp [cellsI3, cells25] at f0 f1
      obtain ⟨mo, e2, _⟩ := DataW.trod_int Try.underlying3 f0
      simp at e2
      subst e2
      obtain ⟨ca, cc, cs, rfl, k1, k2, k3, k4, k5⟩ := ints_in f1
      have hx' : d = .agg [y0.1, y1.1] := (Prod.mk.inj hx).1
      have hw : ∀ q ∈ d.weights Try.prog 46, q ≤ reachBytes := fun q hq => by
        have := List.all_eq_true.1 hsz _ (DataW.weights_mem_each ht hj q hq)
        simpa using this
      rw [hx', some_weights] at hw
      refine ⟨mo, ca, cs, cc, ?_, k1, k2, k3, k4, k5 (fun q hq => hw q (List.mem_append_right _ (List.mem_append_left _ hq)))⟩
      rw [← Array.toArray_toList (xs := vs), hvs]
/-- What the walks are told of a level, a cell and a vertex that came in. -/
def GivenK (_ : World) (v : Value) (lv ce ve : Int) : Prop := v = .agg #[.int .i64 lv, .int .i64 ce, .int .i64 ve]
set_option maxRecDepth 100000 in
theorem askc_in {ts : List TypeId} {ds : List (DataW H)} {j : Nat} {v : Value} {d : DataW H} {p : List MemPlace} {base : Nat} (hval : Value.okWide Try.prog W .any base 30 v) (hd : DataW.Trod enc Try.prog W 0 spare held 30 v d p)
    (_ : (DataW.weightsEach Try.prog ts ds).all (· ≤ reachBytes) = true) (_ : ts[j]? = some 30) (_ : ds[j]? = some d) : ∃ lv ce ve, GivenK W v lv ce ve := by
  obtain ⟨vs, rfl, _⟩ := Go.WideShapes.okWide_struct Try.underlying30 hval
  obtain ⟨fuel, hf⟩ := hd
  obtain ⟨xs, n, _, hx, hl, hlen, hff⟩ := DataW.trod_struct Try.underlying30 hf
  rw [cells30] at hl
  have hl' : vs.toList.length = 3 := hl
  match hvs : vs.toList, hl' with
  | [c0, c1, c2], _ =>
    match xs, hlen with
    | [y0, y1, y2], _ =>
      have f0 := hff 0 _ rfl
      have f1 := hff 1 _ rfl
      have f2 := hff 2 _ rfl
      have hvc : (Value.agg vs).cells.toList = [c0, c1, c2] := hvs
      rw [hvc] at f0 f1 f2
      simp [cellsI3] at f0 f1 f2
      obtain ⟨m0, e0, _⟩ := DataW.trod_int Try.underlying3 f0
      obtain ⟨m1, e1, _⟩ := DataW.trod_int Try.underlying3 f1
      obtain ⟨m2, e2, _⟩ := DataW.trod_int Try.underlying3 f2
      simp at e0 e1 e2
      subst e0
      subst e1
      subst e2
      refine ⟨m0, m1, m2, ?_⟩
      show Value.agg vs = _
      rw [← Array.toArray_toList (xs := vs), hvs]
end
end Go.Proofs.Ytpmjbeiclmllmaa
