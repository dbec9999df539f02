/-
  A list of numbers that came in, as the walks want it.
-/
import Derived.Test.YtpmjbeiclmllmaaSame
import Derived.Test.YtpmjbeiclmllmaaGiven
namespace Go.Proofs.Ytpmjbeiclmllmaa
open Go.RowKit
open Go.Deep (open_slice choose_lt)
theorem bytesInt : Try.prog.bytesOf 3 = 8 := by kernel_rfl
/-- What the walks are told of a list of numbers that came in. -/
def GivenI (W : World) (v : Value) (a : Option Addr) (cap : Nat) (xs : List Int) : Prop :=
  v = .slice a xs.length cap ∧ Ints W a xs ∧ (a = none → xs = [] ∧ cap = 0) ∧ xs.length * 8 ≤ 140737488351232
section
variable {H : Type} {enc : TypeId × Value → H} {W : World} {spare : Nat → Bool} {held : Bool}
set_option maxRecDepth 100000 in
theorem intl_in {ts : List TypeId} {ds : List (DataW H)} {j : Nat} {v : Value} {d : DataW H} {p : List MemPlace} {base : Nat} (hval : Value.okWide Try.prog W .any base 25 v) (hd : DataW.Trod enc Try.prog W 0 spare held 25 v d p)
    (hsz : (DataW.weightsEach Try.prog ts ds).all (· ≤ reachBytes) = true) (ht : ts[j]? = some 25) (hj : ds[j]? = some d) : ∃ a cap l, GivenI W v a cap l := by
  obtain ⟨a0, len0, cap0, rfl⟩ := Go.WideShapes.okWide_slice Try.underlying25 hval
  obtain ⟨fuel, hf⟩ := hd
  rcases open_slice Try.underlying25 hf with ⟨hv, _⟩ | ⟨a, len, cap, mm, nn, D, Pl, hv, hba, hlc, hcm, hmm, hyx, hel⟩
  · simp [Value.cells] at hv
    obtain ⟨rfl, rfl, rfl⟩ := hv
    exact ⟨none, 0, [], rfl, Or.inl rfl, fun _ => ⟨rfl, rfl⟩, by simp⟩
  · simp [Value.cells] at hv
    obtain ⟨rfl, rfl, rfl⟩ := hv
    have hlm : len0 ≤ mm := by rw [hmm]; split <;> omega
    rw [cellsI3] at hel
    have hyx' := (Prod.mk.inj hyx).1
    subst hyx'
    have hw := sized_slice hsz ht hj Try.underlying25
    rw [bytesInt] at hw
    simp only [List.length_map, List.length_range, reachBytes] at hw
    obtain ⟨V, hV⟩ := choose_lt (α := Int) (n := len0) (p := fun i t => W.cells? 0 (a.add (i * 1)) 1 = some [.int .i64 t]) (fun i hi => by
      obtain ⟨cs', hc, ht'⟩ := hel i (by omega)
      obtain ⟨t, e, _⟩ := DataW.trod_int Try.underlying3 ht'
      subst e
      exact ⟨t, hc⟩)
    refine ⟨some a, cap0, (List.range len0).map V, by simp, ?_, (fun h => by cases h), by simp; omega⟩
    by_cases h0 : 0 < len0
    · obtain ⟨b, off, spot⟩ := a
      have hc0 := (World.cells?_some (hV 0 h0)).2.2 0 (by decide)
      have hspot : spot = none := by
        have e : W.cell? ((((⟨b, off, spot⟩ : Addr).add (0 * 1))).add 0) = some (.int .i64 (V 0)) := hc0
        simpa [Addr.add] using World.cell?_spot e
      subst hspot
      have hat : ∀ j, j < len0 → W.cell? ⟨b, off + j, none⟩ = some (.int .i64 (V j)) := by
        intro j hj
        have e0 := (World.cells?_some (hV j hj)).2.2 0 (by decide)
        rw [Go.WideShapes.add_plain, Go.WideShapes.add_plain] at e0
        simpa using e0
      refine Or.inr ⟨b, off, rfl, World.block_lt_of_cell? W _ (hat 0 h0), fun j hj => ?_⟩
      have hj' : j < len0 := by simpa using hj
      have e : ((List.range len0).map V).getD j 0 = V j := by simp [List.getD, hj']
      rw [e]
      exact hat j hj'
    · have : len0 = 0 := by omega
      subst this
      exact Or.inl rfl
end
end Go.Proofs.Ytpmjbeiclmllmaa
