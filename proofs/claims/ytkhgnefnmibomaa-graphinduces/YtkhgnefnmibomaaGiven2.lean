/-
  Lists of truths, of weights, of changes that came in, as the walks want them.
-/
import Derived.Test.YtkhgnefnmibomaaGiven
import Derived.Test.YtkhgnefnmibomaaChange
import Derived.Test.YtkhgnefnmibomaaMarks
namespace Go.Proofs.Ytkhgnefnmibomaa
open Go.RowKit
open Go.Deep (open_slice choose_lt)
theorem cellsBool : Try.prog.cellsOf 4 = 1 := by kernel_rfl
theorem cellsCg : Try.prog.cellsOf 64 = 2 := by kernel_rfl
theorem bytesBool : Try.prog.bytesOf 4 = 1 := by kernel_rfl
theorem bytesU : Try.prog.bytesOf 51 = 4 := by kernel_rfl
theorem bytesCg : Try.prog.bytesOf 64 = 16 := by kernel_rfl
def GivenB (W : World) (v : Value) (a : Option Addr) (cap : Nat) (l : List Bool) : Prop :=
  v = .slice a l.length cap ∧ Bools (· < W.heap.size) W a l ∧ (a = none → l = [] ∧ cap = 0) ∧ l.length ≤ 140737488351232
def GivenU (W : World) (v : Value) (a : Option Addr) (cap : Nat) (l : List Int) : Prop :=
  v = .slice a l.length cap ∧ U32s W a l ∧ (a = none → l = [] ∧ cap = 0) ∧ l.length * 4 ≤ 140737488351232
def GivenC (W : World) (v : Value) (a : Option Addr) (cap : Nat) (l : List Cg) : Prop :=
  v = .slice a l.length cap ∧ Cgs W a l ∧ (a = none → l = [] ∧ cap = 0) ∧ l.length * 16 ≤ 140737488351232
section
variable {H : Type} {enc : TypeId × Value → H} {W : World} {spare : Nat → Bool} {held : Bool}
theorem trod_cg {fuel : Nat} {cs : List Value} {x : DataW H × List MemPlace} (h : DataW.trod enc Try.prog W 0 spare held fuel 64 cs = some x) :
    ∃ y : Cg, cs = [.int .i64 y.a, .int .u32 y.w] := by
  obtain ⟨xs, n, _, rfl, hl, hlen, hf⟩ := DataW.trod_struct Try.underlying64 h
  rw [cellsCg] at hl
  match cs, hl with
  | [c0, c1], _ =>
    match xs, hlen with
    | [y0, y1], _ =>
      have f0 := hf 0 _ rfl
      have f1 := hf 1 _ rfl
      simp [cells3, cells51] at f0 f1
      obtain ⟨k, e0, _⟩ := DataW.trod_int Try.underlying3 f0
      obtain ⟨u, e1, _⟩ := DataW.trod_int Try.underlying51 f1
      simp at e0 e1
      subst e0 e1
      exact ⟨⟨k, u⟩, rfl⟩
theorem bools_in {ts : List TypeId} {ds : List (DataW H)} {j : Nat} {v : Value} {d : DataW H} {p : List MemPlace} {base : Nat} (hval : Value.okWide Try.prog W .any base 46 v) (hd : DataW.Trod enc Try.prog W 0 spare held 46 v d p)
    (hsz : (DataW.weightsEach Try.prog ts ds).all (· ≤ reachBytes) = true) (ht : ts[j]? = some 46) (hj : ds[j]? = some d) : ∃ a cap l, GivenB W v a cap l := by
  obtain ⟨a0, len0, cap0, rfl⟩ := Go.WideShapes.okWide_slice Try.underlying46 hval
  obtain ⟨fuel, hf⟩ := hd
  rcases open_slice Try.underlying46 hf with ⟨hv, _⟩ | ⟨a, len, cap, mm, nn, D, Pl, hv, hba, hlc, hcm, hmm, hyx, hel⟩
  · simp [Value.cells] at hv
    obtain ⟨rfl, rfl, rfl⟩ := hv
    exact ⟨none, 0, [], rfl, Or.inl rfl, fun _ => ⟨rfl, rfl⟩, by simp⟩
  · simp [Value.cells] at hv
    obtain ⟨rfl, rfl, rfl⟩ := hv
    have hlm : len0 ≤ mm := by rw [hmm]; split <;> omega
    rw [cellsBool] at hel
    have hyx' := (Prod.mk.inj hyx).1
    subst hyx'
    have hw := sized_slice hsz ht hj Try.underlying46
    rw [bytesBool] at hw
    simp only [List.length_map, List.length_range, reachBytes] at hw
    obtain ⟨V, hV⟩ := choose_lt (α := Bool) (n := len0) (p := fun i t => W.cells? 0 (a.add (i * 1)) 1 = some [.bool t]) (fun i hi => by
      obtain ⟨cs', hc, ht'⟩ := hel i (by omega)
      obtain ⟨t, e, _⟩ := DataW.trod_bool Try.underlying4 ht'
      subst e
      exact ⟨t, hc⟩)
    refine ⟨some a, cap0, (List.range len0).map V, by simp, ?_, (fun h => by cases h), by simp; omega⟩
    by_cases h0 : 0 < len0
    · obtain ⟨b, off, spot⟩ := a
      have hc0 := (World.cells?_some (hV 0 h0)).2.2 0 (by decide)
      have hspot : spot = none := by
        have e : W.cell? ((((⟨b, off, spot⟩ : Addr).add (0 * 1))).add 0) = some (.bool (V 0)) := hc0
        simpa [Addr.add] using World.cell?_spot e
      subst hspot
      have hat : ∀ j, j < len0 → W.cell? ⟨b, off + j, none⟩ = some (.bool (V j)) := by
        intro j hj
        have e0 := (World.cells?_some (hV j hj)).2.2 0 (by decide)
        rw [Go.WideShapes.add_plain, Go.WideShapes.add_plain] at e0
        simpa using e0
      refine Or.inr ⟨b, off, rfl, World.block_lt_of_cell? W _ (hat 0 h0), fun j hj => ?_⟩
      have hj' : j < len0 := by simpa using hj
      have e : ((List.range len0).map V).getD j false = V j := by simp [List.getD, hj']
      rw [e]
      exact hat j hj'
    · have : len0 = 0 := by omega
      subst this
      exact Or.inl rfl
theorem u32s_in {ts : List TypeId} {ds : List (DataW H)} {j : Nat} {v : Value} {d : DataW H} {p : List MemPlace} {base : Nat} (hval : Value.okWide Try.prog W .any base 38 v) (hd : DataW.Trod enc Try.prog W 0 spare held 38 v d p)
    (hsz : (DataW.weightsEach Try.prog ts ds).all (· ≤ reachBytes) = true) (ht : ts[j]? = some 38) (hj : ds[j]? = some d) : ∃ a cap l, GivenU W v a cap l := by
  obtain ⟨a0, len0, cap0, rfl⟩ := Go.WideShapes.okWide_slice Try.underlying38 hval
  obtain ⟨fuel, hf⟩ := hd
  rcases open_slice Try.underlying38 hf with ⟨hv, _⟩ | ⟨a, len, cap, mm, nn, D, Pl, hv, hba, hlc, hcm, hmm, hyx, hel⟩
  · simp [Value.cells] at hv
    obtain ⟨rfl, rfl, rfl⟩ := hv
    exact ⟨none, 0, [], rfl, Or.inl rfl, fun _ => ⟨rfl, rfl⟩, by simp⟩
  · simp [Value.cells] at hv
    obtain ⟨rfl, rfl, rfl⟩ := hv
    have hlm : len0 ≤ mm := by rw [hmm]; split <;> omega
    rw [cells51] at hel
    have hyx' := (Prod.mk.inj hyx).1
    subst hyx'
    have hw := sized_slice hsz ht hj Try.underlying38
    rw [bytesU] at hw
    simp only [List.length_map, List.length_range, reachBytes] at hw
    obtain ⟨V, hV⟩ := choose_lt (α := Int) (n := len0) (p := fun i t => W.cells? 0 (a.add (i * 1)) 1 = some [.int .u32 t]) (fun i hi => by
      obtain ⟨cs', hc, ht'⟩ := hel i (by omega)
      obtain ⟨t, e, _⟩ := DataW.trod_int Try.underlying51 ht'
      subst e
      exact ⟨t, hc⟩)
    refine ⟨some a, cap0, (List.range len0).map V, by simp, ?_, (fun h => by cases h), by simp; omega⟩
    by_cases h0 : 0 < len0
    · obtain ⟨b, off, spot⟩ := a
      have hc0 := (World.cells?_some (hV 0 h0)).2.2 0 (by decide)
      have hspot : spot = none := by
        have e : W.cell? ((((⟨b, off, spot⟩ : Addr).add (0 * 1))).add 0) = some (.int .u32 (V 0)) := hc0
        simpa [Addr.add] using World.cell?_spot e
      subst hspot
      have hat : ∀ j, j < len0 → W.cell? ⟨b, off + j, none⟩ = some (.int .u32 (V j)) := by
        intro j hj
        have e0 := (World.cells?_some (hV j hj)).2.2 0 (by decide)
        rw [Go.WideShapes.add_plain, Go.WideShapes.add_plain] at e0
        simpa using e0
      refine Or.inr ⟨b, off, rfl, World.block_lt_of_cell? W _ (hat 0 h0), fun j hj => ?_⟩
      have hj' : j < len0 := by simpa using hj
      have e : ((List.range len0).map V).getD j 0 = V j := by simp [List.getD, hj']
      rw [e]
      exact hat j hj'
    · have : len0 = 0 := by omega
      subst this
      exact Or.inl rfl
theorem changes_in {ts : List TypeId} {ds : List (DataW H)} {j : Nat} {v : Value} {d : DataW H} {p : List MemPlace} {base : Nat} (hval : Value.okWide Try.prog W .any base 39 v) (hd : DataW.Trod enc Try.prog W 0 spare held 39 v d p)
    (hsz : (DataW.weightsEach Try.prog ts ds).all (· ≤ reachBytes) = true) (ht : ts[j]? = some 39) (hj : ds[j]? = some d) : ∃ a cap l, GivenC W v a cap l := by
  obtain ⟨a0, len0, cap0, rfl⟩ := Go.WideShapes.okWide_slice Try.underlying39 hval
  obtain ⟨fuel, hf⟩ := hd
  rcases open_slice Try.underlying39 hf with ⟨hv, _⟩ | ⟨a, len, cap, mm, nn, D, Pl, hv, hba, hlc, hcm, hmm, hyx, hel⟩
  · simp [Value.cells] at hv
    obtain ⟨rfl, rfl, rfl⟩ := hv
    exact ⟨none, 0, [], rfl, Or.inl rfl, fun _ => ⟨rfl, rfl⟩, by simp⟩
  · simp [Value.cells] at hv
    obtain ⟨rfl, rfl, rfl⟩ := hv
    have hlm : len0 ≤ mm := by rw [hmm]; split <;> omega
    rw [cellsCg] at hel
    have hyx' := (Prod.mk.inj hyx).1
    subst hyx'
    have hw := sized_slice hsz ht hj Try.underlying39
    rw [bytesCg] at hw
    simp only [List.length_map, List.length_range, reachBytes] at hw
    obtain ⟨V, hV⟩ := choose_lt (α := Cg) (n := len0) (p := fun i t => W.cells? 0 (a.add (i * 2)) 2 = some [.int .i64 t.a, .int .u32 t.w]) (fun i hi => by
      obtain ⟨cs', hc, ht'⟩ := hel i (by omega)
      obtain ⟨t, e⟩ := trod_cg ht'
      subst e
      exact ⟨t, hc⟩)
    refine ⟨some a, cap0, (List.range len0).map V, by simp, ?_, (fun h => by cases h), by simp; omega⟩
    by_cases h0 : 0 < len0
    · obtain ⟨b, off, spot⟩ := a
      have hc0 := (World.cells?_some (hV 0 h0)).2.2 0 (by decide)
      have hspot : spot = none := by
        have e : W.cell? ((((⟨b, off, spot⟩ : Addr).add (0 * 2))).add 0) = some (.int .i64 (V 0).a) := hc0
        simpa [Addr.add] using World.cell?_spot e
      subst hspot
      have hat : ∀ j, j < len0 → W.cell? ⟨b, off + j * 2, none⟩ = some (.int .i64 (V j).a) ∧ W.cell? ⟨b, off + j * 2 + 1, none⟩ = some (.int .u32 (V j).w) := by
        intro j hj
        have hcj := (World.cells?_some (hV j hj)).2.2
        have e0 := hcj 0 (by decide)
        have e1 := hcj 1 (by decide)
        rw [Go.WideShapes.add_plain, Go.WideShapes.add_plain] at e0 e1
        exact ⟨e0, e1⟩
      refine Or.inr ⟨b, off, rfl, World.block_lt_of_cell? W _ (hat 0 h0).1, fun j hj => ?_⟩
      have hj' : j < len0 := by simpa using hj
      have e : ((List.range len0).map V).getD j Cg.zero = V j := by simp [List.getD, hj']
      rw [e]
      exact hat j hj'
    · have : len0 = 0 := by omega
      subst this
      exact Or.inl rfl
end
end Go.Proofs.Ytkhgnefnmibomaa
