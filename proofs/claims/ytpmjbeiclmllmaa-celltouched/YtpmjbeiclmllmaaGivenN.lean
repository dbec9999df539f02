/-
  A plan, and a nest, that came in, as the walks want them.
-/
import Derived.Test.YtpmjbeiclmllmaaNsF
import Derived.Test.YtpmjbeiclmllmaaGivenI
namespace Go.Proofs.Ytpmjbeiclmllmaa
open Go.RowKit
open Go.Deep (open_slice choose_lt)
instance : Inhabited Cl := ⟨Cl.zero⟩
theorem cells28 : Try.prog.cellsOf 28 = 2 := by kernel_rfl
theorem cells25 : Try.prog.cellsOf 25 = 1 := by kernel_rfl
theorem cells26 : Try.prog.cellsOf 26 = 1 := by kernel_rfl
theorem bytes25 : Try.prog.bytesOf 25 = 24 := by kernel_rfl
section
variable {H : Type} {enc : TypeId × Value → H} {W : World} {spare : Nat → Bool} {held : Bool}
set_option maxRecDepth 100000 in
theorem ints_in {fuel : Nat} {v : Value} {y : DataW H × List MemPlace} (hy : DataW.trod enc Try.prog W 0 spare held fuel 25 [v] = some y) :
    ∃ a cap xs, v = .slice a xs.length cap ∧ Ints W a xs ∧ (a = none → xs = [] ∧ cap = 0) ∧ xs.length ≤ cap ∧ cap ≤ 9223372036854775807 ∧ ((∀ q ∈ y.1.weights Try.prog 25, q ≤ reachBytes) → xs.length * 8 ≤ 140737488351232) := by
  rcases open_slice Try.underlying25 hy with ⟨hv, _⟩ | ⟨a, len, cap, mm, nn, D, Pl, hv, hba, hlc, hcm, hmm, hyx, hel⟩
  · simp at hv
    subst hv
    exact ⟨none, 0, [], rfl, Or.inl rfl, fun _ => ⟨rfl, rfl⟩, Nat.le_refl _, by omega, fun _ => by simp⟩
  · simp at hv
    subst hv
    have hlm : len ≤ mm := by rw [hmm]; split <;> omega
    rw [cellsI3] at hel
    obtain ⟨V, hV⟩ := choose_lt (α := Int) (n := len) (p := fun i t => W.cells? 0 (a.add (i * 1)) 1 = some [.int .i64 t]) (fun i hi => by
      obtain ⟨cs', hc, ht'⟩ := hel i (by omega)
      obtain ⟨t, e, _⟩ := DataW.trod_int Try.underlying3 ht'
      subst e
      exact ⟨t, hc⟩)
    refine ⟨some a, cap, (List.range len).map V, by simp, ?_, (fun h => by cases h), by simpa using hlc, hcm, fun hw => ?_⟩
    · by_cases h0 : 0 < len
      · obtain ⟨b, off, spot⟩ := a
        have hc0 := (World.cells?_some (hV 0 h0)).2.2 0 (by decide)
        have hspot : spot = none := by
          have e : W.cell? ((((⟨b, off, spot⟩ : Addr).add (0 * 1))).add 0) = some (.int .i64 (V 0)) := hc0
          simpa [Addr.add] using World.cell?_spot e
        subst hspot
        have hat : ∀ j, j < len → W.cell? ⟨b, off + j, none⟩ = some (.int .i64 (V j)) := by
          intro j hj
          have e0 := (World.cells?_some (hV j hj)).2.2 0 (by decide)
          rw [Go.WideShapes.add_plain, Go.WideShapes.add_plain] at e0
          simpa using e0
        refine Or.inr ⟨b, off, rfl, World.block_lt_of_cell? W _ (hat 0 h0), fun j hj => ?_⟩
        have hj' : j < len := by simpa using hj
        have e : ((List.range len).map V).getD j 0 = V j := by simp [List.getD, hj']
        rw [e]
        exact hat j hj'
      · have : len = 0 := by omega
        subst this
        exact Or.inl rfl
    · rw [hyx] at hw
      rw [DataW.weights.eq_def] at hw
      simp only [Try.underlying25] at hw
      have := hw _ List.mem_cons_self
      rw [bytesInt] at this
      simp only [List.length_map, List.length_range, reachBytes] at this ⊢
      omega
/-- What the walks are told of a plan that came in. -/
def GivenP (W : World) (v : Value) (ba : Option Addr) (bs : List Int) (bc : Nat) (ca : Option Addr) (cs : List Int) (cc : Nat) (mo : Int) : Prop :=
  v = .agg #[.slice ba bs.length bc, .slice ca cs.length cc, .int .i64 mo] ∧ Ints W ba bs ∧ Ints W ca cs ∧ (ba = none → bs = [] ∧ bc = 0) ∧ (ca = none → cs = [] ∧ cc = 0) ∧ bs.length ≤ bc ∧ bc ≤ 9223372036854775807 ∧ bs.length * 8 ≤ 140737488351232 ∧ cs.length * 8 ≤ 140737488351232
/-- What the walks are told of a nest that came in. -/
def GivenN (W : World) (v : Value) (ba : Option Addr) (bs : List Int) (bc : Nat) (ca : Option Addr) (C : List Cl) (cc : Nat) : Prop :=
  v = .agg #[.slice ba bs.length bc, .slice ca C.length cc] ∧ Ints W ba bs ∧ Rws W ca C ∧ (ba = none → bs = [] ∧ bc = 0) ∧ bs.length * 8 ≤ 140737488351232
theorem nest_weights (d e : DataW H) : (DataW.agg [d, e]).weights Try.prog 28 = d.weights Try.prog 25 ++ (e.weights Try.prog 26 ++ []) := by
  rw [DataW.weights.eq_def]
  simp only [Try.underlying28]
  rfl
set_option maxRecDepth 100000 in
theorem rws_in {fuel : Nat} {v : Value} {y : DataW H × List MemPlace} (hy : DataW.trod enc Try.prog W 0 spare held fuel 26 [v] = some y) :
    ∃ a cap C, v = .slice a C.length cap ∧ Rws W a C := by
  rcases open_slice Try.underlying26 hy with ⟨hv, _⟩ | ⟨a, len, cap, mm, nn, D, Pl, hv, hba, hlc, hcm, hmm, hyx, hel⟩
  · simp at hv
    subst hv
    exact ⟨none, 0, [], rfl, Or.inl rfl, fun j hj => absurd hj (by simp)⟩
  · simp at hv
    subst hv
    have hlm : len ≤ mm := by rw [hmm]; split <;> omega
    rw [cells25] at hel
    obtain ⟨V, hV⟩ := choose_lt (α := Cl) (n := len) (p := fun i t => W.cells? 0 (a.add (i * 1)) 1 = some [t.val] ∧ Ints W t.a t.xs ∧ t.xs.length ≤ 9223372036854775807) (fun i hi => by
      obtain ⟨cs', hc, ht'⟩ := hel i (by omega)
      have hl1 := (World.cells?_some hc).2.1
      match cs', hl1 with
      | [u], _ =>
        obtain ⟨xa, xc, xs, rfl, h1, _, h3, h4, _⟩ := ints_in ht'
        exact ⟨⟨xa, xc, xs⟩, hc, h1, by show xs.length ≤ _; omega⟩)
    refine ⟨some a, cap, (List.range len).map V, by simp, ?_, fun j hj => ?_⟩
    · by_cases h0 : 0 < len
      · obtain ⟨b, off, spot⟩ := a
        have hc0 := (World.cells?_some (hV 0 h0).1).2.2 0 (by decide)
        have hspot : spot = none := by
          have e : W.cell? ((((⟨b, off, spot⟩ : Addr).add (0 * 1))).add 0) = some (V 0).val := hc0
          simpa [Addr.add] using World.cell?_spot e
        subst hspot
        have hat : ∀ j, j < len → W.cell? ⟨b, off + j, none⟩ = some (V j).val := by
          intro j hj
          have e0 := (World.cells?_some (hV j hj).1).2.2 0 (by decide)
          rw [Go.WideShapes.add_plain, Go.WideShapes.add_plain] at e0
          simpa using e0
        refine Or.inr ⟨b, off, rfl, World.block_lt_of_cell? W _ (hat 0 h0), fun j hj => ?_⟩
        have hj' : j < len := by simpa using hj
        have e : cl ((List.range len).map V) j = V j := by simp [cl, List.getD, hj']
        rw [e]
        exact hat j hj'
      · have : len = 0 := by omega
        subst this
        exact Or.inl rfl
    · have hj' : j < len := by simpa using hj
      have e : cl ((List.range len).map V) j = V j := by simp [cl, List.getD, hj']
      rw [e]
      exact (hV j hj').2
set_option maxRecDepth 100000 in
theorem nest_in {ts : List TypeId} {ds : List (DataW H)} {j : Nat} {v : Value} {d : DataW H} {p : List MemPlace} {base : Nat} (hval : Value.okWide Try.prog W .any base 28 v) (hd : DataW.Trod enc Try.prog W 0 spare held 28 v d p)
    (hsz : (DataW.weightsEach Try.prog ts ds).all (· ≤ reachBytes) = true) (ht : ts[j]? = some 28) (hj : ds[j]? = some d) : ∃ ba bs bc ca C cc, GivenN W v ba bs bc ca C cc := by
  obtain ⟨vs, rfl, _⟩ := Go.WideShapes.okWide_struct Try.underlying28 hval
  obtain ⟨fuel, hf⟩ := hd
  obtain ⟨xs, n, _, hx, hl, hlen, hff⟩ := DataW.trod_struct Try.underlying28 hf
  rw [cells28] at hl
  have hl' : vs.toList.length = 2 := hl
  match hvs : vs.toList, hl' with
  | [c0, c1], _ =>
    match xs, hlen with
    | [y0, y1], _ =>
      have f0 := hff 0 _ rfl
      have f1 := hff 1 _ rfl
      have hvc : (Value.agg vs).cells.toList = [c0, c1] := hvs
      rw [hvc] at f0 f1
      simp [cells25, cells26] at f0 f1
      obtain ⟨ba, bc, bs, rfl, b1, b2, b3, b4, b5⟩ := ints_in f0
      obtain ⟨ca, cc, C, rfl, k1⟩ := rws_in f1
      have hx' : d = .agg [y0.1, y1.1] := (Prod.mk.inj hx).1
      have hw : ∀ q ∈ d.weights Try.prog 28, q ≤ reachBytes := fun q hq => by
        have := List.all_eq_true.1 hsz _ (DataW.weights_mem_each ht hj q hq)
        simpa using this
      rw [hx', nest_weights] at hw
      refine ⟨ba, bs, bc, ca, C, cc, ?_, b1, k1, b2, b5 (fun q hq => hw q (List.mem_append_left _ hq))⟩
      rw [← Array.toArray_toList (xs := vs), hvs]
end
end Go.Proofs.Ytpmjbeiclmllmaa
