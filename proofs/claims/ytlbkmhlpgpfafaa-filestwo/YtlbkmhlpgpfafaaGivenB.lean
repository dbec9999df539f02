/-
  Calls of a disk that came in, as the walks beside the reference want them.
-/
import Derived.Test.YtlbkmhlpgpfafaaGivenA
namespace Go.Proofs.Ytlbkmhlpgpfafaa
namespace B
open Go.RowKit
open Go.Deep (open_slice choose_lt)
theorem i64_bd {a : Int} (w : (Lit.int .i64 a).wf = true) : -9223372036854775808 ≤ a ∧ a ≤ 9223372036854775807 := by
  have e1 : IntKind.i64.min = -9223372036854775808 := rfl
  have e2 : IntKind.i64.max = 9223372036854775807 := rfl
  simp [Lit.wf, e1, e2] at w
  exact w
def okB (B : Nat) (W : World) (x : Ac) : Prop :=
  IntB B W x.a x.xs ∧ x.xs.length * 8 ≤ 140737488351232 ∧ (x.a = none → x.xs = [] ∧ x.c = 0) ∧ (∀ y ∈ x.xs, -9223372036854775808 ≤ y ∧ y ≤ 9223372036854775807) ∧ x.s.size ≤ 140737488351232 ∧ x.m.size ≤ 140737488351232 ∧ x.n ≤ 9223372036854775807
/-- The calls of a slice lie so in memory. -/
def Acs (B : Nat) (W : World) (a : Option Addr) (l : List Ac) : Prop :=
  0 < l.length → ∃ b o, a = some ⟨b, o, none⟩ ∧ b < B ∧ ∀ j (hj : j < l.length), W.cell? ⟨b, o + j * 5, none⟩ = some (.int .i64 (l[j]).k) ∧ W.cell? ⟨b, o + j * 5 + 1, none⟩ = some (.string (l[j]).s) ∧ W.cell? ⟨b, o + j * 5 + 2, none⟩ = some (.string (l[j]).m) ∧
    W.cell? ⟨b, o + j * 5 + 3, none⟩ = some (.int .i64 (l[j]).n) ∧ W.cell? ⟨b, o + j * 5 + 4, none⟩ = some (.slice (l[j]).a (l[j]).xs.length (l[j]).c) ∧ okB B W (l[j])
def GivenA (W : World) (v : Value) (a : Option Addr) (cap : Nat) (l : List Ac) : Prop :=
  v = .slice a l.length cap ∧ Acs W.heap.size W a l ∧ l.length ≤ 140737488351232
section
variable {H : Type} {enc : TypeId × Value → H} {W : World} {spare : Nat → Bool} {held : Bool}
set_option maxRecDepth 100000 in
theorem ints_in {fuel : Nat} {v : Value} {y : DataW H × List MemPlace} (hy : DataW.trod enc Try.prog W 0 spare held fuel 29 [v] = some y) :
    ∃ a cap xs, v = .slice a xs.length cap ∧ IntB W.heap.size W a xs ∧ (a = none → xs = [] ∧ cap = 0) ∧ (∀ y ∈ xs, -9223372036854775808 ≤ y ∧ y ≤ 9223372036854775807) ∧ ((∀ q ∈ y.1.weights Try.prog 29, q ≤ reachBytes) → xs.length * 8 ≤ 140737488351232) := by
  rcases open_slice Try.underlying29 hy with ⟨hv, _⟩ | ⟨a, len, cap, mm, nn, D, Pl, hv, hba, hlc, hcm, hmm, hyx, hel⟩
  · simp at hv
    subst hv
    exact ⟨none, 0, [], rfl, fun h => absurd h (by simp), fun _ => ⟨rfl, rfl⟩, fun y hy => by simp at hy, fun _ => by simp⟩
  · simp at hv
    subst hv
    have hlm : len ≤ mm := by rw [hmm]; split <;> omega
    rw [cells3'] at hel
    obtain ⟨V, hV⟩ := choose_lt (α := Int) (n := len) (p := fun i t => W.cells? 0 (a.add (i * 1)) 1 = some [.int .i64 t] ∧ (-9223372036854775808 ≤ t ∧ t ≤ 9223372036854775807)) (fun i hi => by
      obtain ⟨cs', hc, ht'⟩ := hel i (by omega)
      obtain ⟨t, e, _, wf⟩ := DataW.trod_int Try.underlying3 ht'
      subst e
      exact ⟨t, hc, i64_bd wf⟩)
    refine ⟨some a, cap, (List.range len).map V, by simp, ?_, fun h => by simp at h, fun y hy => ?_, fun hw => ?_⟩
    · intro h0
      have h0 : 0 < len := by simpa using h0
      obtain ⟨b, off, spot⟩ := a
      have hc0 := (World.cells?_some (hV 0 h0).1).2.2 0 (by decide)
      have hspot : spot = none := by
        have e : W.cell? ((((⟨b, off, spot⟩ : Addr).add (0 * 1))).add 0) = some (.int .i64 (V 0)) := hc0
        simpa [Addr.add] using World.cell?_spot e
      subst hspot
      have hat : ∀ j, j < len → W.cell? ⟨b, off + j, none⟩ = some (.int .i64 (V j)) := by
        intro j hj
        have e0 := (World.cells?_some (hV j hj).1).2.2 0 (by decide)
        rw [Go.WideShapes.add_plain, Go.WideShapes.add_plain] at e0
        simpa using e0
      refine ⟨b, off, rfl, World.block_lt_of_cell? W _ (hat 0 h0), fun j hj => ?_⟩
      have hj' : j < len := by simpa using hj
      rw [hat j hj']
      simp
    · obtain ⟨q, hq, rfl⟩ := List.mem_map.1 hy
      exact (hV q (List.mem_range.1 hq)).2
    · rw [hyx] at hw
      rw [DataW.weights.eq_def] at hw
      simp only [Try.underlying29] at hw
      have := hw _ List.mem_cons_self
      rw [bytes3] at this
      simp only [List.length_map, List.length_range, reachBytes] at this ⊢
      omega
set_option maxRecDepth 100000 in
theorem act_in {fuel : Nat} {cs : List Value} {y : DataW H × List MemPlace} (h : DataW.trod enc Try.prog W 0 spare held fuel 31 cs = some y) :
    ∃ x : Ac, cs = [.int .i64 x.k, .string x.s, .string x.m, .int .i64 x.n, .slice x.a x.xs.length x.c] ∧ ((∀ q ∈ y.1.weights Try.prog 31, q ≤ reachBytes) → okB W.heap.size W x) := by
  obtain ⟨xs, n, _, hx, hl, hlen, hf⟩ := DataW.trod_struct Try.underlying31 h
  rw [cells31] at hl
  match cs, hl with
  | [c0, c1, c2, c3, c4], _ =>
    match xs, hlen with
    | [y0, y1, y2, y3, y4], _ =>
      have f0 := hf 0 _ rfl
      have f1 := hf 1 _ rfl
      have f2 := hf 2 _ rfl
      have f3 := hf 3 _ rfl
      have f4 := hf 4 _ rfl
      simp [cells3', cells9, cells29] at f0 f1 f2 f3 f4
      obtain ⟨k, e0, _⟩ := DataW.trod_int Try.underlying3 f0
      obtain ⟨s, e1, z1, _⟩ := DataW.trod_string Try.underlying9 f1
      obtain ⟨m, e2, z2, _⟩ := DataW.trod_string Try.underlying9 f2
      obtain ⟨i, e3, _, w3⟩ := DataW.trod_int Try.underlying3 f3
      simp at e0 e1 e2 e3
      subst e0 e1 e2 e3
      obtain ⟨a, c, is, rfl, k1, k2, k3, k4⟩ := ints_in f4
      refine ⟨⟨k, s, m, i, a, is, c⟩, rfl, fun hw => ?_⟩
      have hx' : y.1 = .agg [y0.1, y1.1, y2.1, y3.1, y4.1] := by rw [hx]; rfl
      rw [hx', act_weights] at hw
      have hs : s.data.toList.length ≤ 140737488351232 := str_weight (H := H) (fun q hq => hw q (by
        rw [z1]
        exact List.mem_append_right _ (List.mem_append_left _ hq)))
      have hm : m.data.toList.length ≤ 140737488351232 := str_weight (H := H) (fun q hq => hw q (by
        rw [z2]
        exact List.mem_append_right _ (List.mem_append_right _ (List.mem_append_left _ hq))))
      rw [Array.length_toList] at hs hm
      exact ⟨k1, k4 (fun q hq => hw q (List.mem_append_right _ (List.mem_append_right _ (List.mem_append_right _ (List.mem_append_right _ (List.mem_append_left _ hq)))))), k2, k3, hs, hm, i64_top w3⟩
set_option maxRecDepth 100000 in
theorem acts_in {ts : List TypeId} {ds : List (DataW H)} {j : Nat} {v : Value} {d : DataW H} {p : List MemPlace} {base : Nat} (hval : Value.okWide Try.prog W .any base 22 v) (hd : DataW.Trod enc Try.prog W 0 spare held 22 v d p)
    (hsz : (DataW.weightsEach Try.prog ts ds).all (· ≤ reachBytes) = true) (ht : ts[j]? = some 22) (hj : ds[j]? = some d) : ∃ a cap l, GivenA W v a cap l := by
  obtain ⟨a0, len0, cap0, rfl⟩ := Go.WideShapes.okWide_slice Try.underlying22 hval
  have hW := weights_in hsz ht hj
  obtain ⟨fuel, hf⟩ := hd
  rcases open_slice Try.underlying22 hf with ⟨hv, _⟩ | ⟨a, len, cap, mm, nn, D, Pl, hv, hba, hlc, hcm, hmm, hyx, hel⟩
  · simp [Value.cells] at hv
    obtain ⟨rfl, rfl, rfl⟩ := hv
    exact ⟨none, 0, [], rfl, fun h => absurd h (by simp), by simp⟩
  · simp [Value.cells] at hv
    obtain ⟨rfl, rfl, rfl⟩ := hv
    have hlm : len0 ≤ mm := by rw [hmm]; split <;> omega
    rw [cells31] at hel
    have hyx' := (Prod.mk.inj hyx).1
    subst hyx'
    have hw := sized_slice hsz ht hj Try.underlying22
    rw [bytes31] at hw
    simp only [List.length_map, List.length_range, reachBytes] at hw
    rw [DataW.weights.eq_def] at hW
    simp only [Try.underlying22] at hW
    obtain ⟨V, hV⟩ := choose_lt (α := Ac) (n := len0) (p := fun i t => W.cells? 0 (a.add (i * 5)) 5 = some [.int .i64 t.k, .string t.s, .string t.m, .int .i64 t.n, .slice t.a t.xs.length t.c] ∧ okB W.heap.size W t) (fun i hi => by
      obtain ⟨cs', hc, ht'⟩ := hel i (by omega)
      obtain ⟨t, e, hok⟩ := act_in ht'
      subst e
      refine ⟨t, hc, hok (fun q hq => hW q (List.mem_cons_of_mem _ ?_))⟩
      exact List.mem_append_left _ (weightsAll_mem _ (List.mem_map.2 ⟨i, List.mem_range.2 hi, rfl⟩) hq))
    refine ⟨some a, cap0, (List.range len0).map V, by simp, ?_, by simp; omega⟩
    intro h0
    have h0 : 0 < len0 := by simpa using h0
    obtain ⟨b, off, spot⟩ := a
    have hc0 := (World.cells?_some (hV 0 h0).1).2.2 0 (by decide)
    have hspot : spot = none := by
      have e : W.cell? ((((⟨b, off, spot⟩ : Addr).add (0 * 5))).add 0) = some (.int .i64 (V 0).k) := hc0
      simpa [Addr.add] using World.cell?_spot e
    subst hspot
    have hat : ∀ j, j < len0 → W.cell? ⟨b, off + j * 5, none⟩ = some (.int .i64 (V j).k) ∧ W.cell? ⟨b, off + j * 5 + 1, none⟩ = some (.string (V j).s) ∧ W.cell? ⟨b, off + j * 5 + 2, none⟩ = some (.string (V j).m) ∧ W.cell? ⟨b, off + j * 5 + 3, none⟩ = some (.int .i64 (V j).n) ∧ W.cell? ⟨b, off + j * 5 + 4, none⟩ = some (.slice (V j).a (V j).xs.length (V j).c) := by
      intro j hj
      have hcj := (World.cells?_some (hV j hj).1).2.2
      have e0 := hcj 0 (by decide)
      have e1 := hcj 1 (by decide)
      have e2 := hcj 2 (by decide)
      have e3 := hcj 3 (by decide)
      have e4 := hcj 4 (by decide)
      rw [Go.WideShapes.add_plain, Go.WideShapes.add_plain] at e0 e1 e2 e3 e4
      exact ⟨e0, e1, e2, e3, e4⟩
    refine ⟨b, off, rfl, World.block_lt_of_cell? W _ (hat 0 h0).1, fun j hj => ?_⟩
    have hj' : j < len0 := by simpa using hj
    have e : ((List.range len0).map V)[j] = V j := by simp
    rw [e]
    obtain ⟨h1, h2, h3, h4, h5⟩ := hat j hj'
    exact ⟨h1, h2, h3, h4, h5, (hV j hj').2⟩
end
theorem okB.on {B : Nat} {w w' : World} {x : Ac} (h : okB B w x) (hb : Below B w w') : okB B w' x := ⟨h.1.on hb, h.2⟩
end B
end Go.Proofs.Ytlbkmhlpgpfafaa
