/-
  A message that came in, as the walks want it.
-/
import Derived.Test.YtchmiiclogmheaaDoorSm3
import Derived.Test.YtchmiiclogmheaaDoorMa2
import Derived.OpenShut
import Derived.ChangeArms
import Derived.Deep.Slices
import Derived.SizedLaws
import Derived.ProofKit
import Derived.ChangeOld
namespace Go.Proofs.YtchmiiclogmheaaDoor.C2
open Go.RowKit
open Go.Deep (open_slice choose_lt)
theorem cells3' : Tryd.prog.cellsOf 3 = 1 := by kernel_rfl
theorem cells22' : Tryd.prog.cellsOf 22 = 1 := by kernel_rfl
theorem cells23' : Tryd.prog.cellsOf 23 = 1 := by kernel_rfl
theorem cells24' : Tryd.prog.cellsOf 24 = 1 := by kernel_rfl
theorem cells26' : Tryd.prog.cellsOf 26 = 11 := by kernel_rfl
theorem cells44' : Tryd.prog.cellsOf 44 = 4 := by kernel_rfl
theorem cells40' : Tryd.prog.cellsOf 40 = 1 := by kernel_rfl
theorem cells89' : Tryd.prog.cellsOf 89 = 1 := by kernel_rfl
theorem bytes40' : Tryd.prog.bytesOf 40 = 8 := by kernel_rfl
theorem bytes89' : Tryd.prog.bytesOf 89 = 4 := by kernel_rfl
theorem bytes44' : Tryd.prog.bytesOf 44 = 48 := by kernel_rfl
theorem u64_wf {a : Int} (w : (Lit.int .u64 a).wf = true) : 0 ≤ a ∧ a ≤ 18446744073709551615 := by
  have e1 : IntKind.u64.min = 0 := rfl
  have e2 : IntKind.u64.max = 18446744073709551615 := rfl
  simp [Lit.wf, e1, e2] at w
  exact w
theorem u32_wf {a : Int} (w : (Lit.int .u32 a).wf = true) : 0 ≤ a ∧ a ≤ 4294967295 := by
  have e1 : IntKind.u32.min = 0 := rfl
  have e2 : IntKind.u32.max = 4294967295 := rfl
  simp [Lit.wf, e1, e2] at w
  exact w
section
variable {H : Type} {enc : TypeId × Value → H} {W : World} {spare : Nat → Bool} {held : Bool}
set_option maxRecDepth 100000 in
theorem ints22_in {fuel : Nat} {v : Value} {y : DataW H × List MemPlace} (hy : DataW.trod enc Tryd.prog W 0 spare held fuel 22 [v] = some y) :
    ∃ a cap xs, v = .slice a xs.length cap ∧ Nms .u32 W a xs ∧ (∀ j, j < xs.length → 0 ≤ xs.getD j 0 ∧ xs.getD j 0 ≤ 4294967295) ∧ ((∀ q ∈ y.1.weights Tryd.prog 22, q ≤ reachBytes) → xs.length ≤ 140737488351232) := by
  rcases open_slice Tryd.underlying22 hy with ⟨hv, _⟩ | ⟨a, len, cap, mm, nn, D, Pl, hv, hba, hlc, hcm, hmm, hyx, hel⟩
  · simp at hv
    subst hv
    exact ⟨none, 0, [], rfl, Or.inl rfl, fun j hj => absurd hj (by simp), fun _ => by simp⟩
  · simp at hv
    subst hv
    have hlm : len ≤ mm := by rw [hmm]; split <;> omega
    rw [cells89'] at hel
    obtain ⟨V, hV⟩ := choose_lt (α := Int) (n := len) (p := fun i t => W.cells? 0 (a.add (i * 1)) 1 = some [.int .u32 t] ∧ (0 ≤ t ∧ t ≤ 4294967295)) (fun i hi => by
      obtain ⟨cs', hc, ht'⟩ := hel i (by omega)
      obtain ⟨t, e, _, w⟩ := DataW.trod_int Tryd.underlying89 ht'
      subst e
      exact ⟨t, hc, u32_wf w⟩)
    have hg : ∀ j, j < len → ((List.range len).map V).getD j 0 = V j := fun j hj => by simp [hj]
    refine ⟨some a, cap, (List.range len).map V, by simp, ?_, fun j hj => ?_, fun hw => ?_⟩
    · rcases Nat.eq_zero_or_pos len with h0 | h0
      · subst h0; exact Or.inl rfl
      obtain ⟨b, off, spot⟩ := a
      have hc0 := (World.cells?_some (hV 0 h0).1).2.2 0 (by decide)
      have hspot : spot = none := by
        have e : W.cell? ((((⟨b, off, spot⟩ : Addr).add (0 * 1))).add 0) = some (.int .u32 (V 0)) := hc0
        simpa [Addr.add] using World.cell?_spot e
      subst hspot
      have hat : ∀ j, j < len → W.cell? ⟨b, off + j, none⟩ = some (.int .u32 (V j)) := by
        intro j hj
        have e0 := (World.cells?_some (hV j hj).1).2.2 0 (by decide)
        rw [Go.WideShapes.add_plain, Go.WideShapes.add_plain] at e0
        simpa using e0
      refine Or.inr ⟨b, off, rfl, World.block_lt_of_cell? W _ (hat 0 h0), fun j hj => ?_⟩
      have hj' : j < len := by simpa using hj
      rw [hat j hj', hg j hj']
    · have hj' : j < len := by simpa using hj
      rw [hg j hj']
      exact (hV j hj').2
    · rw [hyx] at hw
      rw [DataW.weights.eq_def] at hw
      simp only [Tryd.underlying22] at hw
      have := hw _ List.mem_cons_self
      rw [bytes89'] at this
      simp only [List.length_map, List.length_range, reachBytes] at this ⊢
      omega
set_option maxRecDepth 100000 in
theorem ints24_in {fuel : Nat} {v : Value} {y : DataW H × List MemPlace} (hy : DataW.trod enc Tryd.prog W 0 spare held fuel 24 [v] = some y) :
    ∃ a cap xs, v = .slice a xs.length cap ∧ Nms .u64 W a xs ∧ (∀ j, j < xs.length → 0 ≤ xs.getD j 0 ∧ xs.getD j 0 ≤ 18446744073709551615) ∧ ((∀ q ∈ y.1.weights Tryd.prog 24, q ≤ reachBytes) → xs.length ≤ 140737488351232) := by
  rcases open_slice Tryd.underlying24 hy with ⟨hv, _⟩ | ⟨a, len, cap, mm, nn, D, Pl, hv, hba, hlc, hcm, hmm, hyx, hel⟩
  · simp at hv
    subst hv
    exact ⟨none, 0, [], rfl, Or.inl rfl, fun j hj => absurd hj (by simp), fun _ => by simp⟩
  · simp at hv
    subst hv
    have hlm : len ≤ mm := by rw [hmm]; split <;> omega
    rw [cells40'] at hel
    obtain ⟨V, hV⟩ := choose_lt (α := Int) (n := len) (p := fun i t => W.cells? 0 (a.add (i * 1)) 1 = some [.int .u64 t] ∧ (0 ≤ t ∧ t ≤ 18446744073709551615)) (fun i hi => by
      obtain ⟨cs', hc, ht'⟩ := hel i (by omega)
      obtain ⟨t, e, _, w⟩ := DataW.trod_int Tryd.underlying40 ht'
      subst e
      exact ⟨t, hc, u64_wf w⟩)
    have hg : ∀ j, j < len → ((List.range len).map V).getD j 0 = V j := fun j hj => by simp [hj]
    refine ⟨some a, cap, (List.range len).map V, by simp, ?_, fun j hj => ?_, fun hw => ?_⟩
    · rcases Nat.eq_zero_or_pos len with h0 | h0
      · subst h0; exact Or.inl rfl
      obtain ⟨b, off, spot⟩ := a
      have hc0 := (World.cells?_some (hV 0 h0).1).2.2 0 (by decide)
      have hspot : spot = none := by
        have e : W.cell? ((((⟨b, off, spot⟩ : Addr).add (0 * 1))).add 0) = some (.int .u64 (V 0)) := hc0
        simpa [Addr.add] using World.cell?_spot e
      subst hspot
      have hat : ∀ j, j < len → W.cell? ⟨b, off + j, none⟩ = some (.int .u64 (V j)) := by
        intro j hj
        have e0 := (World.cells?_some (hV j hj).1).2.2 0 (by decide)
        rw [Go.WideShapes.add_plain, Go.WideShapes.add_plain] at e0
        simpa using e0
      refine Or.inr ⟨b, off, rfl, World.block_lt_of_cell? W _ (hat 0 h0), fun j hj => ?_⟩
      have hj' : j < len := by simpa using hj
      rw [hat j hj', hg j hj']
    · have hj' : j < len := by simpa using hj
      rw [hg j hj']
      exact (hV j hj').2
    · rw [hyx] at hw
      rw [DataW.weights.eq_def] at hw
      simp only [Tryd.underlying24] at hw
      have := hw _ List.mem_cons_self
      rw [bytes40'] at this
      simp only [List.length_map, List.length_range, reachBytes] at this ⊢
      omega
theorem weightsAll_mem {t : TypeId} {q : Nat} {d : DataW H} : ∀ (L : List (DataW H)), d ∈ L → q ∈ d.weights Tryd.prog t → q ∈ DataW.weightsAll Tryd.prog t L
  | [], h, _ => by cases h
  | x :: r, h, hq => by
    rw [DataW.weightsAll.eq_def]
    rcases List.mem_cons.1 h with rfl | h
    · exact List.mem_append_left _ hq
    · exact List.mem_append_right _ (weightsAll_mem r h hq)
theorem weights_in {ts : List TypeId} {ds : List (DataW H)} {j : Nat} {d : DataW H} {t : TypeId} (hsz : (DataW.weightsEach Tryd.prog ts ds).all (· ≤ reachBytes) = true) (ht : ts[j]? = some t) (hj : ds[j]? = some d) : ∀ q ∈ d.weights Tryd.prog t, q ≤ reachBytes := fun q hq => by
  have := List.all_eq_true.1 hsz _ (DataW.weights_mem_each ht hj q hq)
  simpa using this
theorem mx_weights (a b c d : DataW H) : (DataW.agg [a, b, c, d]).weights Tryd.prog 44 = a.weights Tryd.prog 3 ++ (b.weights Tryd.prog 3 ++ (c.weights Tryd.prog 3 ++ (d.weights Tryd.prog 24 ++ []))) := by
  rw [DataW.weights.eq_def]
  simp only [Tryd.underlying44]
  rfl
/-- A matrix of a list that came in. -/
def XOk (W : World) (x : MX) (a : Option Addr) : Prop := Dts W a x.ds ∧ x.ds.length ≤ 140737488351232 ∧ ∀ i, i < x.ds.length → 0 ≤ x.ds.getD i 0 ∧ x.ds.getD i 0 ≤ 18446744073709551615
set_option maxRecDepth 100000 in
theorem mx_in {fuel : Nat} {cs : List Value} {y : DataW H × List MemPlace} (h : DataW.trod enc Tryd.prog W 0 spare held fuel 44 cs = some y) :
    ∃ (x : MX) (a : Option Addr) (c : Nat), cs = [.int .i64 x.lv, .int .i64 x.ce, .int .i64 x.ep, .slice a x.ds.length c] ∧ ((∀ q ∈ y.1.weights Tryd.prog 44, q ≤ reachBytes) → XOk W x a) := by
  obtain ⟨xs, n, _, hx, hl, hlen, hf⟩ := DataW.trod_struct Tryd.underlying44 h
  rw [cells44'] at hl
  match cs, hl with
  | [c0, c1, c2, c3], _ =>
    match xs, hlen with
    | [y0, y1, y2, y3], _ =>
      have f0 := hf 0 _ rfl
      have f1 := hf 1 _ rfl
      have f2 := hf 2 _ rfl
      have f3 := hf 3 _ rfl
      simp [cells3', cells24'] at f0 f1 f2 f3
      obtain ⟨k0, e0, _⟩ := DataW.trod_int Tryd.underlying3 f0
      obtain ⟨k1, e1, _⟩ := DataW.trod_int Tryd.underlying3 f1
      obtain ⟨k2, e2, _⟩ := DataW.trod_int Tryd.underlying3 f2
      simp at e0 e1 e2
      subst e0 e1 e2
      obtain ⟨a, c, is, rfl, k1', k2', k3'⟩ := ints24_in f3
      refine ⟨⟨k0, k1, k2, is⟩, a, c, rfl, fun hw => ?_⟩
      have hx' : y.1 = .agg [y0.1, y1.1, y2.1, y3.1] := by rw [hx]; rfl
      rw [hx', mx_weights] at hw
      exact ⟨k1', k3' (fun q hq => hw q (List.mem_append_right _ (List.mem_append_right _ (List.mem_append_right _ (List.mem_append_left _ hq))))), k2'⟩
set_option maxRecDepth 100000 in
theorem mats_in {fuel : Nat} {v : Value} {y : DataW H × List MemPlace} (hy : DataW.trod enc Tryd.prog W 0 spare held fuel 23 [v] = some y) (hW : ∀ q ∈ y.1.weights Tryd.prog 23, q ≤ reachBytes) :
    ∃ a cap l, v = .slice a l.length cap ∧ Mts W a l ∧ l.length ≤ 140737488351232 ∧ ∀ j, j < l.length → (mat l j).ds.length ≤ 140737488351232 ∧ ∀ i, i < (mat l j).ds.length → 0 ≤ (mat l j).ds.getD i 0 ∧ (mat l j).ds.getD i 0 ≤ 18446744073709551615 := by
  rcases open_slice Tryd.underlying23 hy with ⟨hv, _⟩ | ⟨a, len, cap, mm, nn, D, Pl, hv, hba, hlc, hcm, hmm, hyx, hel⟩
  · simp at hv
    subst hv
    exact ⟨none, 0, [], rfl, Or.inl rfl, by simp, fun j hj => absurd hj (by simp)⟩
  · simp at hv
    subst hv
    have hlm : len ≤ mm := by rw [hmm]; split <;> omega
    rw [cells44'] at hel
    rw [hyx] at hW
    rw [DataW.weights.eq_def] at hW
    simp only [Tryd.underlying23] at hW
    have hw := hW _ List.mem_cons_self
    rw [bytes44'] at hw
    simp only [List.length_map, List.length_range, reachBytes] at hw
    have : Inhabited (MX × Option Addr × Nat) := ⟨⟨mxz, none, 0⟩⟩
    obtain ⟨V, hV⟩ := choose_lt (α := MX × Option Addr × Nat) (n := len) (p := fun i t => W.cells? 0 (a.add (i * 4)) 4 = some [.int .i64 t.1.lv, .int .i64 t.1.ce, .int .i64 t.1.ep, .slice t.2.1 t.1.ds.length t.2.2] ∧ XOk W t.1 t.2.1) (fun i hi => by
      obtain ⟨cs', hc, ht'⟩ := hel i (by omega)
      obtain ⟨x, ax, cx, e, hok⟩ := mx_in ht'
      subst e
      refine ⟨⟨x, ax, cx⟩, hc, hok (fun q hq => hW q (List.mem_cons_of_mem _ ?_))⟩
      exact List.mem_append_left _ (weightsAll_mem _ (List.mem_map.2 ⟨i, List.mem_range.2 hi, rfl⟩) hq))
    have hg : ∀ j, j < len → mat ((List.range len).map fun i => (V i).1) j = (V j).1 := fun j hj => by simp [mat, hj]
    refine ⟨some a, cap, (List.range len).map fun i => (V i).1, by simp, ?_, by simp; omega, fun j hj => ?_⟩
    · rcases Nat.eq_zero_or_pos len with h0 | h0
      · subst h0; exact Or.inl rfl
      obtain ⟨b, off, spot⟩ := a
      have hc0 := (World.cells?_some (hV 0 h0).1).2.2 0 (by decide)
      have hspot : spot = none := by
        have e : W.cell? ((((⟨b, off, spot⟩ : Addr).add (0 * 4))).add 0) = some (.int .i64 (V 0).1.lv) := hc0
        simpa [Addr.add] using World.cell?_spot e
      subst hspot
      have hat : ∀ j, j < len → W.cell? ⟨b, off + j * 4, none⟩ = some (.int .i64 (V j).1.lv) ∧ W.cell? ⟨b, off + j * 4 + 1, none⟩ = some (.int .i64 (V j).1.ce) ∧ W.cell? ⟨b, off + j * 4 + 2, none⟩ = some (.int .i64 (V j).1.ep) ∧ W.cell? ⟨b, off + j * 4 + 3, none⟩ = some (.slice (V j).2.1 (V j).1.ds.length (V j).2.2) := by
        intro j hj
        have hcj := (World.cells?_some (hV j hj).1).2.2
        have e0 := hcj 0 (by decide)
        have e1 := hcj 1 (by decide)
        have e2 := hcj 2 (by decide)
        have e3 := hcj 3 (by decide)
        rw [Go.WideShapes.add_plain, Go.WideShapes.add_plain] at e0 e1 e2 e3
        exact ⟨e0, e1, e2, e3⟩
      refine Or.inr ⟨b, off, rfl, World.block_lt_of_cell? W _ (hat 0 h0).1, fun j hj => ?_⟩
      have hj' : j < len := by simpa using hj
      obtain ⟨h1, h2, h3, h4⟩ := hat j hj'
      rw [hg j hj']
      exact ⟨(V j).2.1, (V j).2.2, (hV j hj').2.1, h1, h2, h3, h4⟩
    · have hj' : j < len := by simpa using hj
      rw [hg j hj']
      exact (hV j hj').2.2
theorem msg_weights (a b c d e f g h i j k : DataW H) : (DataW.agg [a, b, c, d, e, f, g, h, i, j, k]).weights Tryd.prog 26 = a.weights Tryd.prog 3 ++ (b.weights Tryd.prog 3 ++ (c.weights Tryd.prog 3 ++ (d.weights Tryd.prog 3 ++ (e.weights Tryd.prog 3 ++ (f.weights Tryd.prog 3 ++ (g.weights Tryd.prog 3 ++ (h.weights Tryd.prog 3 ++ (i.weights Tryd.prog 22 ++ (j.weights Tryd.prog 23 ++ (k.weights Tryd.prog 24 ++ [])))))))))) := by
  rw [DataW.weights.eq_def]
  simp only [Tryd.underlying26]
  rfl
set_option maxRecDepth 100000 in
theorem msg_in {ts : List TypeId} {ds : List (DataW H)} {j : Nat} {v : Value} {d : DataW H} {p : List MemPlace} {base : Nat} (hval : Value.okWide Tryd.prog W .any base 26 v) (hd : DataW.Trod enc Tryd.prog W 0 spare held 26 v d p)
    (hsz : (DataW.weightsEach Tryd.prog ts ds).all (· ≤ reachBytes) = true) (ht : ts[j]? = some 26) (hj : ds[j]? = some d) : ∃ (m : MM) (q : Ad), v = .agg (msC m q) ∧ MsIn W m q ∧ Rng m ∧ Fit m := by
  obtain ⟨vs, rfl, _⟩ := Go.WideShapes.okWide_struct Tryd.underlying26 hval
  obtain ⟨fuel, hf⟩ := hd
  obtain ⟨xs, n, _, hx, hl, hlen, hff⟩ := DataW.trod_struct Tryd.underlying26 hf
  rw [cells26'] at hl
  have hl' : vs.toList.length = 11 := hl
  match hvs : vs.toList, hl' with
  | [c0, c1, c2, c3, c4, c5, c6, c7, c8, c9, c10], _ =>
    match xs, hlen with
    | [y0, y1, y2, y3, y4, y5, y6, y7, y8, y9, y10], _ =>
      have f0 := hff 0 _ rfl
      have f1 := hff 1 _ rfl
      have f2 := hff 2 _ rfl
      have f3 := hff 3 _ rfl
      have f4 := hff 4 _ rfl
      have f5 := hff 5 _ rfl
      have f6 := hff 6 _ rfl
      have f7 := hff 7 _ rfl
      have f8 := hff 8 _ rfl
      have f9 := hff 9 _ rfl
      have f10 := hff 10 _ rfl
      have hvc : (Value.agg vs).cells.toList = [c0, c1, c2, c3, c4, c5, c6, c7, c8, c9, c10] := hvs
      rw [hvc] at f0 f1 f2 f3 f4 f5 f6 f7 f8 f9 f10
      simp [cells3', cells22', cells23', cells24'] at f0 f1 f2 f3 f4 f5 f6 f7 f8 f9 f10
      obtain ⟨n0, e0, _⟩ := DataW.trod_int Tryd.underlying3 f0
      obtain ⟨n1, e1, _⟩ := DataW.trod_int Tryd.underlying3 f1
      obtain ⟨n2, e2, _⟩ := DataW.trod_int Tryd.underlying3 f2
      obtain ⟨n3, e3, _⟩ := DataW.trod_int Tryd.underlying3 f3
      obtain ⟨n4, e4, _⟩ := DataW.trod_int Tryd.underlying3 f4
      obtain ⟨n5, e5, _⟩ := DataW.trod_int Tryd.underlying3 f5
      obtain ⟨n6, e6, _⟩ := DataW.trod_int Tryd.underlying3 f6
      obtain ⟨n7, e7, _⟩ := DataW.trod_int Tryd.underlying3 f7
      simp at e0 e1 e2 e3 e4 e5 e6 e7
      subst e0 e1 e2 e3 e4 e5 e6 e7
      have hx' : d = .agg [y0.1, y1.1, y2.1, y3.1, y4.1, y5.1, y6.1, y7.1, y8.1, y9.1, y10.1] := (Prod.mk.inj hx).1
      have hw := weights_in hsz ht hj
      rw [hx', msg_weights] at hw
      obtain ⟨wa, wc, ws, rfl, w1, w2, w3⟩ := ints22_in f8
      obtain ⟨ma, mc, ms, rfl, m1, m2, m3⟩ := mats_in f9 (fun q hq => hw q (List.mem_append_right _ (List.mem_append_right _ (List.mem_append_right _ (List.mem_append_right _ (List.mem_append_right _ (List.mem_append_right _ (List.mem_append_right _ (List.mem_append_right _ (List.mem_append_right _ (List.mem_append_left _ hq)))))))))))
      obtain ⟨da, dc, ds', rfl, d1, d2, d3⟩ := ints24_in f10
      refine ⟨⟨n0, n1, n2, n3, n4, n5, n6, n7, ws, ms, ds'⟩, ⟨wa, wc, ma, mc, da, dc⟩, ?_, ⟨w1, m1, d1⟩, ⟨w2, d2, fun j hj => (m3 j hj).2⟩, ⟨w3 (fun q hq => hw q (List.mem_append_right _ (List.mem_append_right _ (List.mem_append_right _ (List.mem_append_right _ (List.mem_append_right _ (List.mem_append_right _ (List.mem_append_right _ (List.mem_append_right _ (List.mem_append_left _ hq)))))))))), m2, d3 (fun q hq => hw q (List.mem_append_right _ (List.mem_append_right _ (List.mem_append_right _ (List.mem_append_right _ (List.mem_append_right _ (List.mem_append_right _ (List.mem_append_right _ (List.mem_append_right _ (List.mem_append_right _ (List.mem_append_right _ (List.mem_append_left _ hq)))))))))))), fun j hj => (m3 j hj).1⟩⟩
      rw [← Array.toArray_toList (xs := vs), hvs]
      rfl
end
end Go.Proofs.YtchmiiclogmheaaDoor.C2
