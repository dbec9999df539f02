import Derived.OpenShut
import Derived.Deep.Slices
import Derived.SizedLaws
import Derived.ProofKit
import Derived.Test.YtaafkpojjdjphaaGreatQAC
import Derived.Test.YtaafkpojjdjphaaGreatQGA
set_option maxRecDepth 100000
namespace Go.Proofs.YtaafkpojjdjphaaGreat
open Go.RowKit
open Go.Deep (open_slice choose_lt)
theorem cells24 : Tryz.prog.cellsOf 24 = 2 := by kernel_rfl
theorem cellsI3 : Tryz.prog.cellsOf 3 = 1 := by kernel_rfl
theorem cells22 : Tryz.prog.cellsOf 22 = 1 := by kernel_rfl
theorem cells47 : Tryz.prog.cellsOf 82 = 1 := by kernel_rfl
theorem cells49 : Tryz.prog.cellsOf 109 = 3 := by kernel_rfl
theorem bytes49 : Tryz.prog.bytesOf 109 = 24 := by kernel_rfl
def GivenG (W : World) (v : Value) (N : Int) (a : Option Addr) (cap : Nat) (l : List A) : Prop :=
 v = .agg #[.int .i64 N, .slice a l.length cap] ∧ Arcs W a l ∧ (a = none → l = [] ∧ cap = 0) ∧ l.length * 24 ≤ 140737488351232 ∧ ∀ x ∈ l, 0 ≤ x.w ∧ x.w < 4294967296
section
variable {H : Type} {enc : TypeId × Value → H} {W : World} {spare : Nat → Bool} {held : Bool}
theorem trod_arc {fuel : Nat} {cs : List Value} {x : DataW H × List MemPlace} (h : DataW.trod enc Tryz.prog W 0 spare held fuel 109 cs = some x) :
  ∃ y : A, cs = [.int .i64 y.f, .int .i64 y.t, .int .u32 y.w] ∧ 0 ≤ y.w ∧ y.w < 4294967296 := by
 obtain ⟨xs, n, _, rfl, hl, hlen, hf⟩ := DataW.trod_struct Tryz.underlying109 h
 rw [cells49] at hl
 match cs, hl with
 | [c0, c1, c2], _ =>
   match xs, hlen with
   | [y0, y1, y2], _ =>
     have f0 := hf 0 _ rfl
     have f1 := hf 1 _ rfl
     have f2 := hf 2 _ rfl
     simp [cellsI3, cells47] at f0 f1 f2
     obtain ⟨k, e0, _⟩ := DataW.trod_int Tryz.underlying3 f0
     obtain ⟨u, e1, _⟩ := DataW.trod_int Tryz.underlying3 f1
     obtain ⟨s, e2, _, hwf⟩ := DataW.trod_int Tryz.underlying82 f2
     simp at e0 e1 e2
     subst e0 e1 e2
     have h1 : IntKind.u32.min ≤ s ∧ s ≤ IntKind.u32.max := by simpa [Lit.wf] using hwf
     have m1 : IntKind.u32.min = 0 := by decide
     have m2 : IntKind.u32.max = 4294967295 := by decide
     exact ⟨⟨k, u, s⟩, rfl, by show 0 ≤ s; omega, by show s < _; omega⟩
theorem trod_graph {fuel : Nat} {cs : List Value} {x : DataW H × List MemPlace} (h : DataW.trod enc Tryz.prog W 0 spare held fuel 24 cs = some x) :
  ∃ (N : Int) (v : Value) (y : DataW H × List MemPlace) (m : Nat), cs = [.int .i64 N, v] ∧ x.1 = .agg [.lit (.int .i64 N), y.1] ∧ DataW.trod enc Tryz.prog W 0 spare held m 22 [v] = some y := by
 obtain ⟨xs, n, _, rfl, hl, hlen, hf⟩ := DataW.trod_struct Tryz.underlying24 h
 rw [cells24] at hl
 match cs, hl with
 | [c0, c1], _ =>
   match xs, hlen with
   | [y0, y1], _ =>
     have f0 := hf 0 _ rfl
     have f1 := hf 1 _ rfl
     simp [cellsI3, cells22] at f0 f1
     obtain ⟨k, e0, g0, _⟩ := DataW.trod_int Tryz.underlying3 f0
     simp at e0
     subst e0 g0
     exact ⟨k, c1, y1, n, rfl, rfl, f1⟩
theorem agg_weights (k : Int) (d : DataW H) : (DataW.agg [.lit (.int .i64 k), d]).weights Tryz.prog 24 = d.weights Tryz.prog 22 ++ [] := by
 rw [DataW.weights.eq_def]
 simp only [Tryz.underlying24]
 rfl
theorem arcs_in {fuel : Nat} {v : Value} {y : DataW H × List MemPlace} (hy : DataW.trod enc Tryz.prog W 0 spare held fuel 22 [v] = some y) (hw : ∀ q ∈ y.1.weights Tryz.prog 22, q ≤ reachBytes) :
  ∃ a cap l, v = .slice a l.length cap ∧ Arcs W a l ∧ (a = none → l = [] ∧ cap = 0) ∧ l.length * 24 ≤ 140737488351232 ∧ ∀ x ∈ l, 0 ≤ x.w ∧ x.w < 4294967296 := by
 rcases open_slice Tryz.underlying22 hy with ⟨hv, _⟩ | ⟨a, len, cap, mm, nn, D, Pl, hv, hba, hlc, hcm, hmm, hyx, hel⟩
 ·simp at hv
  subst hv
  exact ⟨none, 0, [], rfl, Or.inl rfl, fun _ => ⟨rfl, rfl⟩, by simp, by simp⟩
 ·simp at hv
  subst hv
  have hlm : len ≤ mm := by rw [hmm]; split <;> omega
  rw [cells49] at hel
  rw [hyx] at hw
  rw [DataW.weights.eq_def] at hw
  simp only [Tryz.underlying22] at hw
  have hlen : len * 24 ≤ 140737488351232 := by
   have := hw _ List.mem_cons_self
   rw [bytes49] at this
   simp only [List.length_map, List.length_range, reachBytes] at this
   omega
  obtain ⟨V, hV⟩ := choose_lt (α := A) (n := len) (p := fun i t => W.cells? 0 (a.add (i * 3)) 3 = some [.int .i64 t.f, .int .i64 t.t, .int .u32 t.w] ∧ 0 ≤ t.w ∧ t.w < 4294967296) (fun i hi => by
   obtain ⟨cs', hc, ht⟩ := hel i (by omega)
   obtain ⟨t, rfl, ht2⟩ := trod_arc ht
   exact ⟨t, hc, ht2⟩)
  refine ⟨some a, cap, (List.range len).map V, by simp, ?_, (fun h => by cases h), by simpa using hlen, fun x hx => ?_⟩
  rotate_left
  ·obtain ⟨i, hi, rfl⟩ := List.mem_map.1 hx
   exact (hV i (by simpa using hi)).2
  by_cases h0 : 0 < len
  ·obtain ⟨b, off, spot⟩ := a
   have hc0 := (World.cells?_some (hV 0 h0).1).2.2 0 (by decide)
   have hspot : spot = none := by
    have e : W.cell? ((((⟨b, off, spot⟩ : Addr).add (0 * 3))).add 0) = some (.int .i64 (V 0).f) := hc0
    simpa [Addr.add] using World.cell?_spot e
   subst hspot
   have hat : ∀ j, j < len → (V j).at W b (off + j * 3) := by
    intro j hj
    have hcj := (World.cells?_some (hV j hj).1).2.2
    have e0 := hcj 0 (by decide)
    have e1 := hcj 1 (by decide)
    have e2 := hcj 2 (by decide)
    rw [Go.WideShapes.add_plain, Go.WideShapes.add_plain] at e0 e1 e2
    exact ⟨e0, e1, e2⟩
   refine Or.inr ⟨b, off, rfl, World.block_lt_of_cell? W _ (hat 0 h0).1, fun j hj => ?_⟩
   have hj' : j < len := by simpa using hj
   have e : ((List.range len).map V).getD j A.zero = V j := by simp [List.getD, hj']
   rw [e]
   exact hat j hj'
  ·have : len = 0 := by omega
   subst this
   exact Or.inl rfl
theorem graph_in {ts : List TypeId} {ds : List (DataW H)} {j : Nat} {v : Value} {d : DataW H} {p : List MemPlace} {base : Nat} (hval : Value.okWide Tryz.prog W .any base 24 v) (hd : DataW.Trod enc Tryz.prog W 0 spare held 24 v d p)
  (hsz : (DataW.weightsEach Tryz.prog ts ds).all (· ≤ reachBytes) = true) (ht : ts[j]? = some 24) (hj : ds[j]? = some d) : ∃ N a cap l, GivenG W v N a cap l := by
 obtain ⟨cs, rfl, _⟩ := Go.WideShapes.okWide_struct Tryz.underlying24 hval
 obtain ⟨fuel, hf⟩ := hd
 obtain ⟨N, v, y, m, hcs, hx, hy⟩ := trod_graph hf
 have hx' : d = .agg [.lit (.int .i64 N), y.1] := hx
 have hw : ∀ q ∈ y.1.weights Tryz.prog 22, q ≤ reachBytes := fun q hq => by
  have := List.all_eq_true.1 hsz _ (DataW.weights_mem_each ht hj q (by rw [hx', agg_weights, List.append_nil]; exact hq))
  simpa using this
 obtain ⟨a, cap, l, rfl, h1, h2, h3, h4⟩ := arcs_in hy hw
 refine ⟨N, a, cap, l, ?_, h1, h2, h3, h4⟩
 have : cs.toList = [.int .i64 N, .slice a l.length cap] := hcs
 rw [← Array.toArray_toList (xs := cs), this]
end
theorem bytesInt : Tryz.prog.bytesOf 3 = 8 := by kernel_rfl
section
variable {H : Type} {enc : TypeId × Value → H} {W : World} {spare : Nat → Bool} {held : Bool}
end
instance : Inhabited Cl := ⟨Cl.zero⟩
theorem cells28 : Tryz.prog.cellsOf 28 = 2 := by kernel_rfl
theorem cells25 : Tryz.prog.cellsOf 25 = 1 := by kernel_rfl
theorem cells26 : Tryz.prog.cellsOf 26 = 1 := by kernel_rfl
section
variable {H : Type} {enc : TypeId × Value → H} {W : World} {spare : Nat → Bool} {held : Bool}
theorem ints_in {fuel : Nat} {v : Value} {y : DataW H × List MemPlace} (hy : DataW.trod enc Tryz.prog W 0 spare held fuel 25 [v] = some y) :
  ∃ a cap xs, v = .slice a xs.length cap ∧ Ints W a xs ∧ (a = none → xs = [] ∧ cap = 0) ∧ xs.length ≤ cap ∧ cap ≤ 9223372036854775807 ∧ ((∀ q ∈ y.1.weights Tryz.prog 25, q ≤ reachBytes) → xs.length * 8 ≤ 140737488351232) := by
 rcases open_slice Tryz.underlying25 hy with ⟨hv, _⟩ | ⟨a, len, cap, mm, nn, D, Pl, hv, hba, hlc, hcm, hmm, hyx, hel⟩
 ·simp at hv
  subst hv
  exact ⟨none, 0, [], rfl, Or.inl rfl, fun _ => ⟨rfl, rfl⟩, Nat.le_refl _, by omega, fun _ => by simp⟩
 ·simp at hv
  subst hv
  have hlm : len ≤ mm := by rw [hmm]; split <;> omega
  rw [cellsI3] at hel
  obtain ⟨V, hV⟩ := choose_lt (α := Int) (n := len) (p := fun i t => W.cells? 0 (a.add (i * 1)) 1 = some [.int .i64 t]) (fun i hi => by
   obtain ⟨cs', hc, ht'⟩ := hel i (by omega)
   obtain ⟨t, e, _⟩ := DataW.trod_int Tryz.underlying3 ht'
   subst e
   exact ⟨t, hc⟩)
  refine ⟨some a, cap, (List.range len).map V, by simp, ?_, (fun h => by cases h), by simpa using hlc, hcm, fun hw => ?_⟩
  ·by_cases h0 : 0 < len
   ·obtain ⟨b, off, spot⟩ := a
    have hc0 := (World.cells?_some (hV 0 h0)).2.2 0 (by decide)
    have hspot : spot = none := by
     have e : W.cell? ((((⟨b, off, spot⟩ : Addr).add (0 * 1))).add 0) = some (.int .i64 (V 0)) := hc0
     simpa [Addr.add] using World.cell?_spot e
    subst hspot
    have hat : ∀ j, j < len → W.cell? ⟨b, off + j, none⟩ = some (.int .i64 (V j)) := by
     intro j hj
     have e0 := (World.cells?_some (hV j hj)).2.2 0 (by decide)
     rw [Go.WideShapes.add_plain, Go.WideShapes.add_plain] at e0
     simpa using e0
    refine Or.inr ⟨b, off, rfl, World.block_lt_of_cell? W _ (hat 0 h0), fun j hj => ?_⟩
    have hj' : j < len := by simpa using hj
    have e : ((List.range len).map V).getD j 0 = V j := by simp [List.getD, hj']
    rw [e]
    exact hat j hj'
   ·have : len = 0 := by omega
    subst this
    exact Or.inl rfl
  ·rw [hyx] at hw
   rw [DataW.weights.eq_def] at hw
   simp only [Tryz.underlying25] at hw
   have := hw _ List.mem_cons_self
   rw [bytesInt] at this
   simp only [List.length_map, List.length_range, reachBytes] at this ⊢
   omega
def GivenN (W : World) (v : Value) (ba : Option Addr) (bs : List Int) (bc : Nat) (ca : Option Addr) (C : List Cl) (cc : Nat) : Prop :=
 v = .agg #[.slice ba bs.length bc, .slice ca C.length cc] ∧ Ints W ba bs ∧ Rws W ca C ∧ (ba = none → bs = [] ∧ bc = 0) ∧ bs.length * 8 ≤ 140737488351232
theorem nest_weights (d e : DataW H) : (DataW.agg [d, e]).weights Tryz.prog 28 = d.weights Tryz.prog 25 ++ (e.weights Tryz.prog 26 ++ []) := by
 rw [DataW.weights.eq_def]
 simp only [Tryz.underlying28]
 rfl
theorem rws_in {fuel : Nat} {v : Value} {y : DataW H × List MemPlace} (hy : DataW.trod enc Tryz.prog W 0 spare held fuel 26 [v] = some y) :
  ∃ a cap C, v = .slice a C.length cap ∧ Rws W a C := by
 rcases open_slice Tryz.underlying26 hy with ⟨hv, _⟩ | ⟨a, len, cap, mm, nn, D, Pl, hv, hba, hlc, hcm, hmm, hyx, hel⟩
 ·simp at hv
  subst hv
  exact ⟨none, 0, [], rfl, Or.inl rfl, fun j hj => absurd hj (by simp)⟩
 ·simp at hv
  subst hv
  have hlm : len ≤ mm := by rw [hmm]; split <;> omega
  rw [cells25] at hel
  obtain ⟨V, hV⟩ := choose_lt (α := Cl) (n := len) (p := fun i t => W.cells? 0 (a.add (i * 1)) 1 = some [t.val] ∧ Ints W t.a t.xs ∧ t.xs.length ≤ 9223372036854775807) (fun i hi => by
   obtain ⟨cs', hc, ht'⟩ := hel i (by omega)
   have hl1 := (World.cells?_some hc).2.1
   match cs', hl1 with
   | [u], _ =>
     obtain ⟨xa, xc, xs, rfl, h1, _, h3, h4, _⟩ := ints_in ht'
     exact ⟨⟨xa, xc, xs⟩, hc, h1, by show xs.length ≤ _; omega⟩)
  refine ⟨some a, cap, (List.range len).map V, by simp, ?_, fun j hj => ?_⟩
  ·by_cases h0 : 0 < len
   ·obtain ⟨b, off, spot⟩ := a
    have hc0 := (World.cells?_some (hV 0 h0).1).2.2 0 (by decide)
    have hspot : spot = none := by
     have e : W.cell? ((((⟨b, off, spot⟩ : Addr).add (0 * 1))).add 0) = some (V 0).val := hc0
     simpa [Addr.add] using World.cell?_spot e
    subst hspot
    have hat : ∀ j, j < len → W.cell? ⟨b, off + j, none⟩ = some (V j).val := by
     intro j hj
     have e0 := (World.cells?_some (hV j hj).1).2.2 0 (by decide)
     rw [Go.WideShapes.add_plain, Go.WideShapes.add_plain] at e0
     simpa using e0
    refine Or.inr ⟨b, off, rfl, World.block_lt_of_cell? W _ (hat 0 h0), fun j hj => ?_⟩
    have hj' : j < len := by simpa using hj
    have e : cl ((List.range len).map V) j = V j := by simp [cl, List.getD, hj']
    rw [e]
    exact hat j hj'
   ·have : len = 0 := by omega
    subst this
    exact Or.inl rfl
  ·have hj' : j < len := by simpa using hj
   have e : cl ((List.range len).map V) j = V j := by simp [cl, List.getD, hj']
   rw [e]
   exact (hV j hj').2
theorem nest_in {ts : List TypeId} {ds : List (DataW H)} {j : Nat} {v : Value} {d : DataW H} {p : List MemPlace} {base : Nat} (hval : Value.okWide Tryz.prog W .any base 28 v) (hd : DataW.Trod enc Tryz.prog W 0 spare held 28 v d p)
  (hsz : (DataW.weightsEach Tryz.prog ts ds).all (· ≤ reachBytes) = true) (ht : ts[j]? = some 28) (hj : ds[j]? = some d) : ∃ ba bs bc ca C cc, GivenN W v ba bs bc ca C cc := by
 obtain ⟨vs, rfl, _⟩ := Go.WideShapes.okWide_struct Tryz.underlying28 hval
 obtain ⟨fuel, hf⟩ := hd
 obtain ⟨xs, n, _, hx, hl, hlen, hff⟩ := DataW.trod_struct Tryz.underlying28 hf
 rw [cells28] at hl
 have hl' : vs.toList.length = 2 := hl
 match hvs : vs.toList, hl' with
 | [c0, c1], _ =>
   match xs, hlen with
   | [y0, y1], _ =>
     have f0 := hff 0 _ rfl
     have f1 := hff 1 _ rfl
     have hvc : (Value.agg vs).cells.toList = [c0, c1] := hvs
     rw [hvc] at f0 f1
     simp [cells25, cells26] at f0 f1
     obtain ⟨ba, bc, bs, rfl, b1, b2, b3, b4, b5⟩ := ints_in f0
     obtain ⟨ca, cc, C, rfl, k1⟩ := rws_in f1
     have hx' : d = .agg [y0.1, y1.1] := (Prod.mk.inj hx).1
     have hw : ∀ q ∈ d.weights Tryz.prog 28, q ≤ reachBytes := fun q hq => by
      have := List.all_eq_true.1 hsz _ (DataW.weights_mem_each ht hj q hq)
      simpa using this
     rw [hx', nest_weights] at hw
     refine ⟨ba, bs, bc, ca, C, cc, ?_, b1, k1, b2, b5 (fun q hq => hw q (List.mem_append_left _ hq))⟩
     rw [← Array.toArray_toList (xs := vs), hvs]
end
theorem cells91 : Tryz.prog.cellsOf 91 = 2 := by kernel_rfl
theorem cells79 : Tryz.prog.cellsOf 79 = 1 := by kernel_rfl
theorem cells84 : Tryz.prog.cellsOf 84 = 2 := by kernel_rfl
theorem bytes84 : Tryz.prog.bytesOf 84 = 16 := by kernel_rfl
theorem u32_bd {a : Int} (w : (Lit.int .u32 a).wf = true) : 0 ≤ a ∧ a < 4294967296 := by
 have e1 : IntKind.u32.min = 0 := rfl
 have e2 : IntKind.u32.max = 4294967295 := rfl
 simp [Lit.wf, e1, e2] at w
 omega
def GivenX (W : World) (v : Value) (a : Option Addr) (l : List G3.Cg) (c : Nat) (b : Option Addr) (m : List G3.Cg) (cm : Nat) : Prop :=
 v = .agg #[.slice a l.length c, .slice b m.length cm] ∧ (G3.Cgs W a l ∧ l.length * 16 ≤ 140737488351232 ∧ ∀ x ∈ l, 0 ≤ x.w ∧ x.w < 4294967296) ∧ (G3.Cgs W b m ∧ m.length * 16 ≤ 140737488351232 ∧ ∀ x ∈ m, 0 ≤ x.w ∧ x.w < 4294967296)
section
variable {H : Type} {enc : TypeId × Value → H} {W : World} {spare : Nat → Bool} {held : Bool}
theorem trod_cg {fuel : Nat} {cs : List Value} {x : DataW H × List MemPlace} (h : DataW.trod enc Tryz.prog W 0 spare held fuel 84 cs = some x) :
  ∃ y : G3.Cg, cs = [.int .i64 y.a, .int .u32 y.w] ∧ (0 ≤ y.w ∧ y.w < 4294967296) := by
 obtain ⟨xs, n, _, rfl, hl, hlen, hf⟩ := DataW.trod_struct Tryz.underlying84 h
 rw [cells84] at hl
 match cs, hl with
 | [c0, c1], _ =>
   match xs, hlen with
   | [y0, y1], _ =>
     have f0 := hf 0 _ rfl
     have f1 := hf 1 _ rfl
     simp [cellsI3, cells47] at f0 f1
     obtain ⟨k, e0, _⟩ := DataW.trod_int Tryz.underlying3 f0
     obtain ⟨u, e1, _, wf⟩ := DataW.trod_int Tryz.underlying82 f1
     simp at e0 e1
     subst e0 e1
     exact ⟨⟨k, u⟩, rfl, u32_bd wf⟩
theorem cgs_in {fuel : Nat} {v : Value} {y : DataW H × List MemPlace} (hy : DataW.trod enc Tryz.prog W 0 spare held fuel 79 [v] = some y) :
  ∃ a cap xs, v = .slice a xs.length cap ∧ G3.Cgs W a xs ∧ ((∀ q ∈ y.1.weights Tryz.prog 79, q ≤ reachBytes) → xs.length * 16 ≤ 140737488351232) ∧ ∀ x ∈ xs, 0 ≤ x.w ∧ x.w < 4294967296 := by
 rcases open_slice Tryz.underlying79 hy with ⟨hv, _⟩ | ⟨a, len, cap, mm, nn, D, Pl, hv, hba, hlc, hcm, hmm, hyx, hel⟩
 ·simp at hv
  subst hv
  exact ⟨none, 0, [], rfl, Or.inl rfl, fun _ => by simp, fun x hx => by cases hx⟩
 ·simp at hv
  subst hv
  have hlm : len ≤ mm := by rw [hmm]; split <;> omega
  rw [cells84] at hel
  obtain ⟨V, hV⟩ := choose_lt (α := G3.Cg) (n := len) (p := fun i t => W.cells? 0 (a.add (i * 2)) 2 = some [.int .i64 t.a, .int .u32 t.w] ∧ (0 ≤ t.w ∧ t.w < 4294967296)) (fun i hi => by
   obtain ⟨cs', hc, ht'⟩ := hel i (by omega)
   obtain ⟨t, e, hb⟩ := trod_cg ht'
   subst e
   exact ⟨t, hc, hb⟩)
  refine ⟨some a, cap, (List.range len).map V, by simp, ?_, fun hw => ?_, fun x hx => ?_⟩
  ·by_cases h0 : 0 < len
   ·obtain ⟨b, off, spot⟩ := a
    have hc0 := (World.cells?_some (hV 0 h0).1).2.2 0 (by decide)
    have hspot : spot = none := by
     have e : W.cell? ((((⟨b, off, spot⟩ : Addr).add (0 * 2))).add 0) = some (.int .i64 (V 0).a) := hc0
     simpa [Addr.add] using World.cell?_spot e
    subst hspot
    have hat : ∀ j, j < len → W.cell? ⟨b, off + j * 2, none⟩ = some (.int .i64 (V j).a) ∧ W.cell? ⟨b, off + j * 2 + 1, none⟩ = some (.int .u32 (V j).w) := by
     intro j hj
     have hcj := (World.cells?_some (hV j hj).1).2.2
     have e0 := hcj 0 (by decide)
     have e1 := hcj 1 (by decide)
     rw [Go.WideShapes.add_plain, Go.WideShapes.add_plain] at e0 e1
     exact ⟨e0, e1⟩
    refine Or.inr ⟨b, off, rfl, World.block_lt_of_cell? W _ (hat 0 h0).1, fun j hj => ?_⟩
    have hj' : j < len := by simpa using hj
    have e : ((List.range len).map V).getD j G3.Cg.zero = V j := by simp [List.getD, hj']
    rw [e]
    exact hat j hj'
   ·have : len = 0 := by omega
    subst this
    exact Or.inl rfl
  ·rw [hyx] at hw
   rw [DataW.weights.eq_def] at hw
   simp only [Tryz.underlying79] at hw
   have := hw _ List.mem_cons_self
   rw [bytes84] at this
   simp only [List.length_map, List.length_range, reachBytes] at this ⊢
   omega
  ·obtain ⟨q, hq, rfl⟩ := List.mem_map.1 hx
   exact (hV q (List.mem_range.1 hq)).2
theorem changes_weights (d e : DataW H) : (DataW.agg [d, e]).weights Tryz.prog 91 = d.weights Tryz.prog 79 ++ (e.weights Tryz.prog 79 ++ []) := by
 rw [DataW.weights.eq_def]
 simp only [Tryz.underlying91]
 rfl
theorem weightsC_in {ts : List TypeId} {ds : List (DataW H)} {j : Nat} {d : DataW H} {t : TypeId} (hsz : (DataW.weightsEach Tryz.prog ts ds).all (· ≤ reachBytes) = true) (ht : ts[j]? = some t) (hj : ds[j]? = some d) : ∀ q ∈ d.weights Tryz.prog t, q ≤ reachBytes := fun q hq => by
 have := List.all_eq_true.1 hsz _ (DataW.weights_mem_each ht hj q hq)
 simpa using this
theorem changes_in {ts : List TypeId} {ds : List (DataW H)} {j : Nat} {v : Value} {d : DataW H} {p : List MemPlace} {base : Nat} (hval : Value.okWide Tryz.prog W .any base 91 v) (hd : DataW.Trod enc Tryz.prog W 0 spare held 91 v d p)
  (hsz : (DataW.weightsEach Tryz.prog ts ds).all (· ≤ reachBytes) = true) (ht : ts[j]? = some 91) (hj : ds[j]? = some d) : ∃ a l c b m cm, GivenX W v a l c b m cm := by
 obtain ⟨vs, rfl, _⟩ := Go.WideShapes.okWide_struct Tryz.underlying91 hval
 obtain ⟨fuel, hf⟩ := hd
 obtain ⟨xs, n, _, hx, hl, hlen, hff⟩ := DataW.trod_struct Tryz.underlying91 hf
 rw [cells91] at hl
 have hl' : vs.toList.length = 2 := hl
 match hvs : vs.toList, hl' with
 | [c0, c1], _ =>
   match xs, hlen with
   | [y0, y1], _ =>
     have f0 := hff 0 _ rfl
     have f1 := hff 1 _ rfl
     have hvc : (Value.agg vs).cells.toList = [c0, c1] := hvs
     rw [hvc] at f0 f1
     simp [cells79] at f0 f1
     obtain ⟨ca, cc, cs, rfl, k1, k2, k3⟩ := cgs_in f0
     obtain ⟨da, dc, ds, rfl, j1, j2, j3⟩ := cgs_in f1
     have hx' : d = .agg [y0.1, y1.1] := (Prod.mk.inj hx).1
     have hw := weightsC_in hsz ht hj
     rw [hx', changes_weights] at hw
     refine ⟨ca, cs, cc, da, ds, dc, ?_, ⟨k1, k2 (fun q hq => hw q (List.mem_append_left _ hq)), k3⟩, ⟨j1, j2 (fun q hq => hw q (List.mem_append_right _ (List.mem_append_left _ hq))), j3⟩⟩
     rw [← Array.toArray_toList (xs := vs), hvs]
end
end Go.Proofs.YtaafkpojjdjphaaGreat
