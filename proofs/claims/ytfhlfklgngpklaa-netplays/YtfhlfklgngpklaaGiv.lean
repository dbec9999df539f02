/-
  Letters and calls of a net, that came in, as the walks want them.
-/
import Derived.Test.YtfhlfklgngpklaaWk
import Derived.OpenShut
import Derived.ChangeArms
import Derived.Deep.Slices
import Derived.SizedLaws
import Derived.ProofKit
import Derived.ChangeOld
namespace Go.Proofs.Ytfhlfklgngpklaa
open Go.RowKit
open Go.Deep (open_slice choose_lt)
/-- A call: its kind, nodes, number, letter. -/
structure Ac where
  kd : Int
  fr : Int
  to_ : Int
  k : Int
  s : ByteArray
instance : Inhabited Ac := ⟨⟨0, 0, 0, 0, ⟨#[]⟩⟩⟩
def i64B (x : Int) : Prop := -9223372036854775808 ≤ x ∧ x ≤ 9223372036854775807
def Ac.ok (x : Ac) : Prop := i64B x.kd ∧ i64B x.fr ∧ i64B x.to_ ∧ i64B x.k ∧ x.s.size ≤ 140737488351232
/-- The calls of a slice lie so in memory. -/
def Acs (B : Nat) (W : World) (a : Option Addr) (l : List Ac) : Prop :=
  0 < l.length → ∃ b o, a = some ⟨b, o, none⟩ ∧ b < B ∧ ∀ j (hj : j < l.length), W.cell? ⟨b, o + j * 5, none⟩ = some (.int .i64 (l[j]).kd) ∧ W.cell? ⟨b, o + j * 5 + 1, none⟩ = some (.int .i64 (l[j]).fr) ∧ W.cell? ⟨b, o + j * 5 + 2, none⟩ = some (.int .i64 (l[j]).to_) ∧
    W.cell? ⟨b, o + j * 5 + 3, none⟩ = some (.int .i64 (l[j]).k) ∧ W.cell? ⟨b, o + j * 5 + 4, none⟩ = some (.string (l[j]).s) ∧ (l[j]).ok
/-- The letters of a slice lie so in memory. -/
def StrB (B : Nat) (W : World) (a : Option Addr) (l : List ByteArray) : Prop :=
  0 < l.length → ∃ b o, a = some ⟨b, o, none⟩ ∧ b < B ∧ ∀ j (hj : j < l.length), W.cell? ⟨b, o + j, none⟩ = some (.string l[j]) ∧ l[j].size ≤ 140737488351232
def GivenL (W : World) (v : Value) (a : Option Addr) (cap : Nat) (l : List ByteArray) : Prop :=
  v = .slice a l.length cap ∧ StrB W.heap.size W a l ∧ l.length ≤ 140737488351232
def GivenA (W : World) (v : Value) (a : Option Addr) (cap : Nat) (l : List Ac) : Prop :=
  v = .slice a l.length cap ∧ Acs W.heap.size W a l ∧ l.length ≤ 140737488351232
theorem i64_in {a : Int} (w : (Lit.int .i64 a).wf = true) : i64B a := by
  have e2 : IntKind.i64.max = 9223372036854775807 := rfl
  have e3 : IntKind.i64.min = -9223372036854775808 := rfl
  simp [Lit.wf, e2, e3] at w
  exact w
theorem cells9 : Try.prog.cellsOf 9 = 1 := by kernel_rfl
theorem cells33 : Try.prog.cellsOf 33 = 5 := by kernel_rfl
theorem bytes9 : Try.prog.bytesOf 9 = 16 := by kernel_rfl
theorem bytes33 : Try.prog.bytesOf 33 = 48 := by kernel_rfl
section
variable {H : Type} {enc : TypeId × Value → H} {W : World} {spare : Nat → Bool} {held : Bool}
theorem weightsAll_mem {t : TypeId} {q : Nat} {d : DataW H} : ∀ (L : List (DataW H)), d ∈ L → q ∈ d.weights Try.prog t → q ∈ DataW.weightsAll Try.prog t L
  | [], h, _ => by cases h
  | x :: r, h, hq => by
    rw [DataW.weightsAll.eq_def]
    rcases List.mem_cons.1 h with rfl | h
    · exact List.mem_append_left _ hq
    · exact List.mem_append_right _ (weightsAll_mem r h hq)
theorem weights_in {ts : List TypeId} {ds : List (DataW H)} {j : Nat} {d : DataW H} {t : TypeId} (hsz : (DataW.weightsEach Try.prog ts ds).all (· ≤ reachBytes) = true) (ht : ts[j]? = some t) (hj : ds[j]? = some d) : ∀ q ∈ d.weights Try.prog t, q ≤ reachBytes := fun q hq => by
  have := List.all_eq_true.1 hsz _ (DataW.weights_mem_each ht hj q hq)
  simpa using this
theorem str_weight {l : List UInt8} (h : ∀ q ∈ (DataW.lit (H := H) (.string l)).weights Try.prog 9, q ≤ reachBytes) : l.length ≤ 140737488351232 := by
  have := h l.length (by simp [DataW.weights])
  simpa [reachBytes] using this
theorem act_weights (a b c d e : DataW H) : (DataW.agg [a, b, c, d, e]).weights Try.prog 33 = a.weights Try.prog 3 ++ (b.weights Try.prog 3 ++ (c.weights Try.prog 3 ++ (d.weights Try.prog 3 ++ (e.weights Try.prog 9 ++ [])))) := by
  rw [DataW.weights.eq_def]
  simp only [Try.underlying33]
  rfl
set_option maxRecDepth 100000 in
theorem act_in {fuel : Nat} {cs : List Value} {y : DataW H × List MemPlace} (h : DataW.trod enc Try.prog W 0 spare held fuel 33 cs = some y) :
    ∃ x : Ac, cs = [.int .i64 x.kd, .int .i64 x.fr, .int .i64 x.to_, .int .i64 x.k, .string x.s] ∧ ((∀ q ∈ y.1.weights Try.prog 33, q ≤ reachBytes) → x.ok) := by
  obtain ⟨xs, n, _, hx, hl, hlen, hf⟩ := DataW.trod_struct Try.underlying33 h
  rw [cells33] at hl
  match cs, hl with
  | [c0, c1, c2, c3, c4], _ =>
    match xs, hlen with
    | [y0, y1, y2, y3, y4], _ =>
      have f0 := hf 0 _ rfl
      have f1 := hf 1 _ rfl
      have f2 := hf 2 _ rfl
      have f3 := hf 3 _ rfl
      have f4 := hf 4 _ rfl
      simp [cells3, cells9] at f0 f1 f2 f3 f4
      obtain ⟨k0, e0, _, w0⟩ := DataW.trod_int Try.underlying3 f0
      obtain ⟨k1, e1, _, w1⟩ := DataW.trod_int Try.underlying3 f1
      obtain ⟨k2, e2, _, w2⟩ := DataW.trod_int Try.underlying3 f2
      obtain ⟨k3, e3, _, w3⟩ := DataW.trod_int Try.underlying3 f3
      obtain ⟨s, e4, z4, _⟩ := DataW.trod_string Try.underlying9 f4
      simp at e0 e1 e2 e3 e4
      subst e0 e1 e2 e3 e4
      refine ⟨⟨k0, k1, k2, k3, s⟩, rfl, fun hw => ?_⟩
      have hx' : y.1 = .agg [y0.1, y1.1, y2.1, y3.1, y4.1] := by rw [hx]; rfl
      rw [hx', act_weights] at hw
      have hs : s.data.toList.length ≤ 140737488351232 := str_weight (H := H) (fun q hq => hw q (by
        rw [z4]
        exact List.mem_append_right _ (List.mem_append_right _ (List.mem_append_right _ (List.mem_append_right _ (List.mem_append_left _ hq))))))
      rw [Array.length_toList] at hs
      exact ⟨i64_in w0, i64_in w1, i64_in w2, i64_in w3, hs⟩
set_option maxRecDepth 100000 in
theorem acts_in {ts : List TypeId} {ds : List (DataW H)} {j : Nat} {v : Value} {d : DataW H} {p : List MemPlace} {base : Nat} (hval : Value.okWide Try.prog W .any base 22 v) (hd : DataW.Trod enc Try.prog W 0 spare held 22 v d p)
    (hsz : (DataW.weightsEach Try.prog ts ds).all (· ≤ reachBytes) = true) (ht : ts[j]? = some 22) (hj : ds[j]? = some d) : ∃ a cap l, GivenA W v a cap l := by
  obtain ⟨a0, len0, cap0, rfl⟩ := Go.WideShapes.okWide_slice Try.underlying22 hval
  have hW := weights_in hsz ht hj
  obtain ⟨fuel, hf⟩ := hd
  rcases open_slice Try.underlying22 hf with ⟨hv, _⟩ | ⟨a, len, cap, mm, nn, D, Pl, hv, hba, hlc, hcm, hmm, hyx, hel⟩
  · simp [Value.cells] at hv
    obtain ⟨rfl, rfl, rfl⟩ := hv
    exact ⟨none, 0, [], rfl, fun h => absurd h (by simp), by simp⟩
  · simp [Value.cells] at hv
    obtain ⟨rfl, rfl, rfl⟩ := hv
    have hlm : len0 ≤ mm := by rw [hmm]; split <;> omega
    rw [cells33] at hel
    have hyx' := (Prod.mk.inj hyx).1
    subst hyx'
    have hw := sized_slice hsz ht hj Try.underlying22
    rw [bytes33] at hw
    simp only [List.length_map, List.length_range, reachBytes] at hw
    rw [DataW.weights.eq_def] at hW
    simp only [Try.underlying22] at hW
    obtain ⟨V, hV⟩ := choose_lt (α := Ac) (n := len0) (p := fun i t => W.cells? 0 (a.add (i * 5)) 5 = some [.int .i64 t.kd, .int .i64 t.fr, .int .i64 t.to_, .int .i64 t.k, .string t.s] ∧ t.ok) (fun i hi => by
      obtain ⟨cs', hc, ht'⟩ := hel i (by omega)
      obtain ⟨t, e, hok⟩ := act_in ht'
      subst e
      refine ⟨t, hc, hok (fun q hq => hW q (List.mem_cons_of_mem _ ?_))⟩
      exact List.mem_append_left _ (weightsAll_mem _ (List.mem_map.2 ⟨i, List.mem_range.2 hi, rfl⟩) hq))
    refine ⟨some a, cap0, (List.range len0).map V, by simp, ?_, by simp; omega⟩
    intro h0
    have h0 : 0 < len0 := by simpa using h0
    obtain ⟨b, off, spot⟩ := a
    have hc0 := (World.cells?_some (hV 0 h0).1).2.2 0 (by decide)
    have hspot : spot = none := by
      have e : W.cell? ((((⟨b, off, spot⟩ : Addr).add (0 * 5))).add 0) = some (.int .i64 (V 0).kd) := hc0
      simpa [Addr.add] using World.cell?_spot e
    subst hspot
    have hat : ∀ j, j < len0 → W.cell? ⟨b, off + j * 5, none⟩ = some (.int .i64 (V j).kd) ∧ W.cell? ⟨b, off + j * 5 + 1, none⟩ = some (.int .i64 (V j).fr) ∧ W.cell? ⟨b, off + j * 5 + 2, none⟩ = some (.int .i64 (V j).to_) ∧ W.cell? ⟨b, off + j * 5 + 3, none⟩ = some (.int .i64 (V j).k) ∧ W.cell? ⟨b, off + j * 5 + 4, none⟩ = some (.string (V j).s) := by
      intro j hj
      have hcj := (World.cells?_some (hV j hj).1).2.2
      have e0 := hcj 0 (by decide)
      have e1 := hcj 1 (by decide)
      have e2 := hcj 2 (by decide)
      have e3 := hcj 3 (by decide)
      have e4 := hcj 4 (by decide)
      rw [Go.WideShapes.add_plain, Go.WideShapes.add_plain] at e0 e1 e2 e3 e4
      exact ⟨e0, e1, e2, e3, e4⟩
    refine ⟨b, off, rfl, World.block_lt_of_cell? W _ (hat 0 h0).1, fun j hj => ?_⟩
    have hj' : j < len0 := by simpa using hj
    have e : ((List.range len0).map V)[j] = V j := by simp
    rw [e]
    obtain ⟨h1, h2, h3, h4, h5⟩ := hat j hj'
    exact ⟨h1, h2, h3, h4, h5, (hV j hj').2⟩
set_option maxRecDepth 100000 in
theorem strl_in {ts : List TypeId} {ds : List (DataW H)} {j : Nat} {v : Value} {d : DataW H} {p : List MemPlace} {base : Nat} (hval : Value.okWide Try.prog W .any base 43 v) (hd : DataW.Trod enc Try.prog W 0 spare held 43 v d p)
    (hsz : (DataW.weightsEach Try.prog ts ds).all (· ≤ reachBytes) = true) (ht : ts[j]? = some 43) (hj : ds[j]? = some d) : ∃ a cap l, GivenL W v a cap l := by
  obtain ⟨a0, len0, cap0, rfl⟩ := Go.WideShapes.okWide_slice Try.underlying43 hval
  have hW := weights_in hsz ht hj
  obtain ⟨fuel, hf⟩ := hd
  rcases open_slice Try.underlying43 hf with ⟨hv, _⟩ | ⟨a, len, cap, mm, nn, D, Pl, hv, hba, hlc, hcm, hmm, hyx, hel⟩
  · simp [Value.cells] at hv
    obtain ⟨rfl, rfl, rfl⟩ := hv
    exact ⟨none, 0, [], rfl, fun h => absurd h (by simp), by simp⟩
  · simp [Value.cells] at hv
    obtain ⟨rfl, rfl, rfl⟩ := hv
    have hlm : len0 ≤ mm := by rw [hmm]; split <;> omega
    rw [cells9] at hel
    have hyx' := (Prod.mk.inj hyx).1
    subst hyx'
    have hw := sized_slice hsz ht hj Try.underlying43
    rw [bytes9] at hw
    simp only [List.length_map, List.length_range, reachBytes] at hw
    rw [DataW.weights.eq_def] at hW
    simp only [Try.underlying43] at hW
    obtain ⟨V, hV⟩ := choose_lt (α := ByteArray) (n := len0) (p := fun i t => W.cells? 0 (a.add (i * 1)) 1 = some [.string t] ∧ t.size ≤ 140737488351232) (fun i hi => by
      obtain ⟨cs', hc, ht'⟩ := hel i (by omega)
      obtain ⟨t, e, z, _⟩ := DataW.trod_string Try.underlying9 ht'
      subst e
      refine ⟨t, hc, ?_⟩
      have hs : t.data.toList.length ≤ 140737488351232 := str_weight (H := H) (fun q hq => hW q (by
        refine List.mem_cons_of_mem _ ?_
        rw [← (Prod.mk.inj z).1] at hq
        exact List.mem_append_left _ (weightsAll_mem _ (List.mem_map.2 ⟨i, List.mem_range.2 hi, rfl⟩) hq)))
      rw [Array.length_toList] at hs
      exact hs)
    refine ⟨some a, cap0, (List.range len0).map V, by simp, ?_, by simp; omega⟩
    intro h0
    have h0 : 0 < len0 := by simpa using h0
    obtain ⟨b, off, spot⟩ := a
    have hc0 := (World.cells?_some (hV 0 h0).1).2.2 0 (by decide)
    have hspot : spot = none := by
      have e : W.cell? ((((⟨b, off, spot⟩ : Addr).add (0 * 1))).add 0) = some (.string (V 0)) := hc0
      simpa [Addr.add] using World.cell?_spot e
    subst hspot
    have hat : ∀ j, j < len0 → W.cell? ⟨b, off + j, none⟩ = some (.string (V j)) := by
      intro j hj
      have e0 := (World.cells?_some (hV j hj).1).2.2 0 (by decide)
      rw [Go.WideShapes.add_plain, Go.WideShapes.add_plain] at e0
      simpa using e0
    refine ⟨b, off, rfl, World.block_lt_of_cell? W _ (hat 0 h0), fun j hj => ?_⟩
    have hj' : j < len0 := by simpa using hj
    have e : ((List.range len0).map V)[j] = V j := by simp
    rw [e]
    exact ⟨hat j hj', (hV j hj').2⟩
end
theorem Acs.on {B : Nat} {w w' : World} {a : Option Addr} {l : List Ac} (h : Acs B w a l) (hb : Below B w w') : Acs B w' a l := by
  intro hx
  obtain ⟨b, o, e, h1, h2⟩ := h hx
  refine ⟨b, o, e, h1, fun j hj => ?_⟩
  obtain ⟨c0, c1, c2, c3, c4, c5⟩ := h2 j hj
  exact ⟨(hb.cell (p := ⟨b, _, none⟩) h1).trans c0, (hb.cell (p := ⟨b, _, none⟩) h1).trans c1, (hb.cell (p := ⟨b, _, none⟩) h1).trans c2, (hb.cell (p := ⟨b, _, none⟩) h1).trans c3, (hb.cell (p := ⟨b, _, none⟩) h1).trans c4, c5⟩
theorem StrB.on {B : Nat} {w w' : World} {a : Option Addr} {l : List ByteArray} (h : StrB B w a l) (hb : Below B w w') : StrB B w' a l := by
  intro hx
  obtain ⟨b, o, e, h1, h2⟩ := h hx
  exact ⟨b, o, e, h1, fun j hj => ⟨(hb.cell (p := ⟨b, _, none⟩) h1).trans (h2 j hj).1, (h2 j hj).2⟩⟩
end Go.Proofs.Ytfhlfklgngpklaa
