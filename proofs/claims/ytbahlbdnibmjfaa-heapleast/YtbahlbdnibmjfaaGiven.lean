/-
  Lists of distances, and of calls, that came in; how many keys a table has.
-/
import Derived.Test.YtbahlbdnibmjfaaNew
import Derived.OpenShut
import Derived.ChangeArms
import Derived.Deep.Slices
import Derived.SizedLaws
import Derived.ProofKit
import Derived.ChangeOld
namespace Go.Proofs.Ytbahlbdnibmjfaa
open Go.RowKit
open Go.Deep (open_slice choose_lt)
theorem cnt_zero (T : Nat → Option Int) : cnt T 0 = 0 := rfl
theorem cnt_succ (T : Nat → Option Int) (n : Nat) : cnt T (n + 1) = cnt T n + (T n).isSome.toNat := by
  unfold cnt
  rw [List.range_succ, List.filter_append, List.length_append]
  cases h : (T n).isSome <;> simp [h]
theorem cnt_upd_out (T : Nat → Option Int) (x : Nat) (v : Option Int) : ∀ n, n ≤ x → cnt (upd T x v) n = cnt T n
  | 0, _ => rfl
  | n + 1, h => by rw [cnt_succ, cnt_succ, cnt_upd_out T x v n (by omega), upd_ne _ _ (by omega)]
theorem cnt_upd (T : Nat → Option Int) (x : Nat) (v : Option Int) : ∀ n, x < n → cnt (upd T x v) n + (T x).isSome.toNat = cnt T n + v.isSome.toNat
  | 0, h => by omega
  | n + 1, h => by
    rw [cnt_succ, cnt_succ]
    by_cases hx : x = n
    · subst hx
      rw [upd_self, cnt_upd_out T x v x (Nat.le_refl _)]
      omega
    · have := cnt_upd T x v n (by omega)
      rw [upd_ne _ _ (by omega)]
      omega
theorem cnt_none {T : Nat → Option Int} : ∀ {n : Nat}, cnt T n = 0 → ∀ x, x < n → T x = none
  | 0, _, x, hx => by omega
  | n + 1, h, x, hx => by
    rw [cnt_succ] at h
    by_cases e : x = n
    · subst e
      cases ht : T x with
      | none => rfl
      | some v => rw [ht] at h; simp at h
    · exact cnt_none (n := n) (by omega) x (by omega)
theorem cnt_empty (n : Nat) : cnt (fun _ => none) n = 0 := by simp [cnt]
theorem cnt_le (T : Nat → Option Int) (n : Nat) : cnt T n ≤ n := Nat.le_trans (List.length_filter_le _ _) (by simp)
theorem TopIs.ok {n : Nat} {T : Nat → Option Int} {x : Nat} {k e : Int} (h : TopIs n T x k e) (hc : 0 < cnt T n) : e = 0 ∧ T x = some k ∧ x < n ∧ ∀ y k', T y = some k' → k < k' ∨ k = k' ∧ x ≤ y := by
  rcases h with h | ⟨_, _, _, a⟩
  · exact h
  · exfalso
    have : T = fun _ => none := funext a
    rw [this, cnt_empty] at hc
    omega
theorem HR.out {w : World} {h n : Nat} {T : Nat → Option Int} {D : Nat → Prop} (r : HR w h n T D) : ∀ x, n ≤ x → T x = none := by
  obtain ⟨p, v, ms, pl, _, f, _⟩ := r
  exact f.out
theorem HR.bd {w : World} {h n : Nat} {T : Nat → Option Int} {D : Nat → Prop} (r : HR w h n T D) : n ≤ 16384 := by
  obtain ⟨p, v, ms, pl, r, _, _⟩ := r
  exact r.nb
theorem TopIs.no {n : Nat} {T : Nat → Option Int} {x : Nat} {k e : Int} (h : TopIs n T x k e) (hc : cnt T n = 0) : e = 5 ∧ x = 0 ∧ k = 0 := by
  rcases h with ⟨_, a, b, _⟩ | ⟨a, b, c, _⟩
  · rw [cnt_none hc x b] at a; cases a
  · exact ⟨a, b, c⟩
/-- The distances of a slice lie so in memory. -/
def U64s (w : World) (a : Option Addr) (l : List Int) : Prop :=
  l = [] ∨ ∃ b o, a = some ⟨b, o, none⟩ ∧ b < w.heap.size ∧ ∀ j, j < l.length → w.cell? ⟨b, o + j, none⟩ = some (.int .u64 (l.getD j 0))
def Bd (l : List Int) : Prop := ∀ x ∈ l, 0 ≤ x ∧ x ≤ 18446744073709551615
/-- A call of a heap. -/
structure Ac where
  k : Int
  i : Int
  d : Int
def Ac.zero : Ac := ⟨0, 0, 0⟩
instance : Inhabited Ac := ⟨Ac.zero⟩
/-- The calls of a slice lie so in memory. -/
def Acs (w : World) (a : Option Addr) (l : List Ac) : Prop :=
  l = [] ∨ ∃ b o, a = some ⟨b, o, none⟩ ∧ b < w.heap.size ∧ ∀ j, j < l.length → w.cell? ⟨b, o + j * 3, none⟩ = some (.int .i64 (l.getD j Ac.zero).k) ∧ w.cell? ⟨b, o + j * 3 + 1, none⟩ = some (.int .i64 (l.getD j Ac.zero).i) ∧ w.cell? ⟨b, o + j * 3 + 2, none⟩ = some (.int .u64 (l.getD j Ac.zero).d)
theorem U64s.get {w : World} {a : Option Addr} {l : List Int} (h : U64s w a l) : ∃ b o, 0 < l.length → a = some ⟨b, o, none⟩ ∧ b < w.heap.size ∧ ∀ j, j < l.length → w.cell? ⟨b, o + j, none⟩ = some (.int .u64 (l.getD j 0)) := by
  rcases h with rfl | ⟨b, o, h⟩
  · exact ⟨0, 0, fun h => absurd h (by simp)⟩
  · exact ⟨b, o, fun _ => h⟩
theorem Acs.get {w : World} {a : Option Addr} {l : List Ac} (h : Acs w a l) : ∃ b o, 0 < l.length → a = some ⟨b, o, none⟩ ∧ b < w.heap.size ∧ ∀ j, j < l.length → w.cell? ⟨b, o + j * 3, none⟩ = some (.int .i64 (l.getD j Ac.zero).k) ∧ w.cell? ⟨b, o + j * 3 + 1, none⟩ = some (.int .i64 (l.getD j Ac.zero).i) ∧ w.cell? ⟨b, o + j * 3 + 2, none⟩ = some (.int .u64 (l.getD j Ac.zero).d) := by
  rcases h with rfl | ⟨b, o, h⟩
  · exact ⟨0, 0, fun h => absurd h (by simp)⟩
  · exact ⟨b, o, fun _ => h⟩
def GivenD (W : World) (v : Value) (a : Option Addr) (cap : Nat) (l : List Int) : Prop :=
  v = .slice a l.length cap ∧ U64s W a l ∧ Bd l ∧ l.length * 8 ≤ 140737488351232
def GivenA (W : World) (v : Value) (a : Option Addr) (cap : Nat) (l : List Ac) : Prop :=
  v = .slice a l.length cap ∧ Acs W a l ∧ l.length * 24 ≤ 140737488351232
theorem u64_bounds {a : Int} (w : (Lit.int .u64 a).wf = true) : 0 ≤ a ∧ a ≤ 18446744073709551615 := by
  have e1 : IntKind.u64.min = 0 := rfl
  have e2 : IntKind.u64.max = 18446744073709551615 := rfl
  simp [Lit.wf, e1, e2] at w
  exact w
theorem cellsI64 : Try.prog.cellsOf 3 = 1 := by kernel_rfl
theorem cellsU64 : Try.prog.cellsOf 32 = 1 := by kernel_rfl
theorem cellsAc : Try.prog.cellsOf 34 = 3 := by kernel_rfl
theorem bytesU64 : Try.prog.bytesOf 32 = 8 := by kernel_rfl
theorem bytesAc : Try.prog.bytesOf 34 = 24 := by kernel_rfl
section
variable {H : Type} {enc : TypeId × Value → H} {W : World} {spare : Nat → Bool} {held : Bool}
theorem trod_ac {fuel : Nat} {cs : List Value} {x : DataW H × List MemPlace} (h : DataW.trod enc Try.prog W 0 spare held fuel 34 cs = some x) :
    ∃ y : Ac, cs = [.int .i64 y.k, .int .i64 y.i, .int .u64 y.d] := by
  obtain ⟨xs, n, _, rfl, hl, hlen, hf⟩ := DataW.trod_struct Try.underlying34 h
  rw [cellsAc] at hl
  match cs, hl with
  | [c0, c1, c2], _ =>
    match xs, hlen with
    | [y0, y1, y2], _ =>
      have f0 := hf 0 _ rfl
      have f1 := hf 1 _ rfl
      have f2 := hf 2 _ rfl
      simp [cellsI64, cellsU64] at f0 f1 f2
      obtain ⟨k, e0, _⟩ := DataW.trod_int Try.underlying3 f0
      obtain ⟨u, e1, _⟩ := DataW.trod_int Try.underlying3 f1
      obtain ⟨s, e2, _⟩ := DataW.trod_int Try.underlying32 f2
      simp at e0 e1 e2
      subst e0 e1 e2
      exact ⟨⟨k, u, s⟩, rfl⟩
theorem dists_in {ts : List TypeId} {ds : List (DataW H)} {j : Nat} {v : Value} {d : DataW H} {p : List MemPlace} {base : Nat} (hval : Value.okWide Try.prog W .any base 39 v) (hd : DataW.Trod enc Try.prog W 0 spare held 39 v d p)
    (hsz : (DataW.weightsEach Try.prog ts ds).all (· ≤ reachBytes) = true) (ht : ts[j]? = some 39) (hj : ds[j]? = some d) : ∃ a cap l, GivenD W v a cap l := by
  obtain ⟨a0, len0, cap0, rfl⟩ := Go.WideShapes.okWide_slice Try.underlying39 hval
  obtain ⟨fuel, hf⟩ := hd
  rcases open_slice Try.underlying39 hf with ⟨hv, _⟩ | ⟨a, len, cap, mm, nn, D, Pl, hv, hba, hlc, hcm, hmm, hyx, hel⟩
  · simp [Value.cells] at hv
    obtain ⟨rfl, rfl, rfl⟩ := hv
    exact ⟨none, 0, [], rfl, Or.inl rfl, (fun x hx => by cases hx), by simp⟩
  · simp [Value.cells] at hv
    obtain ⟨rfl, rfl, rfl⟩ := hv
    have hlm : len0 ≤ mm := by rw [hmm]; split <;> omega
    rw [cellsU64] at hel
    have hyx' := (Prod.mk.inj hyx).1
    subst hyx'
    have hw := sized_slice hsz ht hj Try.underlying39
    rw [bytesU64] at hw
    simp only [List.length_map, List.length_range, reachBytes] at hw
    obtain ⟨V, hV⟩ := choose_lt (α := Int) (n := len0) (p := fun i t => W.cells? 0 (a.add (i * 1)) 1 = some [.int .u64 t] ∧ 0 ≤ t ∧ t ≤ 18446744073709551615) (fun i hi => by
      obtain ⟨cs', hc, ht'⟩ := hel i (by omega)
      obtain ⟨t, e, _, hb⟩ := DataW.trod_int Try.underlying32 ht'
      subst e
      exact ⟨t, hc, u64_bounds hb⟩)
    refine ⟨some a, cap0, (List.range len0).map V, by simp, ?_, ?_, by simp; omega⟩
    · by_cases h0 : 0 < len0
      · obtain ⟨b, off, spot⟩ := a
        have hc0 := (World.cells?_some (hV 0 h0).1).2.2 0 (by decide)
        have hspot : spot = none := by
          have e : W.cell? ((((⟨b, off, spot⟩ : Addr).add (0 * 1))).add 0) = some (.int .u64 (V 0)) := hc0
          simpa [Addr.add] using World.cell?_spot e
        subst hspot
        have hat : ∀ j, j < len0 → W.cell? ⟨b, off + j, none⟩ = some (.int .u64 (V j)) := by
          intro j hj
          have e0 := (World.cells?_some (hV j hj).1).2.2 0 (by decide)
          rw [Go.WideShapes.add_plain, Go.WideShapes.add_plain] at e0
          simpa using e0
        refine Or.inr ⟨b, off, rfl, World.block_lt_of_cell? W _ (hat 0 h0), fun j hj => ?_⟩
        have hj' : j < len0 := by simpa using hj
        have e : ((List.range len0).map V).getD j 0 = V j := by simp [List.getD, hj']
        rw [e]
        exact hat j hj'
      · have : len0 = 0 := by omega
        subst this
        exact Or.inl rfl
    · intro x hx
      obtain ⟨i, hi, rfl⟩ := List.mem_map.1 hx
      exact (hV i (by simpa using hi)).2
theorem acts_in {ts : List TypeId} {ds : List (DataW H)} {j : Nat} {v : Value} {d : DataW H} {p : List MemPlace} {base : Nat} (hval : Value.okWide Try.prog W .any base 22 v) (hd : DataW.Trod enc Try.prog W 0 spare held 22 v d p)
    (hsz : (DataW.weightsEach Try.prog ts ds).all (· ≤ reachBytes) = true) (ht : ts[j]? = some 22) (hj : ds[j]? = some d) : ∃ a cap l, GivenA W v a cap l := by
  obtain ⟨a0, len0, cap0, rfl⟩ := Go.WideShapes.okWide_slice Try.underlying22 hval
  obtain ⟨fuel, hf⟩ := hd
  rcases open_slice Try.underlying22 hf with ⟨hv, _⟩ | ⟨a, len, cap, mm, nn, D, Pl, hv, hba, hlc, hcm, hmm, hyx, hel⟩
  · simp [Value.cells] at hv
    obtain ⟨rfl, rfl, rfl⟩ := hv
    exact ⟨none, 0, [], rfl, Or.inl rfl, by simp⟩
  · simp [Value.cells] at hv
    obtain ⟨rfl, rfl, rfl⟩ := hv
    have hlm : len0 ≤ mm := by rw [hmm]; split <;> omega
    rw [cellsAc] at hel
    have hyx' := (Prod.mk.inj hyx).1
    subst hyx'
    have hw := sized_slice hsz ht hj Try.underlying22
    rw [bytesAc] at hw
    simp only [List.length_map, List.length_range, reachBytes] at hw
    obtain ⟨V, hV⟩ := choose_lt (α := Ac) (n := len0) (p := fun i t => W.cells? 0 (a.add (i * 3)) 3 = some [.int .i64 t.k, .int .i64 t.i, .int .u64 t.d]) (fun i hi => by
      obtain ⟨cs', hc, ht'⟩ := hel i (by omega)
      obtain ⟨t, e⟩ := trod_ac ht'
      subst e
      exact ⟨t, hc⟩)
    refine ⟨some a, cap0, (List.range len0).map V, by simp, ?_, by simp; omega⟩
    by_cases h0 : 0 < len0
    · obtain ⟨b, off, spot⟩ := a
      have hc0 := (World.cells?_some (hV 0 h0)).2.2 0 (by decide)
      have hspot : spot = none := by
        have e : W.cell? ((((⟨b, off, spot⟩ : Addr).add (0 * 3))).add 0) = some (.int .i64 (V 0).k) := hc0
        simpa [Addr.add] using World.cell?_spot e
      subst hspot
      have hat : ∀ j, j < len0 → W.cell? ⟨b, off + j * 3, none⟩ = some (.int .i64 (V j).k) ∧ W.cell? ⟨b, off + j * 3 + 1, none⟩ = some (.int .i64 (V j).i) ∧ W.cell? ⟨b, off + j * 3 + 2, none⟩ = some (.int .u64 (V j).d) := by
        intro j hj
        have hcj := (World.cells?_some (hV j hj)).2.2
        have e0 := hcj 0 (by decide)
        have e1 := hcj 1 (by decide)
        have e2 := hcj 2 (by decide)
        rw [Go.WideShapes.add_plain, Go.WideShapes.add_plain] at e0 e1 e2
        exact ⟨e0, e1, e2⟩
      refine Or.inr ⟨b, off, rfl, World.block_lt_of_cell? W _ (hat 0 h0).1, fun j hj => ?_⟩
      have hj' : j < len0 := by simpa using hj
      have e : ((List.range len0).map V).getD j Ac.zero = V j := by simp [List.getD, hj']
      rw [e]
      exact hat j hj'
    · have : len0 = 0 := by omega
      subst this
      exact Or.inl rfl
end
end Go.Proofs.Ytbahlbdnibmjfaa
