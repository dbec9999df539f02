/-
  Contract of graph.Reverse.
-/
import Derived.Test.YtgkpmcpkobphpaaTClone
import Derived.BigRegion
namespace Go.Proofs.Ytgkpmcpkobphpaa.T3
open Go.RowKit
/-- An arc, turned about. -/
def A.turn (x : A) : A := ⟨x.t, x.f, x.w⟩
def turned (l : List A) : List A := l.map A.turn
theorem turned_len (l : List A) : (turned l).length = l.length := by unfold turned; simp
theorem turned_getD (l : List A) (j : Nat) (h : j < l.length) : (turned l).getD j A.zero = (l.getD j A.zero).turn := by
  unfold turned; simp [List.getD, List.getElem?_eq_getElem h]
theorem turned_ext {l X : List A} (hx : X.length = l.length) (h : ∀ j, j < l.length → X.getD j A.zero = (l.getD j A.zero).turn) : X = turned l := by
  apply List.ext_getElem (by rw [turned_len]; exact hx)
  intro j h1 h2
  have e1 : X.getD j A.zero = X[j] := by simp [List.getD, List.getElem?_eq_getElem h1]
  have e2 : (turned l).getD j A.zero = (turned l)[j] := by simp [List.getD, List.getElem?_eq_getElem h2]
  rw [← e1, ← e2, turned_getD l j (by omega), h j (by omega)]
theorem getDA_set (L : List A) (k j : Nat) (x : A) (hk : k < L.length) : (L.set k x).getD j A.zero = if j = k then x else L.getD j A.zero := by
  by_cases h : j = k
  · subst h; simp [List.getD, hk]
  · rw [if_neg h]; simp [List.getD, Ne.symm h]
theorem OwnA.free {w : World} {B g c : Nat} {l : List A} (h : OwnA w B (.some ⟨g, 0, none⟩) c l) (k : Nat) : w.frozen? ⟨g, k, none⟩ = false := World.ownsRow.frozenAt h k
theorem OwnA.set0 {w : World} {B g c : Nat} {l : List A} (h : OwnA w B (.some ⟨g, 0, none⟩) c l) (j : Nat) (v : Int) (hj : j < l.length) : OwnA (w.setCell ⟨g, j * 3, none⟩ (.int .i64 v)) B (.some ⟨g, 0, none⟩) c (l.set j ⟨v, (l.getD j A.zero).t, (l.getD j A.zero).w⟩) := by
  have := (World.ownsRow.stored h (j * 3) (.int .i64 v)).1
  rw [(cellsA_set l j v hj).1] at this
  unfold OwnA
  rw [List.length_set]; exact this
theorem OwnA.set1 {w : World} {B g c : Nat} {l : List A} (h : OwnA w B (.some ⟨g, 0, none⟩) c l) (j : Nat) (v : Int) (hj : j < l.length) : OwnA (w.setCell ⟨g, j * 3 + 1, none⟩ (.int .i64 v)) B (.some ⟨g, 0, none⟩) c (l.set j ⟨(l.getD j A.zero).f, v, (l.getD j A.zero).w⟩) := by
  have := (World.ownsRow.stored h (j * 3 + 1) (.int .i64 v)).1
  rw [(cellsA_set l j v hj).2.1] at this
  unfold OwnA
  rw [List.length_set]; exact this
theorem OwnA.set2 {w : World} {B g c : Nat} {l : List A} (h : OwnA w B (.some ⟨g, 0, none⟩) c l) (j : Nat) (v : Int) (hj : j < l.length) : OwnA (w.setCell ⟨g, j * 3 + 2, none⟩ (.int .u32 v)) B (.some ⟨g, 0, none⟩) c (l.set j ⟨(l.getD j A.zero).f, (l.getD j A.zero).t, v⟩) := by
  have := (World.ownsRow.stored h (j * 3 + 2) (.int .u32 v)).1
  rw [(cellsA_set l j v hj).2.2] at this
  unfold OwnA
  rw [List.length_set]; exact this
theorem OwnA.turn {w : World} {B g c : Nat} {X : List A} (h : OwnA w B (.some ⟨g, 0, none⟩) c X) (j : Nat) {x : A} (hj : j < X.length) (hx : X.getD j A.zero = x) : OwnA ((w.setCell ⟨g, j * 3, none⟩ (.int .i64 x.t)).setCell ⟨g, j * 3 + 1, none⟩ (.int .i64 x.f)) B (.some ⟨g, 0, none⟩) c (X.set j x.turn) := by
  have h1 := (h.set0 j x.t hj).set1 j x.f (by rw [List.length_set]; exact hj)
  rw [getDA_set _ _ _ _ hj, if_pos rfl, hx, List.set_set] at h1
  exact h1
/-- A graph that a call made. -/
def MadeG (w w' : World) (e : Ending) (N : Int) (l : List A) (E : Int) : Prop :=
  ∃ a c, e = .returned (.tuple #[.agg #[.int .i64 N, .slice a l.length c], .int .i64 E]) ∧ OwnA w' w.heap.size a c l ∧ (a = none → l = [] ∧ c = 0) ∧ Below w.heap.size w w'
end Go.Proofs.Ytgkpmcpkobphpaa.T3
