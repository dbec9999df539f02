/-
  Contracts of graph.Weigh and graph.Change.
-/
import Derived.Test.YtgkpmcpkobphpaaTSame
namespace Go.Proofs.Ytgkpmcpkobphpaa.T3
open Go.RowKit
/-- Weights of a slice lie so in memory. -/
def U32s (w : World) (a : Option Addr) (xs : List Int) : Prop :=
  xs = [] ∨ ∃ b o, a = some ⟨b, o, none⟩ ∧ b < w.heap.size ∧ ∀ j, j < xs.length → w.cell? ⟨b, o + j, none⟩ = some (.int .u32 (xs.getD j 0))
theorem U32s.on {w w' : World} {a : Option Addr} {xs : List Int} (h : U32s w a xs) (hb : Below w.heap.size w w') : U32s w' a xs := by
  rcases h with h | ⟨b, o, rfl, hl, hc⟩
  · exact Or.inl h
  · exact Or.inr ⟨b, o, rfl, Nat.lt_of_lt_of_le hl hb.size, fun j hj => (hb.cell (p := ⟨b, o + j, none⟩) hl).trans (hc j hj)⟩
theorem U32s.get {w : World} {a : Option Addr} {xs : List Int} (h : U32s w a xs) : ∃ b o, 0 < xs.length → a = some ⟨b, o, none⟩ ∧ b < w.heap.size ∧ ∀ j, j < xs.length → w.cell? ⟨b, o + j, none⟩ = some (.int .u32 (xs.getD j 0)) := by
  rcases h with rfl | ⟨b, o, h⟩
  · exact ⟨0, 0, fun h => absurd h (by simp)⟩
  · exact ⟨b, o, fun _ => h⟩
/-- A change of a weight. -/
structure Cg where
  a : Int
  w : Int
instance : Inhabited Cg := ⟨⟨0, 0⟩⟩
def Cg.zero : Cg := ⟨0, 0⟩
/-- Changes of a slice lie so in memory. -/
def Cgs (w : World) (a : Option Addr) (xs : List Cg) : Prop :=
  xs = [] ∨ ∃ b o, a = some ⟨b, o, none⟩ ∧ b < w.heap.size ∧ ∀ j, j < xs.length → w.cell? ⟨b, o + j * 2, none⟩ = some (.int .i64 (xs.getD j Cg.zero).a) ∧ w.cell? ⟨b, o + j * 2 + 1, none⟩ = some (.int .u32 (xs.getD j Cg.zero).w)
theorem Cgs.on {w w' : World} {a : Option Addr} {xs : List Cg} (h : Cgs w a xs) (hb : Below w.heap.size w w') : Cgs w' a xs := by
  rcases h with h | ⟨b, o, rfl, hl, hc⟩
  · exact Or.inl h
  · exact Or.inr ⟨b, o, rfl, Nat.lt_of_lt_of_le hl hb.size, fun j hj => ⟨(hb.cell (p := ⟨b, o + j * 2, none⟩) hl).trans (hc j hj).1, (hb.cell (p := ⟨b, o + j * 2 + 1, none⟩) hl).trans (hc j hj).2⟩⟩
theorem Cgs.get {w : World} {a : Option Addr} {xs : List Cg} (h : Cgs w a xs) : ∃ b o, 0 < xs.length → a = some ⟨b, o, none⟩ ∧ b < w.heap.size ∧ ∀ j, j < xs.length → w.cell? ⟨b, o + j * 2, none⟩ = some (.int .i64 (xs.getD j Cg.zero).a) ∧ w.cell? ⟨b, o + j * 2 + 1, none⟩ = some (.int .u32 (xs.getD j Cg.zero).w) := by
  rcases h with rfl | ⟨b, o, h⟩
  · exact ⟨0, 0, fun h => absurd h (by simp)⟩
  · exact ⟨b, o, fun _ => h⟩
theorem ext_getD {X Y : List A} (hl : X.length = Y.length) (h : ∀ j, j < Y.length → X.getD j A.zero = Y.getD j A.zero) : X = Y := by
  apply List.ext_getElem hl
  intro j h1 h2
  have e1 : X.getD j A.zero = X[j] := by simp [List.getD, List.getElem?_eq_getElem h1]
  have e2 : Y.getD j A.zero = Y[j] := by simp [List.getD, List.getElem?_eq_getElem h2]
  rw [← e1, ← e2, h j (by omega)]
/-- Arcs with other weights. -/
def weighed (l : List A) (ws : List Int) : List A := List.zipWith (fun x u => ⟨x.f, x.t, u⟩) l ws
theorem weighed_len {l : List A} {ws : List Int} (h : ws.length = l.length) : (weighed l ws).length = l.length := by unfold weighed; rw [List.length_zipWith]; omega
theorem weighed_getD {l : List A} {ws : List Int} (h : ws.length = l.length) (j : Nat) (hj : j < l.length) : (weighed l ws).getD j A.zero = ⟨(l.getD j A.zero).f, (l.getD j A.zero).t, ws.getD j 0⟩ := by
  unfold weighed
  simp [List.getD, List.getElem?_zipWith, List.getElem?_eq_getElem hj, List.getElem?_eq_getElem (show j < ws.length by omega)]
def wghE (N : Int) (l : List A) (m : Nat) : Int := if chkE N l = 0 then (if m = l.length then 0 else 4) else chkE N l
theorem OwnA.weigh {w : World} {B g c : Nat} {X : List A} (h : OwnA w B (.some ⟨g, 0, none⟩) c X) (j : Nat) (u : Int) {x : A} (hj : j < X.length) (hx : X.getD j A.zero = x) : OwnA (w.setCell ⟨g, j * 3 + 2, none⟩ (.int .u32 u)) B (.some ⟨g, 0, none⟩) c (X.set j ⟨x.f, x.t, u⟩) := by
  have h1 := h.set2 j u hj
  rw [hx] at h1
  exact h1
end Go.Proofs.Ytgkpmcpkobphpaa.T3
