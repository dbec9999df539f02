/-
  Contracts of graph.around, and of graph.Out and graph.In.
-/
import Derived.Test.YtpmjbeiclmllmaaGreatTLists
namespace Go.Proofs.YtpmjbeiclmllmaaGreat.T3
open Go.RowKit
/-- What is told of a vertex. -/
def outE (N : Int) (l : List A) (v : Int) : Int := if chkE N l = 0 then (if okV N v then 0 else 5) else chkE N l
def outL (N : Int) (l : List A) (v : Int) (xs : List Int) : List Int := if outE N l v = 0 then xs else []
/-- A list of numbers that a call made. -/
def Made (w w' : World) (e : Ending) (xs : List Int) (E : Int) : Prop :=
  ∃ a c, e = .returned (.tuple #[.slice a xs.length c, .int .i64 E]) ∧ w'.ownsRow w.heap.size 3 1 (.slice a xs.length c) xs.length (cellsI xs) ∧ Below w.heap.size w w'
theorem made_nil {w w' : World} {E : Int} (hb : Below w.heap.size w w') : Made w w' (.returned (.tuple #[.slice none 0 0, .int .i64 E])) [] E :=
  ⟨none, 0, rfl, World.ownsRow_nil _ _ _ _, hb⟩
theorem own_slice {w : World} {base : Nat} {e : TypeId} {size : Nat} {v : Value} {n : Nat} {xs : List Value} (h : w.ownsRow base e size v n xs) : ∃ a c, v = .slice a n c := by
  rcases h.2 with ⟨rfl, rfl⟩ | ⟨g, c, cur, rfl, _⟩
  · exact ⟨none, 0, rfl⟩
  · exact ⟨_, c, rfl⟩
theorem own_base {w : World} {base base' : Nat} {e : TypeId} {size : Nat} {v : Value} {n : Nat} {xs : List Value} (h : w.ownsRow base e size v n xs) (hb : base' ≤ base) : w.ownsRow base' e size v n xs := by
  refine ⟨h.1, ?_⟩
  rcases h.2 with h' | ⟨g, c, cur, h1, h2, h3⟩
  · exact Or.inl h'
  · exact Or.inr ⟨g, c, cur, h1, Nat.le_trans hb h2, h3⟩
theorem made_up {w w' : World} {o : Obj} {e : Ending} {xs : List Int} {E : Int} (h : Made (w.alloc o) w' e xs E) : Made w w' e xs E := by
  obtain ⟨a, c, he, ho, hb⟩ := h
  exact ⟨a, c, he, own_base ho (by simp), bthen ((Below.refl _ _).alloc (Nat.le_refl _) _) hb (by simp)⟩
/-- The arcs out of a vertex. -/
def outs (l : List A) (v : Int) : List Int := hits (fun k => decide ((l.getD k A.zero).f = v)) l.length
/-- The arcs into a vertex. -/
def ins (l : List A) (v : Int) : List Int := hits (fun k => decide ((l.getD k A.zero).t = v)) l.length
end Go.Proofs.YtpmjbeiclmllmaaGreat.T3
