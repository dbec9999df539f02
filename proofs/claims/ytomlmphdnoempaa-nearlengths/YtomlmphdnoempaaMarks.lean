/-
  A list that is filled while other rows stand; contracts of add, graph.marked and graph.inside for it.
-/
import Derived.Test.YtomlmphdnoempaaSame
namespace Go.Proofs.Ytomlmphdnoempaa
open Go.RowKit
/-- Truths of a slice lie so in memory. -/
def Bools (P : Nat → Prop) (w : World) (a : Option Addr) (q : List Bool) : Prop :=
  q = [] ∨ ∃ b o, a = some ⟨b, o, none⟩ ∧ P b ∧ ∀ j, j < q.length → w.cell? ⟨b, o + j, none⟩ = some (.bool (q.getD j false))
theorem Bools.get {P : Nat → Prop} {w : World} {a : Option Addr} {q : List Bool} (h : Bools P w a q) : ∃ b o, 0 < q.length → a = some ⟨b, o, none⟩ ∧ P b ∧ ∀ j, j < q.length → w.cell? ⟨b, o + j, none⟩ = some (.bool (q.getD j false)) := by
  rcases h with rfl | ⟨b, o, h⟩
  · exact ⟨0, 0, fun h => absurd h (by simp)⟩
  · exact ⟨b, o, fun _ => h⟩
theorem Bools.imp {P Q : Nat → Prop} {w w' : World} {a : Option Addr} {q : List Bool} (h : Bools P w a q) (hp : ∀ b, P b → Q b) (hs : ∀ b, P b → w'.heap[b]? = w.heap[b]?) : Bools Q w' a q := by
  rcases h with h | ⟨b, o, rfl, hb, hc⟩
  · exact Or.inl h
  · exact Or.inr ⟨b, o, rfl, hp b hb, fun j hj => (World.cell?_of_block (w := w) (a := ⟨b, o + j, none⟩) (hs b hb)).trans (hc j hj)⟩
theorem Bools.on {B : Nat} {w w' : World} {a : Option Addr} {q : List Bool} (h : Bools (· < B) w a q) (hb : Below B w w') : Bools (· < B) w' a q := h.imp (fun _ h => h) (fun b h => hb.block b h)
/-- The marks as a test. -/
def mk (q : List Bool) (k : Nat) : Bool := q.getD k false
/-- Both ends of an arc are kept. -/
def both (q : Nat → Bool) (x : A) : Bool := q x.f.toNat && q x.t.toNat
end Go.Proofs.Ytomlmphdnoempaa
