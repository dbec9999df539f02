/-
  Lists of numbers that can be read; the chapter's first example holds.
-/
import Derived.Test.YtgpaoiddjlpcmaaZAH
namespace Go.Proofs.Ytgpaoiddjlpcmaa.T3
open Go.RowKit
/-- Numbers of a slice lie so in memory. -/
def Ints (w : World) (a : Option Addr) (xs : List Int) : Prop :=
  xs = [] ∨ ∃ b o, a = some ⟨b, o, none⟩ ∧ b < w.heap.size ∧ ∀ j, j < xs.length → w.cell? ⟨b, o + j, none⟩ = some (.int .i64 (xs.getD j 0))
theorem Ints.on {w w' : World} {a : Option Addr} {xs : List Int} (h : Ints w a xs) (hb : Below w.heap.size w w') : Ints w' a xs := by
  rcases h with h | ⟨b, o, rfl, hl, hc⟩
  · exact Or.inl h
  · exact Or.inr ⟨b, o, rfl, Nat.lt_of_lt_of_le hl hb.size, fun j hj => (hb.cell (p := ⟨b, o + j, none⟩) hl).trans (hc j hj)⟩
theorem ints_own {w : World} {B : Nat} {a : Option Addr} {c : Nat} {xs : List Int} (h : w.ownsRow B 3 1 (.slice a xs.length c) xs.length (cellsI xs)) : Ints w a xs := by
  by_cases h0 : xs = []
  · exact Or.inl h0
  · rcases h.2 with ⟨_, h'⟩ | ⟨g, c', cur, h', hb, hg, hnc, hm, _⟩
    · exact absurd (List.eq_nil_of_length_eq_zero h') h0
    · injection h' with e1 e2 e3
      subst e1
      refine Or.inr ⟨g, 0, rfl, lt_of_block hg, fun j hj => ?_⟩
      rw [Nat.zero_add, World.ownsRow.cellAt h j (by omega), cellsI_getD xs j hj]
theorem Ints.get {w : World} {a : Option Addr} {xs : List Int} (h : Ints w a xs) : ∃ b o, 0 < xs.length → a = some ⟨b, o, none⟩ ∧ b < w.heap.size ∧ ∀ j, j < xs.length → w.cell? ⟨b, o + j, none⟩ = some (.int .i64 (xs.getD j 0)) := by
  rcases h with rfl | ⟨b, o, h⟩
  · exact ⟨0, 0, fun h => absurd h (by simp)⟩
  · exact ⟨b, o, fun _ => h⟩
/-- The example's arcs. -/
def exA : List A := [⟨0, 1, 5⟩, ⟨1, 2, 7⟩, ⟨0, 2, 20⟩]
def exB : List A := [⟨0, 1, 0⟩]
theorem ex_out : outL 3 exA 0 (outs exA 0) = [0, 2] := by decide
theorem ex_outE : outE 3 exA 0 = 0 := by decide
theorem ex_parts : partsL 3 exA = [0, 0, 0] := by decide
theorem ex_chk : chkE 3 exA = 0 := by decide
theorem ex_bad : chkE 1 exB = 30 := by decide
theorem ex_badAt : chkAt 1 exB = 0 := by decide
theorem exA_at (w : World) : Arcs (w.alloc (.cells #[.int .i64 0, .int .i64 1, .int .u32 5, .int .i64 1, .int .i64 2, .int .u32 7, .int .i64 0, .int .i64 2, .int .u32 20] 51)) (some ⟨w.heap.size, 0, none⟩) exA := by
  refine Or.inr ⟨w.heap.size, 0, rfl, by simp, fun j hj => ?_⟩
  match j, hj with
  | 0, _ => exact ⟨by simp [exA, A.zero], by simp [exA, A.zero], by simp [exA, A.zero]⟩
  | 1, _ => exact ⟨by simp [exA, A.zero], by simp [exA, A.zero], by simp [exA, A.zero]⟩
  | 2, _ => exact ⟨by simp [exA, A.zero], by simp [exA, A.zero], by simp [exA, A.zero]⟩
theorem exB_at (w : World) : Arcs (w.alloc (.cells #[.int .i64 0, .int .i64 1, .int .u32 0] 51)) (some ⟨w.heap.size, 0, none⟩) exB := by
  refine Or.inr ⟨w.heap.size, 0, rfl, by simp, fun j hj => ?_⟩
  match j, hj with
  | 0, _ => exact ⟨by simp [exB, A.zero], by simp [exB, A.zero], by simp [exB, A.zero]⟩
end Go.Proofs.Ytgpaoiddjlpcmaa.T3
