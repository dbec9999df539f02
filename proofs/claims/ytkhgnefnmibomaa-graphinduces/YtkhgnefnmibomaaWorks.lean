/-
  Lists of numbers that can be read; the chapter's first example holds.
-/
import Derived.Test.YtkhgnefnmibomaaPartsC
namespace Go.Proofs.Ytkhgnefnmibomaa
open Go.RowKit
/-- Numbers of a slice lie so in memory. -/
def Ints (w : World) (a : Option Addr) (xs : List Int) : Prop :=
  xs = [] ∨ ∃ b o, a = some ⟨b, o, none⟩ ∧ b < w.heap.size ∧ ∀ j, j < xs.length → w.cell? ⟨b, o + j, none⟩ = some (.int .i64 (xs.getD j 0))
theorem Ints.on {w w' : World} {a : Option Addr} {xs : List Int} (h : Ints w a xs) (hb : Below w.heap.size w w') : Ints w' a xs := by
  rcases h with h | ⟨b, o, rfl, hl, hc⟩
  · exact Or.inl h
  · exact Or.inr ⟨b, o, rfl, Nat.lt_of_lt_of_le hl hb.size, fun j hj => (hb.cell (p := ⟨b, o + j, none⟩) hl).trans (hc j hj)⟩
theorem ints_own {w : World} {B : Nat} {a : Option Addr} {c : Nat} {xs : List Int} (h : w.ownsRow B 3 1 (.slice a xs.length c) xs.length (cellsI xs)) : Ints w a xs := by
  by_cases h0 : xs = []
  · exact Or.inl h0
  · rcases h.2 with ⟨_, h'⟩ | ⟨g, c', cur, h', hb, hg, hnc, hm, _⟩
    · exact absurd (List.eq_nil_of_length_eq_zero h') h0
    · injection h' with e1 e2 e3
      subst e1
      refine Or.inr ⟨g, 0, rfl, lt_of_block hg, fun j hj => ?_⟩
      rw [Nat.zero_add, World.ownsRow.cellAt h j (by omega), cellsI_getD xs j hj]
theorem Ints.get {w : World} {a : Option Addr} {xs : List Int} (h : Ints w a xs) : ∃ b o, 0 < xs.length → a = some ⟨b, o, none⟩ ∧ b < w.heap.size ∧ ∀ j, j < xs.length → w.cell? ⟨b, o + j, none⟩ = some (.int .i64 (xs.getD j 0)) := by
  rcases h with rfl | ⟨b, o, h⟩
  · exact ⟨0, 0, fun h => absurd h (by simp)⟩
  · exact ⟨b, o, fun _ => h⟩
/-- The example's arcs. -/
def exA : List A := [⟨0, 1, 5⟩, ⟨1, 2, 7⟩, ⟨0, 2, 20⟩]
def exB : List A := [⟨0, 1, 0⟩]
theorem ex_out : outL 3 exA 0 (outs exA 0) = [0, 2] := by decide
theorem ex_outE : outE 3 exA 0 = 0 := by decide
theorem ex_parts : partsL 3 exA = [0, 0, 0] := by decide
theorem ex_chk : chkE 3 exA = 0 := by decide
theorem ex_bad : chkE 1 exB = 30 := by decide
theorem ex_badAt : chkAt 1 exB = 0 := by decide
theorem exA_at (w : World) : Arcs (w.alloc (.cells #[.int .i64 0, .int .i64 1, .int .u32 5, .int .i64 1, .int .i64 2, .int .u32 7, .int .i64 0, .int .i64 2, .int .u32 20] 53)) (some ⟨w.heap.size, 0, none⟩) exA := by
  refine Or.inr ⟨w.heap.size, 0, rfl, by simp, fun j hj => ?_⟩
  match j, hj with
  | 0, _ => exact ⟨by simp [exA, A.zero], by simp [exA, A.zero], by simp [exA, A.zero]⟩
  | 1, _ => exact ⟨by simp [exA, A.zero], by simp [exA, A.zero], by simp [exA, A.zero]⟩
  | 2, _ => exact ⟨by simp [exA, A.zero], by simp [exA, A.zero], by simp [exA, A.zero]⟩
theorem exB_at (w : World) : Arcs (w.alloc (.cells #[.int .i64 0, .int .i64 1, .int .u32 0] 53)) (some ⟨w.heap.size, 0, none⟩) exB := by
  refine Or.inr ⟨w.heap.size, 0, rfl, by simp, fun j hj => ?_⟩
  match j, hj with
  | 0, _ => exact ⟨by simp [exB, A.zero], by simp [exB, A.zero], by simp [exB, A.zero]⟩
set_option maxHeartbeats 1600000 in
theorem works_any (w : World) : Calls Try.prog 23 #[] w fun e w' => e = .returned (.bool true) ∧ Below w.heap.size w w' := by
  have hA0 := exA_at w
  have hb0 : Below w.heap.size w (w.alloc (.cells #[.int .i64 0, .int .i64 1, .int .u32 5, .int .i64 1, .int .i64 2, .int .u32 7, .int .i64 0, .int .i64 2, .int .u32 20] 53)) := (Below.refl _ _).alloc (Nat.le_refl _) _
  generalize hW : w.alloc (.cells #[.int .i64 0, .int .i64 1, .int .u32 5, .int .i64 1, .int .i64 2, .int .u32 7, .int .i64 0, .int .i64 2, .int .u32 20] 53) = W at *
  go_enter Try.func23, Try.ntmps23
  go_wp2_with fail
  have hsW : w.heap.size < W.heap.size := by rw [← hW]; simp
  clear hW
  have hb1 := hb0.alloc (by omega) (.cells #[.int .i64 3, .slice (some ⟨w.heap.size, 0, none⟩) 3 3] 24)
  have hA1 := hA0.on ((Below.refl W.heap.size W).alloc (Nat.le_refl _) (.cells #[.int .i64 3, .slice (some ⟨w.heap.size, 0, none⟩) 3 3] 24))
  refine (outs_any 3 0 (some ⟨w.heap.size, 0, none⟩) exA 3 _ (by decide) hA1).mono ?_
  rintro e w2 ⟨a2, c2, rfl, hown2, hb2⟩
  rw [ex_out, ex_outE] at *
  have hg2 := (hb2.block W.heap.size (by simp)).trans (heap_top W _)
  have hA2 := hA1.on hb2
  have b2 := bthen hb1 hb2 (by simp; omega)
  have hi2 := ints_own hown2
  have s2 := lt_of_block hg2
  clear hb1 hA1 hb2 hown2 hA0 hb0
  obtain ⟨⟨g0, g1⟩, gf0, gf1⟩ := two_cells hg2
  go_wp2_with fail
  refine (parts_any 3 (some ⟨w.heap.size, 0, none⟩) exA 3 _ (by decide) hA2).mono ?_
  rintro e w3 ⟨a3, c3, rfl, hown3, hb3⟩
  rw [ex_parts, ex_chk] at *
  have hi3 := ints_own hown3
  have hi2' := hi2.on hb3
  have b3 := bthen b2 hb3 (by omega)
  have s3 := hb3.size
  clear hb3 hown3 b2 hi2 hg2 hA2 g0 g1 gf0 gf1
  have hB := exB_at w3
  go_wp2_with fail
  refine (check_any 1 (some ⟨w3.heap.size, 0, none⟩) exB 1 _ (by decide) hB).mono ?_
  rintro e w4 ⟨rfl, hb4⟩
  rw [ex_bad, ex_badAt]
  have b4 := bthen (b3.alloc (by omega) _) hb4 (by simp; omega)
  have hi4 := (hi2'.on ((Below.refl _ _).alloc (Nat.le_refl _) _)).on hb4
  have hi5 := (hi3.on ((Below.refl _ _).alloc (Nat.le_refl _) _)).on hb4
  obtain ⟨b5, o5, h5⟩ := hi4.get
  obtain ⟨b6, o6, h6⟩ := hi5.get
  obtain ⟨rfl, _, d5⟩ := h5 (by decide)
  obtain ⟨rfl, _, d6⟩ := h6 (by decide)
  have e0 : w4.cell? ⟨b5, o5, none⟩ = some (.int .i64 0) := d5 0 (by decide)
  have e1 : w4.cell? ⟨b5, o5 + 1, none⟩ = some (.int .i64 2) := d5 1 (by decide)
  have e2 : w4.cell? ⟨b6, o6 + 2, none⟩ = some (.int .i64 0) := d6 2 (by decide)
  clear hi4 hi5 h5 h6 d5 d6 hb4 hB hi2' hi3
  go_wp2_with fail
  go_ret
  exact ⟨rfl, b4⟩
end Go.Proofs.Ytkhgnefnmibomaa
