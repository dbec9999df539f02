/-
  Contract of the reference's wrong: what the code's check answers. Contracts of the reference's number and wrong: what the code's appendNumber and check answer.
-/
import Derived.Test.YtchmiiclogmheaaDoorCAppend
namespace Go.Proofs.YtchmiiclogmheaaDoor.C2
open Go.RowKit
end Go.Proofs.YtchmiiclogmheaaDoor.C2
namespace Go.Proofs.YtchmiiclogmheaaDoor.C2
open Go.RowKit
set_option maxRecDepth 100000 in
theorem keeps_cases {k n : Int} {s : ByteArray} {m : Nat} (h : keepsB k n s m = true) : (k = 1 ∧ s.toList = [] ∧ m = 0) ∨ (k = 2 ∧ n = 0 ∧ m = 0) ∨ (k = 3 ∧ n = 0 ∧ s.toList = []) := by
  unfold keepsB at h
  by_cases h1 : k = 1
  · rw [if_pos h1] at h
    simp at h
    exact Or.inl ⟨h1, h.1, h.2⟩
  · rw [if_neg h1] at h
    by_cases h2 : k = 2
    · rw [if_pos h2] at h
      simp at h
      exact Or.inr (Or.inl ⟨h2, h.1, h.2⟩)
    · rw [if_neg h2] at h
      by_cases h3 : k = 3
      · rw [if_pos h3] at h
        simp at h
        exact Or.inr (Or.inr ⟨h3, h.1, h.2⟩)
      · rw [if_neg h3] at h; cases h
end Go.Proofs.YtchmiiclogmheaaDoor.C2
