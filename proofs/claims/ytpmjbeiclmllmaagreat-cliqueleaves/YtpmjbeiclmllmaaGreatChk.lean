/-
  Contracts of grow.check, grow.isVertex and around.
-/
import Derived.Test.YtpmjbeiclmllmaaGreatBase
namespace Go.Proofs.YtpmjbeiclmllmaaGreat
open Go.RowKit
/-- What grow.check answers. -/
def gchk (N c m : Int) (l : List A) : Int := if chkE N l ≠ 0 then chkE N l else if ¬ (0 ≤ c ∧ c < N) then 5 else if m < 1 ∨ 1024 < m then 1 else 0
theorem gchk_zero {N c m : Int} {l : List A} (h : gchk N c m l = 0) : chkE N l = 0 ∧ (0 ≤ c ∧ c < N) ∧ 1 ≤ m ∧ m ≤ 1024 := by
  unfold gchk at h
  split at h
  · exact absurd h (by assumption)
  · rename_i h1
    have h1 : chkE N l = 0 := by omega
    split at h
    · cases h
    · rename_i h2
      split at h
      · cases h
      · exact ⟨h1, by omega, by omega, by omega⟩
end Go.Proofs.YtpmjbeiclmllmaaGreat
