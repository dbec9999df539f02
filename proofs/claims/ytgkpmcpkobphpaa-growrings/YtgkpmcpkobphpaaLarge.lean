/-
  The contract of large.
-/
import Derived.Test.YtgkpmcpkobphpaaBase
namespace Go.Proofs.Ytgkpmcpkobphpaa
open Go.RowKit
theorem large_any (N : Int) (a : Option Addr) (n cap : Nat) (w : World) (hn : n ≤ 9223372036854775807) : Calls Try.prog 8 #[.agg #[.int .i64 N, .slice a n cap]] w fun e w' => e = .returned (.bool (decide (200 < N ∧ 500 < n))) ∧ Below w.heap.size w w' := by
  by_cases h1 : 200 < N
  · by_cases h2 : 500 < n
    · rw [decide_eq_true ⟨h1, h2⟩]
      have h2' : (500 : Int) < n := by omega
      go_enter Try.func8, Try.ntmps8
      go_wp2_with fail
      go_ret
      exact ⟨rfl, (Below.refl _ _).alloc (Nat.le_refl _) _⟩
    · rw [decide_eq_false (fun h => h2 h.2)]
      have h2' : ¬ (500 : Int) < n := by omega
      go_enter Try.func8, Try.ntmps8
      go_wp2_with fail
      go_ret
      exact ⟨rfl, (Below.refl _ _).alloc (Nat.le_refl _) _⟩
  · rw [decide_eq_false (fun h => h1 h.1)]
    go_enter Try.func8, Try.ntmps8
    go_wp2_with fail
    go_ret
    exact ⟨rfl, (Below.refl _ _).alloc (Nat.le_refl _) _⟩
end Go.Proofs.Ytgkpmcpkobphpaa
