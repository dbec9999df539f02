/-
  No arcs make no cell stale.
-/
import Derived.Test.YtaafkpojjdjphaaGreatYAV
namespace Go.Proofs.YtaafkpojjdjphaaGreat
open Go.RowKit
theorem stN_nil (n : Nat) (cs : List (List Int)) (l : List A) : ∀ k, stN n cs l [] k = 0
  | 0 => rfl
  | k + 1 => by
    show stN n cs l [] k + _ = 0
    rw [stN_nil n cs l k]
    have : tcL n (lvl cs k) l [] = [] := by
      unfold tcL
      rw [cho_congr (q := fun _ => false) (fun v _ => by simp [tcP])]
      simp [cho]
    rw [this]
    rfl
theorem tcL_nil (n : Nat) (L : List Int) (l : List A) : tcL n L l [] = [] := by
  unfold tcL
  rw [cho_congr (q := fun _ => false) (fun v _ => by simp [tcP])]
  simp [cho]
end Go.Proofs.YtaafkpojjdjphaaGreat
