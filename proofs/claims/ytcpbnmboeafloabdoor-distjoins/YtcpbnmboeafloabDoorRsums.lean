/-
  Contract of the reference's Sums: the sums of a list, in memory of their own, or ErrLong.
-/
import Derived.Test.YtcpbnmboeafloabDoorSums
namespace Go.Proofs.YtcpbnmboeafloabDoor
open Go.RowKit
theorem sumsD_take (l : List Int) (k : Nat) (hk : k < l.length) : cellsD ((sumsD l).take (k + 1)) = cellsD ((sumsD l).take k) ++ [.int .u64 (sumD (l.take (k + 1)))] := by
  have h : k < (sumsD l).length := by rw [sumsD_len]; exact hk
  have e : (sumsD l)[k] = sumD (l.take (k + 1)) := by rw [← sumsD_getD l k hk]; simp [List.getD, List.getElem?_eq_getElem h]
  rw [List.take_succ_eq_append_getElem h, e]
  unfold cellsD
  rw [List.map_append]
  rfl
end Go.Proofs.YtcpbnmboeafloabDoor
