/-
  Contracts of dist.Add and the reference's Add: both return the sum that stops at the greatest distance; the world stays.
-/
import Derived.Test.YtcpbnmboeafloabDoorChecked
import Derived.Test.YtcpbnmboeafloabDoorMath
import Derived.WalkKit
import Derived.BigCall
import Derived.Below
namespace Go.Proofs.YtcpbnmboeafloabDoor
open Go.RowKit
set_option maxHeartbeats 400000 in
theorem add_any (a b : Int) (ha : 0 ≤ a) (ha' : a ≤ 18446744073709551615) (hb : 0 ≤ b) (hb' : b ≤ 18446744073709551615) (w : World) :
    Calls Tryd.prog 8 #[.int .u64 a, .int .u64 b] w fun e w' => e = .returned (.int .u64 (addD a b)) ∧ w' = w := by
  by_cases h : 18446744073709551615 - b ≤ a
  · rw [addD_inf (by omega)]
    go_enter Tryd.func8, Tryd.ntmps8
    go_wp2
    go_ret
    exact ⟨rfl, rfl⟩
  · rw [addD_sum (by omega)]
    go_enter Tryd.func8, Tryd.ntmps8
    go_wp2
    go_ret
    exact ⟨rfl, rfl⟩
end Go.Proofs.YtcpbnmboeafloabDoor
