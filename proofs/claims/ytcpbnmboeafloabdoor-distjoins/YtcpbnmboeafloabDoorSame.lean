/-
  Contract of the book's SameDists: whether two lists are the same; nothing is written.
-/
import Derived.Test.YtcpbnmboeafloabDoorSum
import Derived.Deep.QuietTactic
import Derived.BigQuiet
import Derived.WalkSmall
namespace Go.Proofs.YtcpbnmboeafloabDoor
open Go.RowKit
set_option maxHeartbeats 400000 in
theorem same_empty (a a' : Option Addr) (cap cap' : Nat) (w : World) :
    Calls Tryd.prog 6 #[.slice a 0 cap, .slice a' 0 cap'] w fun e w' => e = .returned (.bool true) ∧ w' = w := by
  go_enter Tryd.func6, Tryd.ntmps6
  go_wp2_with fail
  refine wp_loop_rounds 1 ?_
  rw [rounds_succ]
  go_wp2_with fail
  go_ret
  exact ⟨rfl, rfl⟩
set_option maxHeartbeats 400000 in
theorem same_some (b off cap b' off' cap' : Nat) (l : List Int) (w : World) (hlen : l.length ≤ 9223372036854775807) (hc : ∀ j, j < l.length → w.cell? ⟨b, off + j, none⟩ = some (.int .u64 (l.getD j 0))) (hc' : ∀ j, j < l.length → w.cell? ⟨b', off' + j, none⟩ = some (.int .u64 (l.getD j 0))) :
    Calls Tryd.prog 6 #[.slice (some ⟨b, off, none⟩) l.length cap, .slice (some ⟨b', off', none⟩) l.length cap'] w fun e w' => e = .returned (.bool true) ∧ ∃ n, w' = w.drewN n := by
  have HC : Hid (∀ j, j < l.length → w.cell? ⟨b, off + j, none⟩ = some (.int .u64 (l.getD j 0))) := hc
  have HC' : Hid (∀ j, j < l.length → w.cell? ⟨b', off' + j, none⟩ = some (.int .u64 (l.getD j 0))) := hc'
  clear hc hc'
  go_enter Tryd.func6, Tryd.ntmps6
  go_wp2_with fail
  go_loopw [5] (fun i wr => ∃ k n : Nat, k ≤ l.length ∧ i = .int .i64 k ∧ wr = w.drewN n) (fun i _ => l.length - (intOf i).toNat)
  case atStart => exact ⟨0, 0, Nat.zero_le _, rfl, rfl⟩
  case round =>
    obtain ⟨k, n, hk, rfl, rfl⟩ := hrel
    by_cases hlt : k < l.length
    · have c1 := HC.out k hlt
      have c2 := HC'.out k hlt
      generalize l.getD k 0 = x at *
      go_wp2_with fail
      go_quiet (fail)
      go_wp2_with fail
      exact ⟨⟨k + 1, _, by omega, by go_num, rfl⟩, by simp [intOf]; omega⟩
    · go_wp2_with fail
      go_ret
      exact ⟨rfl, n, rfl⟩
theorem same_any (a a' : Option Addr) (cap cap' : Nat) (l : List Int) (w : World) (hlen : l.length ≤ 9223372036854775807) (hr : Row w a l) (hr' : Row w a' l) :
    Calls Tryd.prog 6 #[.slice a l.length cap, .slice a' l.length cap'] w fun e w' => e = .returned (.bool true) ∧ ∃ n, w' = w.drewN n := by
  by_cases h0 : l = []
  · subst h0
    refine (same_empty a a' cap cap' w).mono ?_
    rintro e w1 ⟨rfl, rfl⟩
    exact ⟨rfl, 0, rfl⟩
  · rcases hr with rfl | ⟨b, off, rfl, hc⟩
    · exact absurd rfl h0
    · rcases hr' with rfl | ⟨b', off', rfl, hc'⟩
      · exact absurd rfl h0
      · exact same_some b off cap b' off' cap' l w hlen hc hc'
end Go.Proofs.YtcpbnmboeafloabDoor
