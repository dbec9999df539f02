/-
  The walk of the statement DistTimes: it returns true for every weight and every two numbers.
-/
import Derived.Test.YtcpbnmboeafloaaDoorWorks
namespace Go.Proofs.YtcpbnmboeafloaaDoor
open Go.RowKit
set_option maxHeartbeats 400000 in
theorem law_times (x n m : Int) (hx : 0 ≤ x) (hx' : x ≤ 4294967295) (w : World) :
    Calls Tryd.prog 7 #[.int .u32 x, .int .i64 n, .int .i64 m] w fun e w' => e = .returned (.bool true) ∧ Below w.heap.size w w' := by
  by_cases h : n < 0 ∨ m < 0 ∨ 2305843009213693952 < n ∨ 2305843009213693952 < m
  · by_cases h1 : n < 0
    · go_enter Tryd.func7, Tryd.ntmps7
      go_wp2_with fail
      refine (works_any _).mono ?_
      rintro e w1 ⟨rfl, hb⟩
      go_wp2_with fail
      go_ret
      exact ⟨rfl, hb⟩
    · by_cases h2 : m < 0
      · go_enter Tryd.func7, Tryd.ntmps7
        go_wp2_with fail
        refine (works_any _).mono ?_
        rintro e w1 ⟨rfl, hb⟩
        go_wp2_with fail
        go_ret
        exact ⟨rfl, hb⟩
      · by_cases h3 : 2305843009213693952 < n
        · go_enter Tryd.func7, Tryd.ntmps7
          go_wp2_with fail
          refine (works_any _).mono ?_
          rintro e w1 ⟨rfl, hb⟩
          go_wp2_with fail
          go_ret
          exact ⟨rfl, hb⟩
        · have h4 : 2305843009213693952 < m := by omega
          go_enter Tryd.func7, Tryd.ntmps7
          go_wp2_with fail
          refine (works_any _).mono ?_
          rintro e w1 ⟨rfl, hb⟩
          go_wp2_with fail
          go_ret
          exact ⟨rfl, hb⟩
  · have h1 : 0 ≤ n := by omega
    have h2 : 0 ≤ m := by omega
    have h3 : n ≤ 2305843009213693952 := by omega
    have h4 : m ≤ 2305843009213693952 := by omega
    clear h
    obtain ⟨p, rfl⟩ := Int.eq_ofNat_of_zero_le h1
    obtain ⟨q, rfl⟩ := Int.eq_ofNat_of_zero_le h2
    have hs : timesD x (p : Int) ≤ 18446744073709551615 := timesD_le _ _
    have ht : timesD x (q : Int) ≤ 18446744073709551615 := timesD_le _ _
    have hs0 : 0 ≤ timesD x (p : Int) := timesD_nonneg hx h1
    have ht0 : 0 ≤ timesD x (q : Int) := timesD_nonneg hx h2
    have hsum : Hid (addD (timesD x (p : Int)) (timesD x (q : Int)) = timesD x ((p : Int) + (q : Int))) := timesD_add hx h1 h2
    have hpq : Hid (∀ w, Calls Tryd.prog 9 #[.int .u32 x, .int .i64 ((p : Int) + (q : Int))] w fun e w' => e = .returned (.tuple #[.int .u64 (timesD x ((p : Int) + (q : Int))), .int .i64 0]) ∧ w' = w) := fun w => by
      have h := times_any x (p + q) hx hx' (by omega) w
      rw [Int.natCast_add] at h
      exact h
    go_enter Tryd.func7, Tryd.ntmps7
    go_wp2_with fail
    refine (works_any _).mono ?_
    rintro e w1 ⟨rfl, hb⟩
    go_wp2_with fail
    refine (times_any x p hx hx' (by omega) _).mono ?_
    rintro e w2 ⟨rfl, rfl⟩
    go_wp2_with fail
    refine (times_any x q hx hx' (by omega) _).mono ?_
    rintro e w2 ⟨rfl, rfl⟩
    go_wp2_with fail
    refine (hpq.out _).mono ?_
    rintro e w2 ⟨rfl, rfl⟩
    go_wp2_with fail
    refine (add_any _ _ hs0 hs ht0 ht _).mono ?_
    rintro e w2 ⟨rfl, rfl⟩
    rw [hsum.out]
    go_wp2_with fail
    go_ret
    exact ⟨rfl, hb⟩
end Go.Proofs.YtcpbnmboeafloaaDoor
