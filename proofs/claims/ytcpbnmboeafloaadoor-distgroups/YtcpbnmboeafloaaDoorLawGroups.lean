/-
  The walk of the statement DistGroups: it returns true for every three distances.
-/
import Derived.Test.YtcpbnmboeafloaaDoorWorks
import Derived.Test.YtcpbnmboeafloaaDoorSum
namespace Go.Proofs.YtcpbnmboeafloaaDoor
open Go.RowKit
theorem add_zero_any (a : Int) (ha : 0 ≤ a) (ha' : a ≤ 18446744073709551615) (w : World) :
    Calls Tryd.prog 12 #[.int .u64 a, .int .u64 0] w fun e w' => e = .returned (.int .u64 a) ∧ w' = w := by
  have h := add_any a 0 ha ha' (by omega) (by omega) w
  rw [addD_le_sum (by omega), Int.add_zero] at h
  exact h
theorem add_inf_any (a : Int) (ha : 0 ≤ a) (ha' : a ≤ 18446744073709551615) (w : World) :
    Calls Tryd.prog 12 #[.int .u64 a, .int .u64 18446744073709551615] w fun e w' => e = .returned (.int .u64 18446744073709551615) ∧ w' = w := by
  have h := add_any a 18446744073709551615 ha ha' (by omega) (by omega) w
  rw [addD_inf (by omega)] at h
  exact h
theorem addD_ge_left {a b : Int} (hb : 0 ≤ b) (ha' : a ≤ 18446744073709551615) : a ≤ addD a b := by unfold addD inf; split <;> omega
theorem addD_ge_right {a b : Int} (ha : 0 ≤ a) (hb' : b ≤ 18446744073709551615) : b ≤ addD a b := by unfold addD inf; split <;> omega
theorem addD_mono {a b c : Int} (h : b ≤ c) : addD a b ≤ addD a c := by
  unfold addD inf
  repeat' split
  all_goals omega
theorem add_eq (a b x : Int) (ha : 0 ≤ a) (ha' : a ≤ 18446744073709551615) (hb : 0 ≤ b) (hb' : b ≤ 18446744073709551615) (h : addD a b = x) (w : World) :
    Calls Tryd.prog 12 #[.int .u64 a, .int .u64 b] w fun e w' => e = .returned (.int .u64 x) ∧ w' = w := by
  subst h; exact add_any a b ha ha' hb hb' w
theorem sumD_three {a b c : Int} (ha : 0 ≤ a) (ha' : a ≤ 18446744073709551615) : sumD [a, b, c] = addD (addD a b) c := by
  show addD (addD (addD 0 a) b) c = _
  rw [show addD 0 a = a by rw [addD_le_sum (by omega), Int.zero_add]]
theorem sum3_eq (a b c z : Int) (hD : Dists [a, b, c]) (h : sumD [a, b, c] = z) (w : World) :
    Calls Tryd.prog 21 #[.slice (some ⟨w.heap.size, 0, none⟩) 3 3] (w.alloc (.cells #[.int .u64 a, .int .u64 b, .int .u64 c] 23)) fun e w' => e = .returned (.int .u64 z) ∧ w' = w.alloc (.cells #[.int .u64 a, .int .u64 b, .int .u64 c] 23) := by
  subst h
  refine sum_any (some ⟨w.heap.size, 0, none⟩) [a, b, c] 3 _ hD (by simp) (Or.inr ⟨_, _, rfl, fun j hj => ?_⟩)
  match j, hj with
  | 0, _ => simp
  | 1, _ => simp
  | 2, _ => simp
set_option maxHeartbeats 400000 in
theorem law_groups (a b c : Int) (ha : 0 ≤ a) (ha' : a ≤ 18446744073709551615) (hb : 0 ≤ b) (hb' : b ≤ 18446744073709551615) (hc : 0 ≤ c) (hc' : c ≤ 18446744073709551615) (w : World) :
    Calls Tryd.prog 6 #[.int .u64 a, .int .u64 b, .int .u64 c] w fun e w' => e = .returned (.bool true) ∧ Below w.heap.size w w' := by
  obtain ⟨x, HX⟩ : ∃ x, Hid (addD a b = x) := ⟨_, rfl⟩
  obtain ⟨y, HY⟩ : ∃ y, Hid (addD b c = y) := ⟨_, rfl⟩
  obtain ⟨z, HZ⟩ : ∃ z, Hid (addD x c = z) := ⟨_, rfl⟩
  obtain ⟨v, HV⟩ : ∃ v, Hid (addD a c = v) := ⟨_, rfl⟩
  have h1 : a ≤ x := by rw [← HX.out]; exact addD_ge_left hb ha'
  have h2 : b ≤ x := by rw [← HX.out]; exact addD_ge_right ha hb'
  have hx0 : 0 ≤ x := by omega
  have hx1 : x ≤ 18446744073709551615 := by rw [← HX.out]; exact addD_le a b
  have hy0 : 0 ≤ y := by rw [← HY.out]; exact addD_nonneg hb hc
  have hy1 : y ≤ 18446744073709551615 := by rw [← HY.out]; exact addD_le b c
  have HC : Hid (addD b a = x) := (addD_comm b a).trans HX.out
  have HA : Hid (addD a y = z) := (by rw [← HY.out, ← HZ.out, ← HX.out, addD_assoc ha hc] : addD a y = z)
  have HS : Hid (sumD [a, b, c] = z) := (by rw [sumD_three ha ha', HX.out, HZ.out] : sumD [a, b, c] = z)
  have HM : Hid (b ≤ c → x ≤ v) := (by rw [← HX.out, ← HV.out]; exact addD_mono : b ≤ c → x ≤ v)
  have hD : Hid (Dists [a, b, c]) := (by intro x hx; simp at hx; omega : Dists [a, b, c])
  by_cases hbc : c < b
  all_goals
    go_enter Tryd.func6, Tryd.ntmps6
    go_wp2_with fail
    refine (works_any _).mono ?_
    rintro e w1 ⟨rfl, hb1⟩
    go_wp2_with fail
    refine (add_eq a b x ha ha' hb hb' HX.out _).mono ?_
    rintro e w2 ⟨rfl, rfl⟩
    go_wp2_with fail
    refine (add_eq b a x hb hb' ha ha' HC.out _).mono ?_
    rintro e w2 ⟨rfl, rfl⟩
    go_wp2_with fail
    refine (add_eq a b x ha ha' hb hb' HX.out _).mono ?_
    rintro e w2 ⟨rfl, rfl⟩
    go_wp2_with fail
    refine (add_eq x c z hx0 hx1 hc hc' HZ.out _).mono ?_
    rintro e w2 ⟨rfl, rfl⟩
    go_wp2_with fail
    refine (add_eq b c y hb hb' hc hc' HY.out _).mono ?_
    rintro e w2 ⟨rfl, rfl⟩
    go_wp2_with fail
    refine (add_eq a y z ha ha' hy0 hy1 HA.out _).mono ?_
    rintro e w2 ⟨rfl, rfl⟩
    go_wp2_with fail
    refine (add_eq a b x ha ha' hb hb' HX.out _).mono ?_
    rintro e w2 ⟨rfl, rfl⟩
    go_wp2_with fail
    refine (add_zero_any a ha ha' _).mono ?_
    rintro e w2 ⟨rfl, rfl⟩
    go_wp2_with fail
    refine (add_inf_any a ha ha' _).mono ?_
    rintro e w2 ⟨rfl, rfl⟩
    go_wp2_with fail
    refine (sum3_eq a b c z hD.out HS.out _).mono ?_
    rintro e w3 ⟨rfl, rfl⟩
    go_wp2_with fail
    refine (add_eq x c z hx0 hx1 hc hc' HZ.out _).mono ?_
    rintro e w3 ⟨rfl, rfl⟩
    go_wp2_with fail
  · go_ret
    exact ⟨rfl, hb1.alloc hb1.size _⟩
  · have hxv : x ≤ v := HM.out (by omega)
    refine (add_eq a c v ha ha' hc hc' HV.out _).mono ?_
    rintro e w3 ⟨rfl, rfl⟩
    go_wp2_with fail
    go_ret
    exact ⟨rfl, hb1.alloc hb1.size _⟩
end Go.Proofs.YtcpbnmboeafloaaDoor
