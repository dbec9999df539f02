/-
  Contract of the reference's Times: below 0 it tells ErrRange, else w times n, stopped at the greatest distance; the world stays.
-/
import Derived.Test.YtcpbnmboeafloaaDoorAdd
namespace Go.Proofs.YtcpbnmboeafloaaDoor
open Go.RowKit
set_option maxHeartbeats 400000 in
theorem rtimes_neg (x n : Int) (hn : n < 0) (w : World) :
    Calls Tryd.prog 10 #[.int .u32 x, .int .i64 n] w fun e w' => e = .returned (.tuple #[.int .u64 0, .int .i64 1]) ∧ w' = w := by
  go_enter Tryd.func10, Tryd.ntmps10
  go_wp2
  go_ret2
  exact ⟨rfl, rfl⟩
theorem half_step (n k : Nat) : n / 2 ^ k / 2 = n / 2 ^ (k + 1) := by rw [Nat.div_div_eq_div_mul, Nat.pow_succ]
set_option maxHeartbeats 400000 in
theorem rtimes_any (x : Int) (n : Nat) (hx : 0 ≤ x) (hx' : x ≤ 4294967295) (hn : n ≤ 9223372036854775807) (w : World) :
    Calls Tryd.prog 10 #[.int .u32 x, .int .i64 n] w fun e w' => e = .returned (.tuple #[.int .u64 (timesD x n), .int .i64 0]) ∧ w' = w := by
  have hn0 : ¬ (n : Int) < 0 := by omega
  go_enter Tryd.func10, Tryd.ntmps10
  go_wp2_with fail
  go_loop [1, 6, 7] (fun r t d => ∃ k : Nat, r = .int .i64 (n / 2 ^ k : Nat) ∧ t = .int .u64 (totD x n k) ∧ d = .int .u64 (dblD x k)) (fun r _ _ => (intOf r).toNat)
  case atStart => exact ⟨0, by rw [Nat.pow_zero, Nat.div_one], by rw [totD_start], by rw [dblD_start (by omega)]⟩
  case round =>
    obtain ⟨k, rfl, rfl, rfl⟩ := hrel
    have t0 := totD_nonneg hx n k
    have t1 := totD_le x n k
    have d0 := dblD_nonneg hx k
    have d1 := dblD_le x k
    have hq := Nat.div_le_self n (2 ^ k)
    have HS : Hid (n / 2 ^ k / 2 = n / 2 ^ (k + 1)) := half_step n k
    have HO : Hid (n / 2 ^ k % 2 = 1 → addD (totD x n k) (dblD x k) = totD x n (k + 1)) := totD_one hx
    have HZ : Hid (n / 2 ^ k % 2 = 0 → totD x n k = totD x n (k + 1)) := totD_zero
    have HE : Hid (n / 2 ^ k = 0 → totD x n k = timesD x n) := fun h => totD_end x (Nat.lt_of_div_eq_zero (Nat.two_pow_pos k) h)
    generalize n / 2 ^ k = r at *
    by_cases hlt : 0 < r
    · by_cases h1 : r % 2 = 1
      · have hb : ((r : Int) % 2 == 1) = true := beq_iff_eq.2 (by omega)
        have H1 : Hid (r % 2 = 1) := h1
        clear h1
        go_wp2_with fail
        refine (radd_any _ _ t0 t1 d0 d1 _).mono ?_
        rintro e w1 ⟨rfl, rfl⟩
        go_wp2_with fail
        refine (radd_any _ _ d0 d1 d0 d1 _).mono ?_
        rintro e w1 ⟨rfl, rfl⟩
        go_wp2_with fail
        go_round
        case rel => exact ⟨k + 1, by rw [← HS.out]; go_num, by rw [HO.out H1.out], by rw [dblD_step hx]⟩
        case measure => simp [intOf]; omega
      · have hb : ((r : Int) % 2 == 1) = false := beq_eq_false_iff_ne.2 (by omega)
        have H0 : Hid (r % 2 = 0) := (by omega : r % 2 = 0)
        clear h1
        go_wp2_with fail
        refine (radd_any _ _ d0 d1 d0 d1 _).mono ?_
        rintro e w1 ⟨rfl, rfl⟩
        go_wp2_with fail
        go_round
        case rel => exact ⟨k + 1, by rw [← HS.out]; go_num, by rw [HZ.out H0.out], by rw [dblD_step hx]⟩
        case measure => simp [intOf]; omega
    · have hr : r = 0 := by omega
      have HF : Hid (totD x n k = timesD x n) := HE.out hr
      clear hr
      go_wp2_with fail
      go_ret2
      exact ⟨by rw [HF.out]; rfl, rfl⟩
end Go.Proofs.YtcpbnmboeafloaaDoor
