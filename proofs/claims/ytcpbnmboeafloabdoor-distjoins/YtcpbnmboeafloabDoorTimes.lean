/-
  Contract of dist.Times: below 0 it tells ErrRange, else w times n, stopped at the greatest distance; the world stays.
-/
import Derived.Test.YtcpbnmboeafloabDoorShelf
import Derived.Test.YtcpbnmboeafloabDoorAdd
import Derived.Lib.ItoaNum
namespace Go.Proofs.YtcpbnmboeafloabDoor
open Go.RowKit
set_option maxHeartbeats 400000 in
theorem times_neg (x n : Int) (hn : n < 0) (w : World) :
    Calls Tryd.prog 10 #[.int .u32 x, .int .i64 n] w fun e w' => e = .returned (.tuple #[.int .u64 0, .int .i64 1]) ∧ w' = w := by
  go_enter Tryd.func10, Tryd.ntmps10
  go_wp2
  go_ret2
  exact ⟨rfl, rfl⟩
theorem lt_bitLen (n : Nat) (h : n < 2 ^ 64) : n < 2 ^ Lib.bitLen n := by
  by_cases h0 : n = 0
  · subst h0; exact Nat.two_pow_pos _
  · exact (Lib.bitLenAux_bounds 64 n h h0).2.2
theorem len_nat (n m : Nat) (hn : n ≤ 9223372036854775807) (hm : Lib.bitLen n = m) (w : World) :
    Calls Tryd.prog 13 #[.int .u64 n] w fun e w' => e = .returned (.int .i64 m) ∧ w' = w := by
  have h := Tryd.bits_Len n w (by omega) (by omega)
  rw [Int.toNat_natCast, hm] at h
  exact h
theorem two63 : (2 : Int) ^ 63 = 9223372036854775808 := by decide
theorem and_one (i : Nat) (hi : i < 9223372036854775808) : bits BinOp.and IntKind.i64 (i : Int) 1 = ((i % 2 : Nat) : Int) := by
  have h := bits_mask .i64 63 (by decide) (fun n h0 h1 => by rw [two63] at h1; rw [IntKind.wrap_i64]; omega) 1 (by decide) (i : Int) (by omega) (by rw [two63]; omega)
  have e : ((2 : Int) ^ 1 - 1) = 1 := by decide
  rw [e] at h
  rw [h]
  omega
theorem bit_at (n k : Nat) (hn : n ≤ 9223372036854775807) : bits BinOp.and IntKind.i64 ((n : Int) / 2 ^ k) 1 = ((n / 2 ^ k % 2 : Nat) : Int) := by
  have e : ((n : Int) / 2 ^ k) = ((n / 2 ^ k : Nat) : Int) := by rw [Int.natCast_ediv, Int.natCast_pow]; rfl
  rw [e, and_one _ (by have := Nat.div_le_self n (2 ^ k); omega)]
set_option maxHeartbeats 400000 in
theorem times_any (x : Int) (n : Nat) (hx : 0 ≤ x) (hx' : x ≤ 4294967295) (hn : n ≤ 9223372036854775807) (w : World) :
    Calls Tryd.prog 10 #[.int .u32 x, .int .i64 n] w fun e w' => e = .returned (.tuple #[.int .u64 (timesD x n), .int .i64 0]) ∧ w' = w := by
  have hlt := lt_bitLen n (by omega)
  have hle : Lib.bitLen n ≤ 63 := Lib.bitLen_le n 63 (by omega) (by omega)
  have hlen := fun w => len_nat n (Lib.bitLen n) hn rfl w
  generalize Lib.bitLen n = m at *
  have HL : Hid (n < 2 ^ m) := hlt
  have HC : Hid (∀ w, Calls Tryd.prog 13 #[.int .u64 n] w fun e w' => e = .returned (.int .i64 m) ∧ w' = w) := hlen
  clear hlt hlen
  have hn0 : ¬ (n : Int) < 0 := by omega
  go_enter Tryd.func10, Tryd.ntmps10
  go_wp2_with fail
  refine (HC.out _).mono ?_
  rintro e w' ⟨rfl, rfl⟩
  go_wp2_with fail
  go_loop [6, 7, 16] (fun t d i => ∃ k : Nat, k ≤ m ∧ i = .int .i64 k ∧ t = .int .u64 (totD x n k) ∧ d = .int .u64 (dblD x k)) (fun _ _ i => m - (intOf i).toNat)
  case atStart => exact ⟨0, Nat.zero_le _, rfl, by rw [totD_start], by rw [dblD_start (by omega)]⟩
  case round =>
    obtain ⟨k, hk, rfl, rfl, rfl⟩ := hrel
    have t0 := totD_nonneg hx n k
    have t1 := totD_le x n k
    have d0 := dblD_nonneg hx k
    have d1 := dblD_le x k
    by_cases hlt : k < m
    · by_cases h1 : n / 2 ^ k % 2 = 1
      · have hb : (bits BinOp.and IntKind.i64 ((n : Int) / 2 ^ k) 1 == 1) = true := by rw [bit_at n k hn, h1]; rfl
        have H1 : Hid (n / 2 ^ k % 2 = 1) := h1
        clear h1
        go_wp2_with fail
        refine (add_any _ _ t0 t1 d0 d1 _).mono ?_
        rintro e w1 ⟨rfl, rfl⟩
        go_wp2_with fail
        refine (add_any _ _ d0 d1 d0 d1 _).mono ?_
        rintro e w1 ⟨rfl, rfl⟩
        go_wp2_with fail
        go_round
        case rel => exact ⟨k + 1, by omega, by go_num, by rw [totD_one hx H1.out], by rw [dblD_step hx]⟩
        case measure => simp [intOf]; omega
      · have h0 : n / 2 ^ k % 2 = 0 := by omega
        have hb : (bits BinOp.and IntKind.i64 ((n : Int) / 2 ^ k) 1 == 1) = false := by rw [bit_at n k hn, h0]; rfl
        have H0 : Hid (n / 2 ^ k % 2 = 0) := h0
        clear h1 h0
        go_wp2_with fail
        refine (add_any _ _ d0 d1 d0 d1 _).mono ?_
        rintro e w1 ⟨rfl, rfl⟩
        go_wp2_with fail
        go_round
        case rel => exact ⟨k + 1, by omega, by go_num, by rw [totD_zero H0.out], by rw [dblD_step hx]⟩
        case measure => simp [intOf]; omega
    · have hkm : k = m := by omega
      have HE : Hid (totD x n k = timesD x n) := by subst hkm; exact totD_end x HL.out
      clear hkm
      go_wp2_with fail
      go_ret2
      exact ⟨by rw [HE.out]; rfl, rfl⟩
end Go.Proofs.YtcpbnmboeafloabDoor
