/-
  A shift to the left by sevens, as 64 bits.
-/
import Derived.Test.YtchmiiclogmheaaDoorCEncode
namespace Go.Proofs.YtchmiiclogmheaaDoor.C2
open Go.RowKit
set_option maxRecDepth 100000 in
theorem shl_any (x q : Nat) : Op.shift .shl .u64 (x : Int) .i64 (7 * (q : Int)) = pure (.int .u64 ((x * 2 ^ (7 * q) % 18446744073709551616 : Nat) : Int)) := by
  by_cases h : 7 * q ≤ 64
  · rw [shift_shl .u64 .i64 (x : Int) (7 * (q : Int)) (by omega) (by show _ ≤ (64 : Int); omega), IntKind.wrap_u64]
    rw [show (7 * (q : Int)).toNat = 7 * q by omega]
    congr 2
  · have e1 : x * 2 ^ (7 * q) % 18446744073709551616 = 0 := by
      obtain ⟨d, hd⟩ : ∃ d, 7 * q = 64 + d := ⟨7 * q - 64, by omega⟩
      rw [hd, Nat.pow_add, Nat.mul_left_comm]
      exact Nat.mul_mod_right 18446744073709551616 _
    rw [e1]
    have hm : min (7 * (q : Int)).toNat IntKind.u64.bits = 64 := by show min _ 64 = 64; omega
    simp only [Op.shift]
    rw [if_neg (by omega), hm, IntKind.wrap_u64]
    have e2 : ((x : Int) * 2 ^ 64) % 18446744073709551616 = 0 := Int.mul_emod_left _ _
    rw [e2]
    rfl
end Go.Proofs.YtchmiiclogmheaaDoor.C2
