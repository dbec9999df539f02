/-
  Contracts of code.word: four bytes as a number; code.fault: a place and what is wrong there.
-/
import Derived.Test.YtgcnpmjpdhgikabDoorSum
import Derived.Deep.QuietTactic
import Derived.BigQuiet
namespace Go.Proofs.YtgcnpmjpdhgikabDoor
open Go.RowKit
/-- Four bytes as a number. -/
def word4 (a b c d : Nat) : Nat := a + b * 256 + c * 65536 + d * 16777216
theorem word4_lt {a b c d : Nat} (ha : a < 256) (hb : b < 256) (hc : c < 256) (hd : d < 256) : word4 a b c d < 4294967296 := by unfold word4; omega
theorem or_high (a b i : Nat) (h : a < 2 ^ i) : a ||| b * 2 ^ i = a + b * 2 ^ i := by
  have := Nat.two_pow_add_eq_or_of_lt h b
  rw [Nat.mul_comm b, Nat.or_comm, ← this, Nat.add_comm]
theorem or_word {a b c d : Nat} (ha : a < 256) (hb : b < 256) (hc : c < 256) : ((a ||| b * 256) ||| c * 65536) ||| d * 16777216 = word4 a b c d := by
  unfold word4
  rw [or_high a b 8 (by omega), or_high _ c 16 (by omega), or_high _ d 24 (by omega)]
theorem bits_word {a b c d : Nat} (ha : a < 256) (hb : b < 256) (hc : c < 256) (hd : d < 256) :
    bits .or .u32 (bits .or .u32 (bits .or .u32 (a : Int) ((b : Int) * 256)) ((c : Int) * 65536)) ((d : Int) * 16777216) = ((word4 a b c d : Nat) : Int) := by
  have e1 := u32_or_nat a (b * 256) (by omega) (by omega)
  rw [or_high a b 8 (by omega)] at e1
  have e2 := u32_or_nat (a + b * 2 ^ 8) (c * 65536) (by omega) (by omega)
  rw [or_high _ c 16 (by omega)] at e2
  have e3 := u32_or_nat (a + b * 2 ^ 8 + c * 2 ^ 16) (d * 16777216) (by omega) (by omega)
  rw [or_high _ d 24 (by omega)] at e3
  rw [Int.natCast_mul] at e1 e2 e3
  exact ((congrArg (fun x => bits .or .u32 (bits .or .u32 x ((c : Int) * 65536)) ((d : Int) * 16777216)) e1).trans (congrArg (fun x => bits .or .u32 x ((d : Int) * 16777216)) e2)).trans e3
set_option maxHeartbeats 400000 in
theorem fault_any (a e : Int) (w : World) :
    Calls Tryd.prog 11 #[.int .i64 a, .int .i64 e] w fun r w' => r = .returned (.agg #[.int .i64 a, .int .i64 e]) ∧ Below w.heap.size w w' := by
  go_enter Tryd.func11, Tryd.ntmps11
  go_wp2_with fail
  exact bodyPost_ret (v := .agg #[.int .i64 a, .int .i64 e]) (by simp [results, Tryd.results11, go_sem]) rfl ⟨rfl, (Below.refl _ _).alloc (Nat.le_refl _) _⟩
end Go.Proofs.YtgcnpmjpdhgikabDoor
