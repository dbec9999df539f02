/-
  Plain mathematics of distances: sums that stop at the greatest distance; no program in it.
-/
namespace Go.Proofs.YtcpbnmboeafloabDoor
/-- The greatest distance. -/
def inf : Int := 18446744073709551615
theorem inf_eq : inf = 18446744073709551615 := rfl
/-- Two distances added: their sum, or the greatest distance. -/
def addD (a b : Int) : Int := if inf ≤ a + b then inf else a + b
theorem addD_inf {a b : Int} (h : 18446744073709551615 ≤ a + b) : addD a b = 18446744073709551615 := by unfold addD inf; rw [if_pos h]
theorem addD_sum {a b : Int} (h : a + b < 18446744073709551615) : addD a b = a + b := by unfold addD inf; rw [if_neg (by omega)]
theorem addD_le_sum {a b : Int} (h : a + b ≤ 18446744073709551615) : addD a b = a + b := by unfold addD inf; split <;> omega
theorem addD_nonneg {a b : Int} (ha : 0 ≤ a) (hb : 0 ≤ b) : 0 ≤ addD a b := by unfold addD inf; split <;> omega
theorem addD_le (a b : Int) : addD a b ≤ 18446744073709551615 := by unfold addD inf; split <;> omega
theorem addD_comm (a b : Int) : addD a b = addD b a := by unfold addD; rw [Int.add_comm a b]
theorem addD_assoc {a b c : Int} (ha : 0 ≤ a) (hc : 0 ≤ c) : addD (addD a b) c = addD a (addD b c) := by
  unfold addD inf
  repeat' split
  all_goals omega
theorem addD_min (a b : Int) : addD a b = min (a + b) 18446744073709551615 := by
  unfold addD inf; split <;> omega
/-- A number, or the greatest distance if it is greater. -/
def sat (x : Int) : Int := if inf ≤ x then inf else x
theorem sat_nonneg {x : Int} (h : 0 ≤ x) : 0 ≤ sat x := by unfold sat inf; split <;> omega
theorem sat_le (x : Int) : sat x ≤ 18446744073709551615 := by unfold sat inf; split <;> omega
theorem sat_small {x : Int} (h : x ≤ 18446744073709551615) : sat x = x := by unfold sat inf; split <;> omega
theorem addD_sat {x y : Int} (hx : 0 ≤ x) (hy : 0 ≤ y) : addD (sat x) (sat y) = sat (x + y) := by
  unfold addD sat inf
  repeat' split
  all_goals omega
/-- What was added up of w by the lowest i binary digits of n. -/
def totD (w : Int) (n i : Nat) : Int := sat (w * ((n % 2 ^ i : Nat) : Int))
/-- w doubled i times. -/
def dblD (w : Int) (i : Nat) : Int := sat (w * ((2 ^ i : Nat) : Int))
theorem mul_nat_nonneg {w : Int} (h : 0 ≤ w) (k : Nat) : 0 ≤ w * (k : Int) := Int.mul_nonneg h (Int.natCast_nonneg k)
theorem totD_nonneg {w : Int} (h : 0 ≤ w) (n i : Nat) : 0 ≤ totD w n i := sat_nonneg (mul_nat_nonneg h _)
theorem totD_le (w : Int) (n i : Nat) : totD w n i ≤ 18446744073709551615 := sat_le _
theorem dblD_nonneg {w : Int} (h : 0 ≤ w) (i : Nat) : 0 ≤ dblD w i := sat_nonneg (mul_nat_nonneg h _)
theorem dblD_le (w : Int) (i : Nat) : dblD w i ≤ 18446744073709551615 := sat_le _
theorem mod_step (n i : Nat) : n % 2 ^ (i + 1) = n % 2 ^ i + 2 ^ i * (n / 2 ^ i % 2) := by
  rw [Nat.pow_succ, Nat.mod_mul]
theorem totD_one {w : Int} (hw : 0 ≤ w) {n i : Nat} (h : n / 2 ^ i % 2 = 1) : addD (totD w n i) (dblD w i) = totD w n (i + 1) := by
  unfold totD dblD
  rw [addD_sat (mul_nat_nonneg hw _) (mul_nat_nonneg hw _), mod_step, h, Nat.mul_one, Int.natCast_add, Int.mul_add]
theorem totD_zero {w : Int} {n i : Nat} (h : n / 2 ^ i % 2 = 0) : totD w n i = totD w n (i + 1) := by
  unfold totD
  rw [mod_step, h, Nat.mul_zero, Nat.add_zero]
theorem dblD_step {w : Int} (hw : 0 ≤ w) (i : Nat) : addD (dblD w i) (dblD w i) = dblD w (i + 1) := by
  unfold dblD
  rw [addD_sat (mul_nat_nonneg hw _) (mul_nat_nonneg hw _), Nat.pow_succ, Nat.mul_two, Int.natCast_add, Int.mul_add]
theorem totD_start (w : Int) (n : Nat) : totD w n 0 = 0 := by
  unfold totD
  rw [Nat.pow_zero, Nat.mod_one]
  show sat (w * 0) = 0
  rw [Int.mul_zero]; rfl
theorem dblD_start {w : Int} (h : w ≤ 18446744073709551615) : dblD w 0 = w := by
  unfold dblD
  show sat (w * 1) = w
  rw [Int.mul_one, sat_small h]
theorem totD_end (w : Int) {n i : Nat} (h : n < 2 ^ i) : totD w n i = sat (w * (n : Int)) := by
  unfold totD
  rw [Nat.mod_eq_of_lt h]
/-- w added n times to 0. -/
def timesD (w n : Int) : Int := sat (w * n)
theorem timesD_nonneg {w n : Int} (hw : 0 ≤ w) (hn : 0 ≤ n) : 0 ≤ timesD w n := sat_nonneg (Int.mul_nonneg hw hn)
theorem timesD_le (w n : Int) : timesD w n ≤ 18446744073709551615 := sat_le _
theorem timesD_add {w n m : Int} (hw : 0 ≤ w) (hn : 0 ≤ n) (hm : 0 ≤ m) : addD (timesD w n) (timesD w m) = timesD w (n + m) := by
  unfold timesD
  rw [addD_sat (Int.mul_nonneg hw hn) (Int.mul_nonneg hw hm), Int.mul_add]
end Go.Proofs.YtcpbnmboeafloabDoor
