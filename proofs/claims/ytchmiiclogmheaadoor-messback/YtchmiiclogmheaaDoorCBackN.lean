/-
  Numbers there and back: a number's bytes tell it, and where they end.
-/
import Derived.Test.YtchmiiclogmheaaDoorCReader
import Derived.Test.YtchmiiclogmheaaDoorCEnc
namespace Go.Proofs.YtchmiiclogmheaaDoor.C2
open Go.RowKit
set_option maxRecDepth 100000 in
/-- Two numbers' bytes, with anything behind them, are alike only where the numbers are, and what is behind. -/
theorem numG_inj (f : Nat) : ∀ (m n : Nat) (r q : List UInt8), m < 2 * 128 ^ f → n < 2 * 128 ^ f → numG f m ++ r = numG f n ++ q → m = n ∧ r = q := by
  induction f with
  | zero =>
    intro m n r q hm hn h
    rw [numG_small (by omega), numG_small (by omega)] at h
    simp at h
    have e := congrArg UInt8.toNat h.1
    rw [toNat_of _ (by omega), toNat_of _ (by omega)] at e
    exact ⟨e, h.2⟩
  | succ f ih =>
    intro m n r q hm hn h
    rw [Nat.pow_succ] at hm hn
    by_cases h1 : 128 ≤ m <;> by_cases h2 : 128 ≤ n
    · rw [numG_big h1, numG_big h2] at h
      simp only [List.cons_append, List.cons.injEq] at h
      have e := congrArg UInt8.toNat h.1
      rw [toNat_of _ (by omega), toNat_of _ (by omega)] at e
      obtain ⟨e1, e2⟩ := ih (m / 128) (n / 128) r q (by omega) (by omega) h.2
      exact ⟨by omega, e2⟩
    · rw [numG_big h1, numG_small (n := n) (by omega)] at h
      simp only [List.cons_append, List.cons.injEq] at h
      have e := congrArg UInt8.toNat h.1
      rw [toNat_of _ (by omega), toNat_of _ (by omega)] at e
      omega
    · rw [numG_small (by omega), numG_big h2] at h
      simp only [List.cons_append, List.cons.injEq] at h
      have e := congrArg UInt8.toNat h.1
      rw [toNat_of _ (by omega), toNat_of _ (by omega)] at e
      omega
    · rw [numG_small (by omega), numG_small (by omega)] at h
      simp only [List.cons_append, List.cons.injEq, List.nil_append] at h
      have e := congrArg UInt8.toNat h.1
      rw [toNat_of _ (by omega), toNat_of _ (by omega)] at e
      exact ⟨e, h.2⟩
set_option maxRecDepth 100000 in
theorem numD_inj {m n : Nat} {r q : List UInt8} (hm : m < 18446744073709551616) (hn : n < 18446744073709551616) (h : numD m ++ r = numD n ++ q) : m = n ∧ r = q :=
  numG_inj 9 m n r q (by omega) (by omega) h
set_option maxRecDepth 100000 in
/-- All of a number's bytes but the last say that more come. -/
theorem numG_shape (f : Nat) : ∀ m, m < 2 * 128 ^ f → ∃ (x : List UInt8) (y : UInt8), numG f m = x ++ [y] ∧ (∀ b ∈ x, 128 ≤ b.toNat) ∧ y.toNat < 128 := by
  induction f with
  | zero =>
    intro m hm
    exact ⟨[], UInt8.ofNat m, by rw [numG_small (by omega)]; rfl, by simp, by rw [toNat_of _ (by omega)]; omega⟩
  | succ f ih =>
    intro m hm
    rw [Nat.pow_succ] at hm
    by_cases h1 : 128 ≤ m
    · obtain ⟨x, y, e, hx, hy⟩ := ih (m / 128) (by omega)
      refine ⟨UInt8.ofNat (m % 128 + 128) :: x, y, by rw [numG_big h1, e]; rfl, ?_, hy⟩
      intro b hb
      rcases List.mem_cons.1 hb with rfl | hb
      · rw [toNat_of _ (by omega)]; omega
      · exact hx b hb
    · exact ⟨[], UInt8.ofNat m, by rw [numG_small (by omega)]; rfl, by simp, by rw [toNat_of _ (by omega)]; omega⟩
set_option maxRecDepth 100000 in
theorem numD_shape {m : Nat} (hm : m < 18446744073709551616) : ∃ (x : List UInt8) (y : UInt8), numD m = x ++ [y] ∧ (∀ b ∈ x, 128 ≤ b.toNat) ∧ y.toNat < 128 :=
  numG_shape 9 m (by omega)
set_option maxRecDepth 100000 in
/-- Each byte's seven bits. -/
theorem numG_digit (f : Nat) : ∀ m, m < 2 * 128 ^ f → ∀ i, i < (numG f m).length → ((numG f m).getD i 0).toNat % 128 = m / 128 ^ i % 128 := by
  induction f with
  | zero =>
    intro m hm i hi
    rw [numG_small (by omega)] at hi ⊢
    have : i = 0 := by simpa using hi
    subst this
    show (UInt8.ofNat m).toNat % 128 = _
    rw [toNat_of _ (by omega), Nat.pow_zero, Nat.div_one]
  | succ f ih =>
    intro m hm i hi
    rw [Nat.pow_succ] at hm
    by_cases h1 : 128 ≤ m
    · rw [numG_big h1] at hi ⊢
      cases i with
      | zero =>
        show (UInt8.ofNat (m % 128 + 128)).toNat % 128 = _
        rw [toNat_of _ (by omega), Nat.pow_zero, Nat.div_one]
        omega
      | succ i =>
        have e := ih (m / 128) (by omega) i (by simpa using hi)
        rw [List.getD_cons_succ, e, Nat.div_div_eq_div_mul, Nat.pow_succ, Nat.mul_comm]
    · rw [numG_small (by omega)] at hi ⊢
      have : i = 0 := by simpa using hi
      subst this
      show (UInt8.ofNat m).toNat % 128 = _
      rw [toNat_of _ (by omega), Nat.pow_zero, Nat.div_one]
set_option maxRecDepth 100000 in
theorem numG_bound (f : Nat) : ∀ m, m < 2 * 128 ^ f → m < 128 ^ (numG f m).length := by
  induction f with
  | zero => intro m hm; rw [numG_small (by omega)]; simp; omega
  | succ f ih =>
    intro m hm
    rw [Nat.pow_succ] at hm
    by_cases h1 : 128 ≤ m
    · rw [numG_big h1, List.length_cons, Nat.pow_succ]
      have := ih (m / 128) (by omega)
      omega
    · rw [numG_small (by omega)]; simp; omega
set_option maxRecDepth 100000 in
theorem orV_part {m : Nat} (hm : m < 18446744073709551616) (i : Nat) (hi : i ≤ (numD m).length) : orV (numD m) i = m % 128 ^ i := by
  induction i with
  | zero => show 0 = _; simp [Nat.mod_one]
  | succ i ih =>
    have hl := (numD_len m).2
    have e := numG_digit 9 m (by omega) i (by exact hi)
    show orV (numD m) i ||| (((numD m).getD i 0).toNat % 128 * 2 ^ (7 * i) % 18446744073709551616) = _
    rw [ih (by omega), show ((numD m).getD i 0).toNat % 128 = m / 128 ^ i % 128 from e]
    have h128 : (128 : Nat) ^ i = 2 ^ (7 * i) := by rw [Nat.pow_mul]
    rw [Nat.pow_succ, h128]
    have hp : 0 < 2 ^ (7 * i) := Nat.pow_pos (by decide)
    have hsmall : m / 2 ^ (7 * i) % 128 * 2 ^ (7 * i) < 18446744073709551616 := by
      have h1 : m / 2 ^ (7 * i) % 128 ≤ m / 2 ^ (7 * i) := Nat.mod_le _ _
      have h2 : m / 2 ^ (7 * i) * 2 ^ (7 * i) ≤ m := Nat.div_mul_le_self _ _
      have h3 := Nat.mul_le_mul_right (2 ^ (7 * i)) h1
      omega
    rw [Nat.mod_eq_of_lt hsmall, Nat.or_comm]
    have h4 := Nat.shiftLeft_add_eq_or_of_lt (Nat.mod_lt m hp) (m / 2 ^ (7 * i) % 128)
    rw [Nat.shiftLeft_eq] at h4
    rw [← h4, Nat.mod_mul, Nat.mul_comm, Nat.add_comm]
set_option maxRecDepth 100000 in
theorem orV_numD {m : Nat} (hm : m < 18446744073709551616) : orV (numD m) (numD m).length = m := by
  rw [orV_part hm _ (Nat.le_refl _)]; exact Nat.mod_eq_of_lt (numG_bound 9 m (by omega))
end Go.Proofs.YtchmiiclogmheaaDoor.C2
