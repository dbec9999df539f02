/-
  Contract of the reference's Digits: the decimal digits of a number; the world stays.
-/
import Derived.Test.YtcpbnmboeafloaaDoorText
namespace Go.Proofs.YtcpbnmboeafloaaDoor
open Go.RowKit
open Go.Lib (decDigits)
theorem digit_piece : ∀ (d : Nat), d < 10 → ∀ W : World, (Instr.slice 9 (.string ⟨#[48, 49, 50, 51, 52, 53, 54, 55, 56, 57]⟩) (some (.int .u64 (d : Int))) (some (.int .u64 ((d : Int) + 1))) none).run Tryd.prog W = .ok (.string ⟨#[UInt8.ofNat (48 + d)]⟩) W
  | 0, _ => fun W => by kernel_rfl
  | 1, _ => fun W => by kernel_rfl
  | 2, _ => fun W => by kernel_rfl
  | 3, _ => fun W => by kernel_rfl
  | 4, _ => fun W => by kernel_rfl
  | 5, _ => fun W => by kernel_rfl
  | 6, _ => fun W => by kernel_rfl
  | 7, _ => fun W => by kernel_rfl
  | 8, _ => fun W => by kernel_rfl
  | 9, _ => fun W => by kernel_rfl
  | n + 10, h => absurd h (by omega)
theorem app_eq (a : UInt8) (l : List UInt8) : (⟨#[a]⟩ : ByteArray) ++ ⟨l.toArray⟩ = ⟨(a :: l).toArray⟩ := by
  apply ByteArray.ext
  simp [ByteArray.data_append]
theorem digit_eq (d : Nat) : 48 + UInt8.ofNat d = UInt8.ofNat (48 + d) := by rw [UInt8.ofNat_add]; rfl
/-- What holds in front of each round: the digits that are there, behind those that still come. -/
def DigInv (n k : Nat) (l : List UInt8) : Prop := (if k = 0 ∧ l ≠ [] then l else decDigits k ++ l) = decDigits n
theorem digInv_start (n : Nat) : DigInv n n [] := by unfold DigInv; simp
theorem digInv_end {n : Nat} {l : List UInt8} (h : DigInv n 0 l) (hl : l ≠ []) : l = decDigits n := by unfold DigInv at h; rw [if_pos ⟨rfl, hl⟩] at h; exact h
theorem digInv_step {n k : Nat} {l : List UInt8} (h : DigInv n k l) (hk : ¬ (k = 0 ∧ l ≠ [])) : DigInv n (k / 10) (UInt8.ofNat (48 + k % 10) :: l) := by
  unfold DigInv at h ⊢
  rw [if_neg hk] at h
  rw [← h]
  by_cases h10 : k < 10
  · rw [if_pos ⟨by omega, by simp⟩, Nat.mod_eq_of_lt h10, Lib.decDigits_one h10]
    rfl
  · rw [if_neg (by omega)]
    conv => rhs; rw [decDigits, dif_neg h10]
    rw [List.append_assoc]
    rfl
theorem digInv_len {n k : Nat} {l : List UInt8} (h : DigInv n k l) (hn : n < 18446744073709551616) : l.length ≤ 20 := by
  have h20 : (decDigits n).length ≤ 20 := by
    rw [Lib.decDigits_length]
    by_cases h0 : n = 0
    · subst h0; rw [Lib.nDigits_small (by omega)]; omega
    · have := Lib.numDigits_eq n (by omega) hn
      split at this <;> omega
  unfold DigInv at h
  rw [← h] at h20
  split at h20
  · exact h20
  · rw [List.length_append] at h20; omega
/-- 1 of the empty text, 0 of any other. -/
def blank : Value → Nat
  | .string b => if b.size = 0 then 1 else 0
  | _ => 0
theorem blank_cons (a : UInt8) (l : List UInt8) : blank (.string ⟨(a :: l).toArray⟩) = 0 := by
  show (if (⟨(a :: l).toArray⟩ : ByteArray).size = 0 then 1 else 0) = 0
  rw [if_neg]
  simp [ByteArray.size]
theorem piece0 : ((⟨#[48, 49, 50, 51, 52, 53, 54, 55, 56, 57]⟩ : ByteArray).extract 0 1 ++ ⟨#[]⟩) = ⟨#[48]⟩ := by decide
set_option maxHeartbeats 400000 in
theorem digits_any (n : Nat) (hn : n < 18446744073709551616) (w : World) :
    Calls Tryd.prog 33 #[.int .u64 n] w fun e w' => e = .returned (.string ⟨(decDigits n).toArray⟩) ∧ w' = w := by
  go_enter Tryd.func33, Tryd.ntmps33
  go_wp2_with fail
  go_loop [0, 3] (fun r s => ∃ (k : Nat) (l : List UInt8), k ≤ n ∧ r = .int .u64 k ∧ s = .string ⟨l.toArray⟩ ∧ DigInv n k l) (fun r s => (intOf r).toNat + blank s)
  case atStart => exact ⟨n, [], Nat.le_refl _, rfl, rfl, digInv_start n⟩
  case round =>
    obtain ⟨k, l, hk, rfl, rfl, hl⟩ := hrel
    have hll := digInv_len hl hn
    by_cases hk0 : 0 < k
    · have hp := digit_piece (k % 10) (Nat.mod_lt _ (by omega))
      rw [show ((k % 10 : Nat) : Int) = (k : Int) % 10 by omega] at hp
      go_wp2_with fail
      refine ⟨⟨k / 10, UInt8.ofNat (48 + k % 10) :: l, by omega, by go_num, by rw [digit_eq, app_eq], digInv_step hl (by omega)⟩, ?_⟩
      rw [digit_eq, app_eq, blank_cons]
      show ((k : Int) / 10).toNat + 0 < (k : Int).toNat + _
      omega
    · have hkz : k = 0 := by omega
      subst hkz
      cases l with
      | nil =>
        have hp := digit_piece 0 (by omega)
        go_wp2_with fail
        rw [piece0]
        exact ⟨⟨0, [48], Nat.zero_le _, rfl, rfl, digInv_step hl (by simp)⟩, by decide⟩
      | cons c r =>
        have HE : Hid (c :: r = decDigits n) := digInv_end hl (by simp)
        go_wp2_with fail
        go_ret
        exact ⟨by rw [← HE.out]; rfl, rfl⟩
end Go.Proofs.YtcpbnmboeafloaaDoor
