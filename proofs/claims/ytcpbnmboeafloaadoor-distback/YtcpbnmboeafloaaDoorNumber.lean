/-
  Contract of the reference's Number: the number that a text's digits say, and whether they are as Digits writes them; the world stays.
-/
import Derived.Test.YtcpbnmboeafloaaDoorDigits
import Derived.Test.YtcpbnmboeafloaaDoorParse
namespace Go.Proofs.YtcpbnmboeafloaaDoor
open Go.RowKit
open Go.Lib (decDigits parseUintM NumEnd)
theorem drop_at (s : ByteArray) (k : Nat) (h : k < s.size) : s.data.toList.drop k = s[k] :: s.data.toList.drop (k + 1) := by
  rw [List.drop_eq_getElem_cons (by simpa using h)]; rfl
/-- What Number says. -/
def numD (R : NumEnd Nat) (s : ByteArray) : Int × Bool :=
  match R with
  | .ok n => ((n : Int), (⟨(decDigits n).toArray⟩ : ByteArray).toList == s.toList)
  | _ => (0, false)
theorem pm_bad {acc : Nat} {c : UInt8} {r : List UInt8} (s : ByteArray) (h : (c.toNat : Int) < 48 ∨ 57 < (c.toNat : Int)) : numD (parseUintM 18446744073709551615 acc (c :: r)) s = (0, false) := by
  unfold parseUintM
  rw [if_neg (by omega)]
  rfl
theorem pm_range {acc : Nat} {c : UInt8} {r : List UInt8} (h1 : 48 ≤ (c.toNat : Int)) (h2 : (c.toNat : Int) ≤ 57) (h : (18446744073709551615 - ((c.toNat : Int) - 48)) / 10 < (acc : Int)) : parseUintM 18446744073709551615 acc (c :: r) = .range := by
  unfold parseUintM
  rw [if_pos (by omega)]
  split
  · rfl
  · rw [if_pos (by omega)]
theorem pm_on {acc : Nat} {c : UInt8} {r : List UInt8} (h1 : 48 ≤ (c.toNat : Int)) (h2 : (c.toNat : Int) ≤ 57) (h : ¬ (18446744073709551615 - ((c.toNat : Int) - 48)) / 10 < (acc : Int)) : parseUintM 18446744073709551615 acc (c :: r) = parseUintM 18446744073709551615 (acc * 10 + (c.toNat - 48)) r := by
  conv => lhs; unfold parseUintM
  rw [if_pos (by omega), if_neg (by omega), if_neg (by omega)]
set_option maxHeartbeats 400000 in
theorem number_none (s : ByteArray) (hs : s.size ≤ 9223372036854775807) (h : s.size = 0 ∨ 20 < s.size) (w : World) :
    Calls Tryd.prog 31 #[.string s] w fun e w' => e = .returned (.tuple #[.int .u64 0, .bool false]) ∧ w' = w := by
  by_cases h0 : s.size = 0
  · have e0 : s = ⟨#[]⟩ := by apply ByteArray.ext; exact Array.eq_empty_of_size_eq_zero h0
    subst e0
    go_enter Tryd.func31, Tryd.ntmps31
    go_wp2_with fail
    go_ret2
    exact ⟨rfl, rfl⟩
  · have hi : (20 : Int) < s.size := by omega
    go_enter Tryd.func31, Tryd.ntmps31
    go_wp2_with fail
    all_goals
      go_ret2
      exact ⟨rfl, rfl⟩
set_option maxHeartbeats 400000 in
theorem number_any (s : ByteArray) (h0 : s.size ≠ 0) (h20 : s.size ≤ 20) (w : World) :
    Calls Tryd.prog 31 #[.string s] w fun e w' => e = .returned (.tuple #[.int .u64 (numD (parseUintM 18446744073709551615 0 s.data.toList) s).1, .bool (numD (parseUintM 18446744073709551615 0 s.data.toList) s).2]) ∧ w' = w := by
  obtain ⟨R, HR⟩ : ∃ R, Hid (parseUintM 18446744073709551615 0 s.data.toList = R) := ⟨_, rfl⟩
  rw [HR.out]
  have hne : ¬ s.toList = [] := by
    rw [ByteArray.toList_eq]; intro e; apply h0
    have := congrArg List.length e
    simpa using this
  have hne' : s.toList.isEmpty = false := by simp [hne]
  have hl : ¬ (20 : Int) < s.size := by omega
  go_enter Tryd.func31, Tryd.ntmps31
  go_wp2_with fail
  go_loop [4, 5] (fun n i => ∃ k acc : Nat, k ≤ s.size ∧ acc ≤ 18446744073709551615 ∧ i = .int .i64 k ∧ n = .int .u64 acc ∧ Hid (parseUintM 18446744073709551615 acc (s.data.toList.drop k) = R)) (fun _ i => s.size - (intOf i).toNat)
  case atStart => exact ⟨0, 0, Nat.zero_le _, Nat.zero_le _, rfl, rfl, HR⟩
  case round =>
    obtain ⟨k, acc, hk, hacc, rfl, rfl, HK⟩ := hrel
    by_cases hlt : k < s.size
    · have HD : Hid (s.data.toList.drop k = s[k] :: s.data.toList.drop (k + 1)) := drop_at s k hlt
      have hc : s[k].toNat < 256 := s[k].toNat_lt
      by_cases hb : (s[k].toNat : Int) < 48
      · have HB : Hid (numD R s = (0, false)) := (by rw [← HK.out, HD.out, pm_bad s (Or.inl hb)] : numD R s = (0, false))
        go_wp2_with fail
        go_ret2
        exact ⟨by rw [HB.out]; rfl, rfl⟩
      · by_cases hb' : 57 < (s[k].toNat : Int)
        · have HB : Hid (numD R s = (0, false)) := (by rw [← HK.out, HD.out, pm_bad s (Or.inr hb')] : numD R s = (0, false))
          go_wp2_with fail
          go_ret2
          exact ⟨by rw [HB.out]; rfl, rfl⟩
        · by_cases hr : (18446744073709551615 - ((s[k].toNat : Int) - 48)) / 10 < (acc : Int)
          · have HB : Hid (numD R s = (0, false)) := (by rw [← HK.out, HD.out, pm_range (by omega) (by omega) hr]; rfl : numD R s = (0, false))
            go_wp2_with fail
            go_ret2
            exact ⟨by rw [HB.out]; rfl, rfl⟩
          · have HB : Hid (parseUintM 18446744073709551615 (acc * 10 + (s[k].toNat - 48)) (s.data.toList.drop (k + 1)) = R) := (by rw [← HK.out, HD.out, pm_on (by omega) (by omega) hr] : parseUintM 18446744073709551615 (acc * 10 + (s[k].toNat - 48)) (s.data.toList.drop (k + 1)) = R)
            go_wp2_with fail
            refine ⟨⟨k + 1, acc * 10 + (s[k].toNat - 48), by omega, by omega, by go_num, congrArg (Value.int .u64) (by omega), HB⟩, ?_⟩
            simp [intOf]; omega
    · have HE : Hid (numD R s = ((acc : Int), (⟨(decDigits acc).toArray⟩ : ByteArray).toList == s.toList)) := (by rw [← HK.out, List.drop_of_length_le (by simp; omega)]; rfl : numD R s = _)
      go_wp2_with fail
      refine (digits_any acc (by omega) _).mono ?_
      rintro e w1 ⟨rfl, rfl⟩
      generalize (⟨(decDigits acc).toArray⟩ : ByteArray) = t at *
      go_wp2_with fail
      go_ret2
      exact ⟨by rw [HE.out]; rfl, rfl⟩
set_option maxHeartbeats 400000 in
theorem rtext_any (u : Nat) (hu64 : u < 18446744073709551616) (w : World) :
    Calls Tryd.prog 28 #[.int .u64 u] w fun e w' => e = .returned (.string ⟨(textD u).toArray⟩) ∧ w' = w := by
  by_cases h : u = 18446744073709551615
  · rw [show textD u = [105, 110, 102] from if_pos h]
    subst h
    go_enter Tryd.func28, Tryd.ntmps28
    go_wp2_with fail
    go_ret
    exact ⟨rfl, rfl⟩
  · rw [show textD u = decDigits u from if_neg h]
    have hb : ((u : Int) == 18446744073709551615) = false := beq_eq_false_iff_ne.2 (by omega)
    go_enter Tryd.func28, Tryd.ntmps28
    go_wp2_with fail
    refine (digits_any u hu64 _).mono ?_
    rintro e w1 ⟨rfl, rfl⟩
    go_wp2_with fail
    go_ret
    exact ⟨rfl, rfl⟩
end Go.Proofs.YtcpbnmboeafloaaDoor
