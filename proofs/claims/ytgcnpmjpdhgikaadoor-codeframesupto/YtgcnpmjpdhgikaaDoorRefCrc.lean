/-
  Contract of the reference's Crc: the sum of the bytes, bit by bit; the world stays.
-/
import Derived.Test.YtgcnpmjpdhgikaaDoorAppend
namespace Go.Proofs.YtgcnpmjpdhgikaaDoor
open Go.RowKit
/-- So many bits taken off a sum. -/
def bitN : Nat → Nat → Nat
  | 0, x => x
  | k + 1, x => bitS (bitN k x)
theorem bitN_eight (x : Nat) : bitN 8 x = bit4 (bit4 x) := rfl
theorem bitN_lt {x : Nat} (h : x < 4294967296) (k : Nat) : bitN k x < 4294967296 := by
  induction k with
  | zero => exact h
  | succ k ih => exact bitS_lt ih
theorem bitS_one {x : Nat} (h : x % 2 = 1) : bitS x = x / 2 ^^^ 3988292384 := by unfold bitS; rw [if_pos h]
theorem bitS_no {x : Nat} (h : x % 2 ≠ 1) : bitS x = x / 2 := by unfold bitS; rw [if_neg h]
set_option maxHeartbeats 400000 in
theorem rcrc_any (s : ByteArray) (hs : s.size ≤ 9223372036854775807) (w : World) :
    Calls Tryd.prog 20 #[.string s] w fun e w' => e = .returned (.int .u32 (crcD s.data.toList : Nat)) ∧ w' = w := by
  go_enter Tryd.func20, Tryd.ntmps20
  go_wp2_with fail
  go_loop [3, 4] (fun n i => ∃ k : Nat, k ≤ s.size ∧ i = .int .i64 k ∧ n = .int .u32 (crcS 4294967295 (s.data.toList.take k) : Nat)) (fun _ i => s.size - (intOf i).toNat)
  case atStart => exact ⟨0, Nat.zero_le _, rfl, rfl⟩
  case round =>
    obtain ⟨k, hk, rfl, rfl⟩ := hrel
    have hS := crcS_lt (s.data.toList.take k) (s := 4294967295) (by decide)
    by_cases hlt : k < s.size
    · have HT : Hid (crcS 4294967295 (s.data.toList.take (k + 1)) = byteS (crcS 4294967295 (s.data.toList.take k)) s[k].toNat) := by
        show _ = _
        rw [take_snoc s k hlt, crcS_append]; rfl
      generalize crcS 4294967295 (s.data.toList.take k) = S at *
      have hc : s[k].toNat < 256 := s[k].toNat_lt
      have hX : S ^^^ s[k].toNat < 4294967296 := Nat.xor_lt_two_pow (n := 32) (by omega) (by omega)
      have h1 := u32_xor_nat S s[k].toNat hS (by omega)
      have HB : Hid (byteS S s[k].toNat = bitN 8 (S ^^^ s[k].toNat)) := rfl
      generalize S ^^^ s[k].toNat = X at *
      go_wp2_with fail
      go_loop [3, 5] (fun n i => ∃ q : Nat, q ≤ 8 ∧ i = .int .i64 q ∧ n = .int .u32 (bitN q X : Nat)) (fun _ i => 8 - (intOf i).toNat)
      case atStart => exact ⟨0, Nat.zero_le _, rfl, rfl⟩
      case round =>
        obtain ⟨q, hq, rfl, rfl⟩ := hrel
        have hV := bitN_lt hX q
        by_cases hq8 : q < 8
        · have HN : Hid (bitN (q + 1) X = bitS (bitN q X)) := rfl
          generalize bitN q X = V at *
          by_cases hodd : V % 2 = 1
          · have hodd' : ((V : Int) % 2 == 1) = true := by rw [beq_iff_eq]; omega
            have hx := u32_xor_nat (V / 2) 3988292384 (by omega) (by decide)
            rw [← bitS_one hodd] at hx
            have hx' : bits .xor .u32 ((V : Int) / 2) 3988292384 = ((bitS V : Nat) : Int) := hx
            have hb := bitS_lt hV
            clear hx
            generalize bitS V = B at *
            go_wp2_with fail
            exact ⟨⟨q + 1, by omega, by go_num, by rw [HN.out]⟩, by simp [intOf]; omega⟩
          · have hodd' : ((V : Int) % 2 == 1) = false := beq_eq_false_iff_ne.2 (by omega)
            have HBV : Hid (bitS V = V / 2) := bitS_no hodd
            go_wp2_with fail
            exact ⟨⟨q + 1, by omega, by go_num, by rw [HN.out, HBV.out]; go_num⟩, by simp [intOf]; omega⟩
        · have hq9 : q = 8 := by omega
          subst hq9
          rw [← HB.out] at hV ⊢
          generalize byteS S s[k].toNat = Z at *
          go_wp2_with fail
          exact ⟨⟨k + 1, by omega, by go_num, by rw [HT.out]⟩, by simp [intOf]; omega⟩
    · have hkl : k = s.size := by omega
      subst hkl
      have e : s.data.toList.take s.size = s.data.toList := List.take_of_length_le (by simp)
      rw [e] at hS ⊢
      have h1 := u32_xor_nat (crcS 4294967295 s.data.toList) 4294967295 hS (by decide)
      have h1' : bits .xor .u32 ((crcS 4294967295 s.data.toList : Nat) : Int) 4294967295 = ((crcS 4294967295 s.data.toList ^^^ 4294967295 : Nat) : Int) := h1
      have HE : Hid (crcD s.data.toList = crcS 4294967295 s.data.toList ^^^ 4294967295) := rfl
      clear e h1
      generalize crcS 4294967295 s.data.toList = S at *
      go_wp2_with fail
      go_ret
      exact ⟨ret_int (by rw [HE.out]), rfl⟩
end Go.Proofs.YtgcnpmjpdhgikaaDoor
