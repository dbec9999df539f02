/-
  Contract of code.Crc: the sum of the bytes; the world stays.
-/
import Derived.Test.YtgcnpmjpdhgikabDoorChecked
import Derived.Test.YtgcnpmjpdhgikabDoorCrc
import Derived.Test.YtgcnpmjpdhgikabDoorShelf
import Derived.WalkKit
import Derived.BigCall
import Derived.Below
import Derived.Lib.LaidTab
import Derived.Laws.BitsAll
namespace Go.Proofs.YtgcnpmjpdhgikabDoor
open Go.RowKit
theorem ret_int {k : IntKind} {a b : Int} (h : a = b) : Ending.returned (.int k a) = .returned (.int k b) := by rw [h]
theorem take_snoc (s : ByteArray) (k : Nat) (h : k < s.size) : s.data.toList.take (k + 1) = s.data.toList.take k ++ [s[k]] := by
  rw [List.take_succ_eq_append_getElem (by simpa using h)]; rfl
/-- What the table holds. -/
def hInts : List Int := List.map (fun x : Nat => (x : Int)) hTab
/-- The table lies as the program lays it. -/
def Halves (w : World) : Prop := Lib.TabIs Tryd.prog w "flyover/code.halves" .u32 hInts
theorem gHalves : Tryd.prog.globalNamed "flyover/code.halves" = some 0 := by kernel_rfl
theorem Halves.cell {w : World} (h : Halves w) (i : Nat) (hi : i < 16) : w.cell? ⟨0, i, none⟩ = some (.int .u32 (hTab.getD i 0 : Nat)) := by
  have := Lib.TabIs.cell h gHalves i hi
  rw [this]
  unfold hInts
  have hl : i < hTab.length := hi
  simp [List.getD, List.getElem?_eq_getElem hl]
theorem half_step (X : Nat) (h : X < 4294967296) : bits .xor .u32 ((X : Int) / 16) ((hTab.getD (X % 16) 0 : Nat) : Int) = ((bit4 X : Nat) : Int) := by
  have e := u32_xor_nat (X / 16) (hTab.getD (X % 16) 0) (by omega) (hTab_lt ⟨X % 16, by omega⟩)
  rw [← bit4_eq] at e
  rw [← e]
  congr 1
theorem u32_not (S : Nat) (h : S < 4294967296) : bits .xor .u32 IntKind.u32.max (S : Int) = ((S ^^^ 4294967295 : Nat) : Int) := by
  have e := u32_xor_nat 4294967295 S (by decide) h
  rw [Nat.xor_comm] at e
  exact e
set_option maxHeartbeats 400000 in
theorem crc_any (s : ByteArray) (hs : s.size ≤ 9223372036854775807) (w : World) (hh : Halves w) :
    Calls Tryd.prog 8 #[.string s] w fun e w' => e = .returned (.int .u32 (crcD s.data.toList : Nat)) ∧ w' = w := by
  go_enter Tryd.func8, Tryd.ntmps8
  go_wp2_with fail
  go_loop [3, 7] (fun n i => ∃ k : Nat, k ≤ s.size ∧ i = .int .i64 k ∧ n = .int .u32 (crcS 4294967295 (s.data.toList.take k) : Nat)) (fun _ i => s.size - (intOf i).toNat)
  case atStart => exact ⟨0, Nat.zero_le _, rfl, rfl⟩
  case round =>
    obtain ⟨k, hk, rfl, rfl⟩ := hrel
    have hS := crcS_lt (s.data.toList.take k) (s := 4294967295) (by decide)
    by_cases hlt : k < s.size
    · have HT : Hid (crcS 4294967295 (s.data.toList.take (k + 1)) = byteS (crcS 4294967295 (s.data.toList.take k)) s[k].toNat) := by
        show _ = _
        rw [take_snoc s k hlt, crcS_append]; rfl
      generalize crcS 4294967295 (s.data.toList.take k) = S at *
      have hc : s[k].toNat < 256 := s[k].toNat_lt
      have hX : S ^^^ s[k].toNat < 4294967296 := Nat.xor_lt_two_pow (n := 32) (by omega) (by omega)
      have h1 := u32_xor_nat S s[k].toNat hS (by omega)
      have HB : Hid (byteS S s[k].toNat = bit4 (bit4 (S ^^^ s[k].toNat))) := rfl
      generalize S ^^^ s[k].toNat = X at *
      have c1 := hh.cell (X % 16) (by omega)
      have h2 := half_step X hX
      have hY := bit4_lt hX
      generalize hTab.getD (X % 16) 0 = t1 at *
      generalize bit4 X = Y at *
      have c2 := hh.cell (Y % 16) (by omega)
      have h3 := half_step Y hY
      generalize hTab.getD (Y % 16) 0 = t2 at *
      rw [HB.out] at HT
      generalize bit4 Y = Z at *
      go_wp2_with fail
      exact ⟨⟨k + 1, by omega, by go_num, by rw [HT.out]⟩, by simp [intOf]; omega⟩
    · have hkl : k = s.size := by omega
      subst hkl
      have e : s.data.toList.take s.size = s.data.toList := List.take_of_length_le (by simp)
      rw [e] at hS ⊢
      have h1 := u32_not (crcS 4294967295 s.data.toList) hS
      have HE : Hid (crcD s.data.toList = crcS 4294967295 s.data.toList ^^^ 4294967295) := rfl
      clear e
      generalize crcS 4294967295 s.data.toList = S at *
      go_wp2_with fail
      go_ret
      exact ⟨ret_int (by rw [HE.out]), rfl⟩
end Go.Proofs.YtgcnpmjpdhgikabDoor
