/-
  The statement on sums of differences answers true at every input; nothing that was there is turned.
-/
import Derived.Test.YtgcnpmjpdhgikabDoorWorks
import Derived.Deep.OwnRows
namespace Go.Proofs.YtgcnpmjpdhgikabDoor
open Go.RowKit
/-- The difference of two texts' bytes at a place. -/
def xorV (A B : ByteArray) (j : Nat) : Nat := (A.data.toList.getD j 0).toNat ^^^ (B.data.toList.getD j 0).toNat
def xorL (A B : ByteArray) : List UInt8 := List.zipWith (· ^^^ ·) A.data.toList B.data.toList
theorem xorL_len (A B : ByteArray) : (xorL A B).length = min A.size B.size := by unfold xorL; simp
theorem xorL_at (A B : ByteArray) (j : Nat) (ha : j < A.size) (hb : j < B.size) : Value.int .u8 (xorV A B j : Nat) = .int .u8 ((xorL A B).getD j 0).toNat := by
  unfold xorV xorL
  rw [getD_at A j ha, getD_at B j hb]
  have h1 : j < A.data.toList.length := by simpa using ha
  have h2 : j < B.data.toList.length := by simpa using hb
  have e : (List.zipWith (· ^^^ ·) A.data.toList B.data.toList).getD j 0 = A.data.toList[j] ^^^ B.data.toList[j] := by
    simp [List.getD, List.getElem?_zipWith, List.getElem?_eq_getElem h1, List.getElem?_eq_getElem h2]
  rw [e, UInt8.toNat_xor]
  rfl
theorem xor_at (A B : ByteArray) (j : Nat) (ha : j < A.size) (hb : j < B.size) : bits .xor .u8 (A[j].toNat : Int) (B[j].toNat : Int) = ((xorV A B j : Nat) : Int) := by
  unfold xorV
  rw [getD_at A j ha, getD_at B j hb]
  exact u8_xor_nat _ _ (UInt8.toNat_lt _) (UInt8.toNat_lt _)
theorem row_drewN {w : World} {b : Nat} {t : TypeId} {n : Nat} {f : Nat → Value} (h : w.rowIs b t n f) (m : Nat) : (w.drewN m).rowIs b t n f := h
theorem conv_row {W : World} {b n : Nat} {f : Nat → Value} (h : W.rowIs b 5 n f) (l : List UInt8) (hl : l.length = n) (hf : ∀ j, j < n → f j = .int .u8 (l.getD j 0).toNat) :
    (convert 34 9 (.slice (some ⟨b, 0, none⟩) n n)).run Tryd.prog W = .ok (.string ⟨l.toArray⟩) W := by
  have e := run_convert_bytes_back (P := Tryd.prog) W 34 9 5 ⟨b, 0, none⟩ n l Tryd.underlying34 Tryd.underlying5 Tryd.underlying9 (fun j hj => by
    have h1 := h.cell (i := j) (by omega)
    rw [hf j (by omega)] at h1
    have e1 : (⟨b, 0, none⟩ : Addr).add j = ⟨b, j, none⟩ := by
      simp [Addr.add]
      intro h; exact h.symm
    rw [e1, h1]
    simp [List.getD, List.getElem?_eq_getElem hj])
  rw [hl] at e
  exact e
set_option maxHeartbeats 1000000 in
theorem law_sums (a b : ByteArray) (ha : a.size ≤ 140737488351232) (w : World) (hh : Halves w) :
    Calls Tryd.prog 4 #[.string a, .string b] w fun e w' => e = .returned (.bool true) ∧ Below w.heap.size w w' := by
  obtain ⟨n, hn, hna, hnb⟩ : ∃ n : Nat, min (a.size : Int) (b.size : Int) = (n : Int) ∧ n ≤ a.size ∧ n ≤ b.size := ⟨min a.size b.size, by omega, by omega, by omega⟩
  have hna' : (n : Int) ≤ a.size := by omega
  have hnb' : (n : Int) ≤ b.size := by omega
  have hmk := run_make_row' (P := Tryd.prog) 34 5 (.int .u8 0) 1 Tryd.underlying34 info5 rfl .i64 .i64 n (by omega) (by omega)
  obtain ⟨A, HA⟩ := named (a.extract 0 n)
  obtain ⟨B, HB⟩ := named (b.extract 0 n)
  have hA1 : A.size ≤ n := by rw [← HA.out, extract_size]; omega
  have hA2 : n ≤ A.size := by rw [← HA.out, extract_size]; omega
  have hB1 : B.size ≤ n := by rw [← HB.out, extract_size]; omega
  have hB2 : n ≤ B.size := by rw [← HB.out, extract_size]; omega
  go_enter Tryd.func4, Tryd.ntmps4
  go_wp2_with fail
  refine (works_any _ hh).mono ?_
  rintro e w1 ⟨rfl, hb1⟩
  have HR1 := fun m => (World.rowIs_made (w1.drewN m) (.int .u8 0) n 5).alloc (.cells (madeCells #[.int .u8 0] n) 5)
  have HR2 := fun m => World.rowIs_made ((w1.drewN m).alloc (.cells (madeCells #[.int .u8 0] n) 5)) (.int .u8 0) n 5
  have HB2 := fun m => ((hb1.trans (below_drewN w.heap.size w1 m)).alloc hb1.size (.cells (madeCells #[.int .u8 0] n) 5)).alloc (by simp; have := hb1.size; omega) (.cells (madeCells #[.int .u8 0] n) 5)
  simp only [World.size_alloc] at HR2
  have HR1' := Lib.hid HR1
  have HR2' := Lib.hid HR2
  have HB2' := Lib.hid HB2
  clear HR1 HR2 HB2
  go_wp2_with fail
  go_quiet (fail)
  rw [HA.out, HB.out]
  go_wp2_with fail
  go_region
  all_goals go_wp2_with fail
  all_goals have HR1 := HR1'.out
  all_goals have HR2 := HR2'.out
  all_goals have HB2 := HB2'.out
  all_goals clear HR1' HR2' HB2'
  · generalize hW : World.alloc (World.alloc _ _) _ = W2
    have hX : W2.rowIs (w1.heap.size) 5 n (fun _ => .int .u8 0) := by rw [← hW]; exact HR1 _
    have hZ : W2.rowIs (w1.heap.size + 1) 5 n (fun _ => .int .u8 0) := by rw [← hW]; exact HR2 _
    have hbw : Below w.heap.size w W2 := by rw [← hW]; exact HB2 _
    clear hW
    have HX := Lib.hid hX
    have HZ := Lib.hid hZ
    have hsz1 := hb1.size
    clear hX hZ hmk
    go_loopw [27] (fun i wr => ∃ k : Nat, k ≤ n ∧ i = .int .i64 k ∧ Hid (wr.rowIs (w1.heap.size) 5 n (fun j => if j < k then .int .u8 (xorV A B j : Nat) else .int .u8 0)) ∧ Hid (wr.rowIs (w1.heap.size + 1) 5 n (fun _ => .int .u8 0)) ∧ Below w.heap.size w wr) (fun i _ => n - (intOf i).toNat)
    case atStart => exact ⟨0, Nat.zero_le _, rfl, by show World.rowIs _ _ _ _ _; exact HX.out.congr (fun i _ => by rw [if_neg (by omega)]), HZ, hbw⟩
    case round =>
      obtain ⟨k, hk, rfl, KX, KZ, kb⟩ := hrel
      by_cases hlt : k < n
      · have hkA : k < A.size := by omega
        have hkB : k < B.size := by omega
        have c0 := KX.out.cell hlt
        rw [if_neg (by omega)] at c0
        have f0 := KX.out.frozen k
        have hx := xor_at A B k hkA hkB
        obtain ⟨V, HV⟩ := named (xorV A B k)
        rw [HV.out] at hx
        go_wp2_with fail
        go_region
        go_wp2_with fail
        refine ⟨⟨k + 1, by omega, by go_num, ?_, ?_, (kb.setCell (by simp; omega) _).drew⟩, by simp [intOf]; omega⟩
        · show World.rowIs _ _ _ _ _
          refine ((KX.out.set k (.int .u8 (V : Int))).drew).congr (fun i hi => ?_)
          by_cases e : i = k
          · subst e
            rw [if_pos rfl, if_pos (by omega), HV.out]
          · rw [if_neg e]
            by_cases e2 : i < k
            · rw [if_pos e2, if_pos (by omega)]
            · rw [if_neg e2, if_neg (by omega)]
        · show World.rowIs _ _ _ _ _
          exact (KZ.out.setOther (by simp) _).drew
      · obtain rfl : n = k := by omega
        have hcx := fun m => conv_row (row_drewN KX.out m) (xorL A B) (by rw [xorL_len]; omega) (fun j hj => by rw [if_pos hj]; exact xorL_at A B j (by omega) (by omega))
        have hcz := fun m => conv_row (row_drewN KZ.out m) (List.replicate n 0) (by simp) (fun j hj => by simp [hj])
        have HHr := Lib.hid ((hh.on kb hh.size))
        have hcA := crcD_lt A.data.toList
        have hcB := crcD_lt B.data.toList
        have hcZ := crcD_lt (List.replicate n 0)
        have HS := crcD_xor A.data.toList B.data.toList (by simp; omega)
        have HL : A.data.toList.length = n := by simp; omega
        rw [HL] at HS
        have hx1 := u32_xor_nat _ _ hcA hcB
        have hx2 := u32_xor_nat (crcD A.data.toList ^^^ crcD B.data.toList) _ (Nat.xor_lt_two_pow (n := 32) hcA hcB) hcZ
        rw [← HS] at hx2
        have HSX : Hid (crcD (xorL A B) = crcD (List.zipWith (· ^^^ ·) A.data.toList B.data.toList)) := rfl
        rw [← HSX.out] at hx2
        obtain ⟨SX, HX1⟩ := named (⟨(xorL A B).toArray⟩ : ByteArray)
        obtain ⟨SZ, HZ1⟩ := named (⟨(List.replicate n (0 : UInt8)).toArray⟩ : ByteArray)
        have hSX : SX.size ≤ 9223372036854775807 := by rw [← HX1.out]; show (xorL A B).length ≤ _; rw [xorL_len]; omega
        have hSZ : SZ.size ≤ 9223372036854775807 := by rw [← HZ1.out]; show (List.replicate n (0 : UInt8)).length ≤ _; simp; omega
        have hSA : A.size ≤ 9223372036854775807 := by omega
        have hSB : B.size ≤ 9223372036854775807 := by omega
        have e1 : crcD (xorL A B) = crcD SX.data.toList := by rw [← HX1.out]
        have e2 : crcD (List.replicate n (0 : UInt8)) = crcD SZ.data.toList := by rw [← HZ1.out]
        rw [HX1.out] at hcx
        rw [HZ1.out] at hcz
        rw [e1, e2] at hx2
        clear HS HSX e1 e2 hcA hcB hcZ HL
        have hbeq : ((crcD SX.data.toList : Int) == (crcD SX.data.toList : Int)) = true := by rw [beq_iff_eq]
        go_wp2_with fail
        go_quiet ((go_at_call 8; refine Calls.quiet_of_same (crc_any _ ?_ _ (HHr.out.on (below_drewN 1 _ _) (by decide))); first | exact hSX | exact hSZ | exact hSA | exact hSB))
        go_wp2_with fail
        go_ret
        exact ⟨rfl, kb.trans (below_drewN _ _ _)⟩
  · generalize hW : World.alloc (World.alloc _ _) _ = W2
    have hX : W2.rowIs (w1.heap.size + 1) 5 n (fun _ => .int .u8 0) := by rw [← hW]; exact HR2 _
    have hZ : W2.rowIs (w1.heap.size) 5 n (fun _ => .int .u8 0) := by rw [← hW]; exact HR1 _
    have hbw : Below w.heap.size w W2 := by rw [← hW]; exact HB2 _
    clear hW
    have HX := Lib.hid hX
    have HZ := Lib.hid hZ
    have hsz1 := hb1.size
    clear hX hZ hmk
    go_loopw [27] (fun i wr => ∃ k : Nat, k ≤ n ∧ i = .int .i64 k ∧ Hid (wr.rowIs (w1.heap.size + 1) 5 n (fun j => if j < k then .int .u8 (xorV A B j : Nat) else .int .u8 0)) ∧ Hid (wr.rowIs (w1.heap.size) 5 n (fun _ => .int .u8 0)) ∧ Below w.heap.size w wr) (fun i _ => n - (intOf i).toNat)
    case atStart => exact ⟨0, Nat.zero_le _, rfl, by show World.rowIs _ _ _ _ _; exact HX.out.congr (fun i _ => by rw [if_neg (by omega)]), HZ, hbw⟩
    case round =>
      obtain ⟨k, hk, rfl, KX, KZ, kb⟩ := hrel
      by_cases hlt : k < n
      · have hkA : k < A.size := by omega
        have hkB : k < B.size := by omega
        have c0 := KX.out.cell hlt
        rw [if_neg (by omega)] at c0
        have f0 := KX.out.frozen k
        have hx := xor_at A B k hkA hkB
        obtain ⟨V, HV⟩ := named (xorV A B k)
        rw [HV.out] at hx
        go_wp2_with fail
        go_region
        go_wp2_with fail
        refine ⟨⟨k + 1, by omega, by go_num, ?_, ?_, (kb.setCell (by simp; omega) _).drew⟩, by simp [intOf]; omega⟩
        · show World.rowIs _ _ _ _ _
          refine ((KX.out.set k (.int .u8 (V : Int))).drew).congr (fun i hi => ?_)
          by_cases e : i = k
          · subst e
            rw [if_pos rfl, if_pos (by omega), HV.out]
          · rw [if_neg e]
            by_cases e2 : i < k
            · rw [if_pos e2, if_pos (by omega)]
            · rw [if_neg e2, if_neg (by omega)]
        · show World.rowIs _ _ _ _ _
          exact (KZ.out.setOther (by simp) _).drew
      · obtain rfl : n = k := by omega
        have hcx := fun m => conv_row (row_drewN KX.out m) (xorL A B) (by rw [xorL_len]; omega) (fun j hj => by rw [if_pos hj]; exact xorL_at A B j (by omega) (by omega))
        have hcz := fun m => conv_row (row_drewN KZ.out m) (List.replicate n 0) (by simp) (fun j hj => by simp [hj])
        have HHr := Lib.hid ((hh.on kb hh.size))
        have hcA := crcD_lt A.data.toList
        have hcB := crcD_lt B.data.toList
        have hcZ := crcD_lt (List.replicate n 0)
        have HS := crcD_xor A.data.toList B.data.toList (by simp; omega)
        have HL : A.data.toList.length = n := by simp; omega
        rw [HL] at HS
        have hx1 := u32_xor_nat _ _ hcA hcB
        have hx2 := u32_xor_nat (crcD A.data.toList ^^^ crcD B.data.toList) _ (Nat.xor_lt_two_pow (n := 32) hcA hcB) hcZ
        rw [← HS] at hx2
        have HSX : Hid (crcD (xorL A B) = crcD (List.zipWith (· ^^^ ·) A.data.toList B.data.toList)) := rfl
        rw [← HSX.out] at hx2
        obtain ⟨SX, HX1⟩ := named (⟨(xorL A B).toArray⟩ : ByteArray)
        obtain ⟨SZ, HZ1⟩ := named (⟨(List.replicate n (0 : UInt8)).toArray⟩ : ByteArray)
        have hSX : SX.size ≤ 9223372036854775807 := by rw [← HX1.out]; show (xorL A B).length ≤ _; rw [xorL_len]; omega
        have hSZ : SZ.size ≤ 9223372036854775807 := by rw [← HZ1.out]; show (List.replicate n (0 : UInt8)).length ≤ _; simp; omega
        have hSA : A.size ≤ 9223372036854775807 := by omega
        have hSB : B.size ≤ 9223372036854775807 := by omega
        have e1 : crcD (xorL A B) = crcD SX.data.toList := by rw [← HX1.out]
        have e2 : crcD (List.replicate n (0 : UInt8)) = crcD SZ.data.toList := by rw [← HZ1.out]
        rw [HX1.out] at hcx
        rw [HZ1.out] at hcz
        rw [e1, e2] at hx2
        clear HS HSX e1 e2 hcA hcB hcZ HL
        have hbeq : ((crcD SX.data.toList : Int) == (crcD SX.data.toList : Int)) = true := by rw [beq_iff_eq]
        go_wp2_with fail
        go_quiet ((go_at_call 8; refine Calls.quiet_of_same (crc_any _ ?_ _ (HHr.out.on (below_drewN 1 _ _) (by decide))); first | exact hSX | exact hSZ | exact hSA | exact hSB))
        go_wp2_with fail
        go_ret
        exact ⟨rfl, kb.trans (below_drewN _ _ _)⟩
end Go.Proofs.YtgcnpmjpdhgikabDoor
