/-
  Contracts of the reference's write, at a number and at a list.
-/
import Derived.Test.YtgcnpmjpdhgikaaDoorRefSizeL
import Derived.Test.YtgcnpmjpdhgikaaDoorEnc
namespace Go.Proofs.YtgcnpmjpdhgikaaDoor
open Go.RowKit
set_option maxHeartbeats 400000 in
theorem wr_num (base : Nat) (v : Value) (acc : List UInt8) (n : Nat) (hn : n < 18446744073709551616) (s : ByteArray) (a : Option Addr) (m cap : Nat) (w : World) (hown : OwnB w base v acc) (hb : base ≤ w.heap.size) (hl : acc.length ≤ 262144) :
    Calls Tryd.prog 30 #[v, .agg #[.int .i64 1, .int .u64 n, .string s, .slice a m cap]] w fun e w' => ∃ v', e = .returned v' ∧ OwnB w' base v' ((acc ++ [1]) ++ numD n) ∧ Fr base w w' := by
  obtain ⟨i0, hi, hz0, hz1, hz2⟩ := info_parts info5
  have HO := Lib.hid hown
  clear hown
  go_enter Tryd.func30, Tryd.ntmps30
  go_wp2_with (at_builtin; refine wpList_append_own _ rfl (.tmp 6) (.tmp 10) 50 rfl base 5 i0 (.int .u8 0) 1 1 Tryd.underlying50 hi hz0 hz1 hz2 rfl (by decide) v acc.length (bytesC acc) rfl ((HO.out.alloc _).alloc _) ⟨w.heap.size + 1, 0, none⟩ 1 1 [.int .u8 1] rfl rfl (by have h := news_one (w.alloc (.cells #[.int .i64 1, .int .u64 n, .string s, .slice a m cap] 25)) (.int .u8 1); simpa using h) (one_u8 _) (by unfold maxLen; omega) (by omega) (by simp; omega) ?_; intro v1 w1 hown1 hgrow1 hnil1; clear hnil1; have hfr1 : Fr base (w.alloc (.cells #[.int .i64 1, .int .u64 n, .string s, .slice a m cap] 25)) w1 := (((Fr.refl base _).alloc (by simp; omega) _).grown ((HO.out.alloc _).alloc _) hgrow1 (by simp; omega)); obtain ⟨q0, q1, q2, q3⟩ := box4 hfr1; have HO1 : Hid (OwnB w1 base v1 (acc ++ [1])) := OwnB.join (m := [1]) hown1; clear hown1 hgrow1)
  refine (rnum base v1 (acc ++ [1]) n hn w1 HO1.out (by have := hfr1.size; simp at this; omega) (by simp; omega)).mono ?_
  rintro e w2 ⟨v2, rfl, hown2, hfr2⟩
  have HO2 := Lib.hid hown2
  clear hown2
  go_wp2_with fail
  go_ret
  exact ⟨v2, rfl, HO2.out, ((Fr.refl base w).alloc hb _).trans (hfr1.trans hfr2)⟩
set_option maxHeartbeats 400000 in
theorem wr_list (base : Nat) (v : Value) (acc : List UInt8) (n : Int) (s : ByteArray) (a : Option Addr) (b o m cap : Nat) (ha : 0 < m → a = some ⟨b, o, none⟩) (hm : m ≤ 16384) (w : World) (hown : OwnB w base v acc) (hb : base ≤ w.heap.size) (hl : acc.length ≤ 262144)
    (K NN : Nat → Int) (S : Nat → ByteArray) (A : Nat → Option Addr) (M C : Nat → Nat) (Z : Nat → List UInt8)
    (hZ : ((acc ++ [3]) ++ numD m).length + (catE Z m).length ≤ 262144)
    (hc : ∀ j, j < m → b < base ∧ w.cell? ⟨b, o + j * 4, none⟩ = some (.int .i64 (K j)) ∧ w.cell? ⟨b, o + j * 4 + 1, none⟩ = some (.int .u64 (NN j)) ∧ w.cell? ⟨b, o + j * 4 + 2, none⟩ = some (.string (S j)) ∧ w.cell? ⟨b, o + j * 4 + 3, none⟩ = some (.slice (A j) (M j) (C j)))
    (H : ∀ j, j < m → ∀ (v' : Value) (x : List UInt8) (w' : World), Below base w w' → OwnB w' base v' x → base ≤ w'.heap.size → x.length + (Z j).length ≤ 262144 → Calls Tryd.prog 30 #[v', .agg #[.int .i64 (K j), .int .u64 (NN j), .string (S j), .slice (A j) (M j) (C j)]] w' fun e w'' => ∃ v'', e = .returned v'' ∧ OwnB w'' base v'' (x ++ Z j) ∧ Fr base w' w'') :
    Calls Tryd.prog 30 #[v, .agg #[.int .i64 3, .int .u64 n, .string s, .slice a m cap]] w fun e w' => ∃ v', e = .returned v' ∧ OwnB w' base v' (((acc ++ [3]) ++ numD m) ++ catE Z m) ∧ Fr base w w' := by
  obtain ⟨i0, hi, hz0, hz1, hz2⟩ := info_parts info5
  obtain ⟨RR, HRR⟩ := named (((acc ++ [3]) ++ numD m) ++ catE Z m)
  rw [HRR.out]
  have HO := Lib.hid hown
  have HH := Lib.hid H
  have HC := Lib.hid hc
  clear hown H hc
  go_enter Tryd.func30, Tryd.ntmps30
  go_wp2_with (at_builtin; refine wpList_append_own _ rfl (.tmp 6) (.tmp 10) 50 rfl base 5 i0 (.int .u8 0) 1 1 Tryd.underlying50 hi hz0 hz1 hz2 rfl (by decide) v acc.length (bytesC acc) rfl ((HO.out.alloc _).alloc _) ⟨w.heap.size + 1, 0, none⟩ 1 1 [.int .u8 3] rfl rfl (by have h := news_one (w.alloc (.cells #[.int .i64 3, .int .u64 n, .string s, .slice a m cap] 25)) (.int .u8 3); simpa using h) (one_u8 _) (by unfold maxLen; omega) (by omega) (by simp; omega) ?_; intro v1 w1 hown1 hgrow1 hnil1; clear hnil1; have hfr1 : Fr base (w.alloc (.cells #[.int .i64 3, .int .u64 n, .string s, .slice a m cap] 25)) w1 := (((Fr.refl base _).alloc (by simp; omega) _).grown ((HO.out.alloc _).alloc _) hgrow1 (by simp; omega)); obtain ⟨q0, q1, q2, q3⟩ := box4 hfr1; have HO1 : Hid (OwnB w1 base v1 (acc ++ [3])) := OwnB.join (m := [3]) hown1; clear hown1 hgrow1)
  refine (rnum base v1 (acc ++ [3]) m (by omega) w1 HO1.out (by have := hfr1.size; simp at this; omega) (by simp; omega)).mono ?_
  rintro e w2 ⟨v2, rfl, hown2, hfr2⟩
  have HO2 := Lib.hid hown2
  have hfr := hfr1.trans hfr2
  clear hown2 q0 q1 q2 q3
  obtain ⟨L2, HL2⟩ := named ((acc ++ [3]) ++ numD m)
  rw [HL2.out] at HO2 hZ HRR
  clear hfr1 hfr2 HO1
  go_wp2_with fail
  go_loopw [0, 5] (fun bb i wr => ∃ (j : Nat), j ≤ m ∧ i = .int .i64 j ∧ Hid (OwnB wr base bb (L2 ++ catE Z j)) ∧ Fr base (w.alloc (.cells #[.int .i64 3, .int .u64 n, .string s, .slice a m cap] 25)) wr) (fun _ i _ => m - (intOf i).toNat)
  case atStart => exact ⟨0, Nat.zero_le _, rfl, by show OwnB _ _ _ (L2 ++ []); rw [List.append_nil]; exact HO2.out, hfr⟩
  case round =>
    obtain ⟨j, hj, rfl, HW, hfw⟩ := hrel
    obtain ⟨y0, y1, y2, y3⟩ := box4 hfw
    have hsz2 := hfw.size
    simp only [World.size_alloc] at hsz2
    have hbw : Below base w wr := ((Below.refl _ _).alloc hb _).trans hfw.below
    by_cases hlt : j < m
    · obtain ⟨hbl, p0, p1, p2, p3⟩ := HC.out j hlt
      have q0 := (hbw.cell (p := ⟨b, o + j * 4, none⟩) hbl).trans p0
      have q1 := (hbw.cell (p := ⟨b, o + j * 4 + 1, none⟩) hbl).trans p1
      have q2 := (hbw.cell (p := ⟨b, o + j * 4 + 2, none⟩) hbl).trans p2
      have q3 := (hbw.cell (p := ⟨b, o + j * 4 + 3, none⟩) hbl).trans p3
      clear p0 p1 p2 p3
      have ha' := ha (by omega)
      subst ha'
      have hmono := catE_mono Z (show j + 1 ≤ m by omega)
      have ecat : (catE Z (j + 1)).length = (catE Z j).length + (Z j).length := by show (catE Z j ++ Z j).length = _; rw [List.length_append]
      have hlen : (L2 ++ catE Z j).length + (Z j).length ≤ 262144 := by rw [List.length_append]; omega
      have HLEN := Lib.hid hlen
      clear hmono ecat hlen
      go_wp2_with fail
      refine (HH.out j hlt _ (L2 ++ catE Z j) _ hbw HW.out (by omega) HLEN.out).mono ?_
      rintro e w3 ⟨v3, rfl, hown3, hfr3⟩
      have HO3 : Hid (OwnB w3 base v3 (L2 ++ catE Z (j + 1))) := by
        show OwnB _ _ _ (L2 ++ (catE Z j ++ Z j))
        rw [← List.append_assoc]; exact hown3
      clear hown3
      go_wp2_with fail
      exact ⟨⟨j + 1, by omega, by go_num, HO3, hfw.trans hfr3⟩, by simp [intOf]; omega⟩
    · have hjm : j = m := by omega
      have HE : Hid (OwnB wr base u0 RR) := by rw [← HRR.out, ← hjm]; exact HW
      clear hjm
      go_wp2_with fail
      go_ret
      exact ⟨_, rfl, HE.out, ((Fr.refl base w).alloc hb _).trans hfw⟩
end Go.Proofs.YtgcnpmjpdhgikaaDoor
