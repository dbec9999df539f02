/-
  The reference's Size at a list.
-/
import Derived.Test.YtgcnpmjpdhgikaaDoorRefSize
namespace Go.Proofs.YtgcnpmjpdhgikaaDoor
open Go.RowKit
set_option maxHeartbeats 1000000 in
theorem size_list (n : Int) (s : ByteArray) (a : Option Addr) (b o m cap : Nat) (ha : 0 < m → a = some ⟨b, o, none⟩) (hm : m ≤ 16384) (w : World)
    (K NN : Nat → Int) (S : Nat → ByteArray) (A : Nat → Option Addr) (M C : Nat → Nat) (Z : Nat → Nat) (hZ : ∀ j, j < m → Z j ≤ 200000000000000)
    (hc : ∀ j, j < m → w.cell? ⟨b, o + j * 4, none⟩ = some (.int .i64 (K j)) ∧ w.cell? ⟨b, o + j * 4 + 1, none⟩ = some (.int .u64 (NN j)) ∧ w.cell? ⟨b, o + j * 4 + 2, none⟩ = some (.string (S j)) ∧ w.cell? ⟨b, o + j * 4 + 3, none⟩ = some (.slice (A j) (M j) (C j)))
    (H : ∀ j, j < m → ∀ w', Below w.heap.size w w' → Calls Tryd.prog 29 #[.agg #[.int .i64 (K j), .int .u64 (NN j), .string (S j), .slice (A j) (M j) (C j)]] w' fun e w'' => e = .returned (.int .i64 (Z j : Nat)) ∧ Below w'.heap.size w' w'') :
    Calls Tryd.prog 29 #[.agg #[.int .i64 3, .int .u64 n, .string s, .slice a m cap]] w fun e w' => e = .returned (.int .i64 ((loopS Z m (1 + (numD m).length) : Nat) : Int)) ∧ Below w.heap.size w w' := by
  have hl := (numD_len m).2
  obtain ⟨q, HQ⟩ := named (numD m).length
  rw [HQ.out] at hl ⊢
  have HH := Lib.hid H
  have HC := Lib.hid hc
  have HZ := Lib.hid hZ
  clear H hc hZ
  go_enter Tryd.func29, Tryd.ntmps29
  go_wp2_with fail
  refine (rnum (w.heap.size + 1) (.slice none 0 0) [] m (by omega) _ (OwnB.nil _ _) (by simp) (by simp)).mono ?_
  rintro e w1 ⟨v1, rfl, hown1, hfr1⟩
  obtain ⟨p, c, rfl⟩ := hown1.shape
  rw [List.nil_append]
  clear hown1
  have hbx1 := hfr1.below
  obtain ⟨y0, y1, y2, y3⟩ := bcell4 hbx1 (by omega)
  clear hfr1
  rw [HQ.out]
  go_wp2_with fail
  go_loopw [3, 4] (fun x i wr => ∃ (j v : Nat), j ≤ m ∧ i = .int .i64 j ∧ x = .int .i64 v ∧ Hid (loopS Z j (1 + q) = v) ∧ v ≤ 200000000262144 ∧ Below (w.heap.size + 1) (w.alloc (.cells #[.int .i64 3, .int .u64 n, .string s, .slice a m cap] 25)) wr) (fun _ i _ => m - (intOf i).toNat)
  case atStart => exact ⟨0, 1 + q, Nat.zero_le _, rfl, by go_num, rfl, by omega, hbx1⟩
  case round =>
    clear y0 y1 y2 y3
    obtain ⟨j, v, hj, rfl, rfl, HV, hv, hbx⟩ := hrel
    obtain ⟨y0, y1, y2, y3⟩ := bcell4 hbx (by omega)
    have hbel : Below w.heap.size w wr := ((Below.refl _ _).alloc (Nat.le_refl _) _).trans (hbx.mono (by omega))
    have hsz := hbx.size
    simp only [World.size_alloc] at hsz
    by_cases hlt : j < m
    · by_cases hvl : 262144 < v
      · have hvl' : ¬ (v : Int) ≤ 262144 := by omega
        have HE : Hid (loopS Z m (1 + q) = v) := by
          show _ = _
          rw [loopS_stop Z (1 + q) (j := j) (by rw [HV.out]; exact hvl) hj]; exact HV.out
        go_wp2_with fail
        go_ret
        exact ⟨ret_int (by rw [HE.out]), hbel⟩
      · have hvl' : (v : Int) ≤ 262144 := by omega
        obtain ⟨p0, p1, p2, p3⟩ := HC.out j hlt
        have hbl : b < w.heap.size := World.block_lt_of_cell? w _ p0
        have q0 := (hbel.cell (p := ⟨b, o + j * 4, none⟩) hbl).trans p0
        have q1 := (hbel.cell (p := ⟨b, o + j * 4 + 1, none⟩) hbl).trans p1
        have q2 := (hbel.cell (p := ⟨b, o + j * 4 + 2, none⟩) hbl).trans p2
        have q3 := (hbel.cell (p := ⟨b, o + j * 4 + 3, none⟩) hbl).trans p3
        clear p0 p1 p2 p3
        have ha' := ha (by omega)
        subst ha'
        have hz := HZ.out j hlt
        have HE : Hid (loopS Z (j + 1) (1 + q) = v + Z j) := by
          show _ = _
          rw [loopS_succ, HV.out, if_neg hvl]
        go_wp2_with fail
        refine (HH.out j hlt _ hbel).mono ?_
        rintro e w2 ⟨rfl, hb2⟩
        have hbx2 := hbx.trans (hb2.mono hsz)
        clear hb2
        go_wp2_with fail
        exact ⟨⟨j + 1, v + Z j, by omega, by go_num, by go_num, HE, by omega, hbx2⟩, by simp [intOf]; omega⟩
    · have hjm : j = m := by omega
      have HE : Hid (loopS Z m (1 + q) = v) := by rw [← hjm]; exact HV
      clear hjm
      go_wp2_with fail
      go_ret
      exact ⟨ret_int (by rw [HE.out]), hbel⟩
end Go.Proofs.YtgcnpmjpdhgikaaDoor
