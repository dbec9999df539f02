/-
  Contract of the function works of the statements: the chapter's examples come out right: it returns true and turns nothing that was there.
-/
import Derived.Test.YtcpbnmboeafloabDoorTimes
namespace Go.Proofs.YtcpbnmboeafloabDoor
open Go.RowKit
set_option maxHeartbeats 400000 in
theorem text_inf (w : World) :
    Calls Tryd.prog 12 #[.int .u64 18446744073709551615] w fun e w' => e = .returned (.string ⟨#[105, 110, 102]⟩) ∧ w' = w := by
  go_enter Tryd.func12, Tryd.ntmps12
  go_wp2_with fail
  go_ret
  exact ⟨rfl, rfl⟩
set_option maxHeartbeats 400000 in
theorem fmt_small (i : Nat) (hi : i < 100) (w : World) :
    Calls Tryd.prog 20 #[.int .u64 i, .int .i64 10] w fun e w' => e = .returned (.string ⟨(Lib.decDigits i).toArray⟩) ∧ w' = w := by
  go_enter Tryd.func20, Tryd.ntmps20
  go_wp2_with fail
  refine (Tryd.internal_strconv_small i hi _).mono ?_
  rintro e w1 ⟨rfl, rfl⟩
  go_wp2_with fail
  go_ret
  exact ⟨rfl, rfl⟩
set_option maxHeartbeats 400000 in
theorem fmtu_small (i : Nat) (hi : i < 100) (w : World) :
    Calls Tryd.prog 15 #[.int .u64 i, .int .i64 10] w fun e w' => e = .returned (.string ⟨(Lib.decDigits i).toArray⟩) ∧ w' = w := by
  go_enter Tryd.func15, Tryd.ntmps15
  go_wp2_with fail
  refine (fmt_small i hi _).mono ?_
  rintro e w1 ⟨rfl, rfl⟩
  go_wp2_with fail
  go_ret
  exact ⟨rfl, rfl⟩
set_option maxHeartbeats 400000 in
theorem text_small (i : Nat) (hi : i < 100) (w : World) :
    Calls Tryd.prog 12 #[.int .u64 i] w fun e w' => e = .returned (.string ⟨(Lib.decDigits i).toArray⟩) ∧ w' = w := by
  have hb : ((i : Int) == 18446744073709551615) = false := beq_eq_false_iff_ne.2 (by omega)
  go_enter Tryd.func12, Tryd.ntmps12
  go_wp2_with fail
  refine (fmtu_small i hi _).mono ?_
  rintro e w1 ⟨rfl, rfl⟩
  go_wp2_with fail
  go_ret
  exact ⟨rfl, rfl⟩
theorem dec12 : Lib.decDigits 12 = [49, 50] := by simp [Lib.decDigits]
theorem text_12 (w : World) : Calls Tryd.prog 12 #[.int .u64 12] w fun e w' => e = .returned (.string ⟨#[49, 50]⟩) ∧ w' = w := by
  have h := text_small 12 (by omega) w
  rw [dec12] at h
  exact h
theorem uint_12 (w : World) : Calls Tryd.prog 14 #[.string ⟨#[49, 50]⟩, .int .i64 10, .int .i64 64] w fun e w' => e = .returned (.tuple #[.int .u64 12, .nilIface]) ∧ Below w.heap.size w w' := by
  refine (Tryd.strconv_ParseUint_10_at64_ok ⟨#[49, 50]⟩ (by decide) 12 (by decide) w).mono ?_
  rintro e w1 ⟨rfl, h | h⟩
  · subst h; exact ⟨rfl, Below.refl _ _⟩
  · subst h; exact ⟨rfl, Lib.bytesWorld_below _ _ _⟩
/-- What lies below reads behind as it read before. -/
theorem bcell {W w1 : World} (hb : Below W.heap.size W w1) : (∀ b o, b < W.heap.size → w1.cell? ⟨b, o, none⟩ = W.cell? ⟨b, o, none⟩) ∧ (∀ b o, b < W.heap.size → w1.frozen? ⟨b, o, none⟩ = W.frozen? ⟨b, o, none⟩) :=
  ⟨fun b o h => hb.cell (p := ⟨b, o, none⟩) h, fun b o h => hb.frozen (p := ⟨b, o, none⟩) h⟩
set_option maxHeartbeats 400000 in
theorem parse_12 (w : World) : Calls Tryd.prog 11 #[.string ⟨#[49, 50]⟩] w fun e w' => e = .returned (.tuple #[.int .u64 12, .agg #[.int .i64 0, .int .i64 0]]) ∧ Below w.heap.size w w' := by
  go_enter Tryd.func11, Tryd.ntmps11
  go_wp2_with fail
  refine (uint_12 _).mono ?_
  rintro e w1 ⟨rfl, hb⟩
  obtain ⟨hc, hf⟩ := bcell hb
  have hz : w.heap.size + 1 ≤ w1.heap.size := by have := hb.size; simp at this; omega
  go_wp2_with fail
  refine (text_12 _).mono ?_
  rintro e w2 ⟨rfl, rfl⟩
  go_wp2_with fail
  exact bodyPost_ret (v := .tuple #[.int .u64 12, .agg #[.int .i64 0, .int .i64 0]]) (by simp [results, Tryd.results11, go_sem, hc]) rfl
    ⟨rfl, ((((Below.refl _ _).alloc (Nat.le_refl _) _).trans (hb.mono (by simp))).setCell (by simp) _).setCell (by simp) _⟩
theorem times_7_3 (w : World) : Calls Tryd.prog 10 #[.int .u32 7, .int .i64 3] w fun e w' => e = .returned (.tuple #[.int .u64 21, .int .i64 0]) ∧ w' = w := by
  have h := times_any 7 3 (by omega) (by omega) (by omega) w
  rw [show timesD 7 ((3 : Nat) : Int) = 21 by decide] at h
  exact h
theorem add_2_3 (w : World) : Calls Tryd.prog 8 #[.int .u64 2, .int .u64 3] w fun e w' => e = .returned (.int .u64 5) ∧ w' = w := by
  have h := add_any 2 3 (by omega) (by omega) (by omega) (by omega) w
  rw [show addD 2 3 = 5 by decide] at h
  exact h
theorem add_top (w : World) : Calls Tryd.prog 8 #[.int .u64 18446744073709551614, .int .u64 1] w fun e w' => e = .returned (.int .u64 18446744073709551615) ∧ w' = w := by
  have h := add_any 18446744073709551614 1 (by omega) (by omega) (by omega) (by omega) w
  rw [addD_inf (by omega)] at h
  exact h
set_option maxHeartbeats 400000 in
theorem works_any (w : World) : Calls Tryd.prog 4 #[] w fun e w' => e = .returned (.bool true) ∧ Below w.heap.size w w' := by
  go_enter Tryd.func4, Tryd.ntmps4
  go_wp2_with fail
  refine (times_7_3 _).mono ?_
  rintro e w1 ⟨rfl, rfl⟩
  go_wp2_with fail
  refine (parse_12 _).mono ?_
  rintro e w1 ⟨rfl, hb⟩
  go_wp2_with fail
  refine (add_2_3 _).mono ?_
  rintro e w2 ⟨rfl, rfl⟩
  go_wp2_with fail
  refine (add_top _).mono ?_
  rintro e w2 ⟨rfl, rfl⟩
  go_wp2_with fail
  refine (text_inf _).mono ?_
  rintro e w2 ⟨rfl, rfl⟩
  go_wp2_with fail
  go_ret
  exact ⟨rfl, hb.alloc hb.size _⟩
end Go.Proofs.YtcpbnmboeafloabDoor
