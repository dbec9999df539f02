/-
  The law's step: fuse.
-/
import Derived.Test.YtlbkmhlpgpfafaaRs
namespace Go.Proofs.Ytlbkmhlpgpfafaa
open Go.RowKit Go.Maps Go.Joins
section
variable {w w1 w2 w' : World} {d r : Nat} {ow : Nat → Option Nat} {S S' : PS} {D : Nat → Prop}
set_option maxRecDepth 100000 in
set_option maxHeartbeats 12800000 in
theorem step_fuse (hd : DK w d ow S) (hr : RK w r S D) (hj : ∀ k, D k → ow k = none) (k n : Int) (s m : ByteArray) (a : Option Addr) (X c : Nat) (hk : amg k 8 = 6) (hn : n ≤ 9223372036854775807) :
    Calls Try.prog 11 #[.pointer (some ⟨d, 0, none⟩), .pointer (some ⟨r, 0, none⟩), .agg #[.int .i64 k, .string s, .string m, .int .i64 n, .slice a X c]] w fun e w' => e = .returned (.bool true) ∧ PTo w w' d r (fuS S n) ow D := by
  have HA := Lib.hid (fun W : World => among_any k 8 (by omega) (by omega) W)
  rw [hk] at HA
  obtain ⟨E, HE⟩ := named (fuE n)
  have HDK := Lib.hid hd
  have HRK := Lib.hid hr
  have HJ := Lib.hid hj
  have hb0 : Below w.heap.size w (w.alloc (.cells #[.int .i64 k, .string s, .string m, .int .i64 n, .slice a X c] 31)) := (Below.refl _ _).alloc (Nat.le_refl _) _
  have HB0 := Lib.hid hb0
  have HBX := Lib.hid (heap_top w (.cells #[.int .i64 k, .string s, .string m, .int .i64 n, .slice a X c] 31))
  obtain ⟨q0, q1, q2, q3, q4⟩ := cells5 HBX.out
  clear hd hr hj hk hb0
  go_enter Try.func11, Try.ntmps11
  go_wp2_with fail
  refine (HA.out _).mono ?_
  rintro e w1 ⟨rfl, rfl⟩
  go_wp2_with fail
  have HOG : Hid (ow w.heap.size = none) := HDK.out.out (Nat.le_refl _)
  have HDG : Hid (¬ D w.heap.size) := fun h => by have := HRK.out.lt _ h; omega
  have HX := Lib.hid (both (E := .int .i64 E) (HDK.out.on HB0.out) (HRK.out.on HB0.out) HJ.out (fun W h => by have := Fuse_any h n hn; rw [HE.out] at this; exact this) (fun W h => by have := RFuse_any h n; rw [HE.out] at this; exact this))
  generalize hW0 : w.alloc (.cells #[.int .i64 k, .string s, .string m, .int .i64 n, .slice a X c] 31) = W0 at *
  clear HA hW0
  go_region_law (first
    | (rw [if_pos (by rfl)]; go_simp; go_at_call 31; refine (HX.out.2.1 _ HT.out _ (by first | exact Below.refl _ _ | exact ⟨rfl, rfl, rfl, Nat.le_refl _, fun _ _ => rfl⟩)).mono ?_; rintro e w4 ⟨rfl, h4⟩; have HF := Lib.hid h4; clear h4)
    | (rw [if_pos (by rfl)]; go_simp; go_at_call 19; refine (HX.out.2.2.2 _ HTR.out _ (by first | exact Below.refl _ _ | exact ⟨rfl, rfl, rfl, Nat.le_refl _, fun _ _ => rfl⟩)).mono ?_; rintro e w4 ⟨rfl, h4⟩; have HF := Lib.hid h4; clear h4)
    | (rw [if_pos (by rfl)]; go_simp; go_at_call 19; refine (HX.out.1 _ (by first | exact Below.refl _ _ | exact ⟨rfl, rfl, rfl, Nat.le_refl _, fun _ _ => rfl⟩)).mono ?_; rintro e w3 ⟨rfl, h3⟩; have HT := Lib.hid h3; obtain ⟨x0, x1, x2, x3, x4⟩ := cells5 (bx_to HBX.out HOG.out h3); clear h3)
    | (rw [if_pos (by rfl)]; go_simp; go_at_call 31; refine (HX.out.2.2.1 _ (by first | exact Below.refl _ _ | exact ⟨rfl, rfl, rfl, Nat.le_refl _, fun _ _ => rfl⟩)).mono ?_; rintro e w3 ⟨rfl, h3⟩; have HTR := Lib.hid h3; obtain ⟨x0, x1, x2, x3, x4⟩ := cells5 (bx_rto HBX.out HDG.out h3); clear h3))
  all_goals
    go_wp2_with fail
    go_ret
    exact ⟨rfl, (HF.out.same (by first | exact Below.refl _ _ | exact ⟨rfl, rfl, rfl, Nat.le_refl _, fun _ _ => rfl⟩)).after HB0.out⟩
end
end Go.Proofs.Ytlbkmhlpgpfafaa
