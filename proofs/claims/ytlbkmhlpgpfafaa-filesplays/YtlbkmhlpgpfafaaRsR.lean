/-
  The law's step: Read.
-/
import Derived.Test.YtlbkmhlpgpfafaaRs
namespace Go.Proofs.Ytlbkmhlpgpfafaa
open Go.RowKit Go.Maps Go.Joins
section
variable {w w1 w2 w' : World} {d r : Nat} {ow : Nat → Option Nat} {S S' : PS} {D : Nat → Prop}
set_option maxRecDepth 100000 in
set_option maxHeartbeats 12800000 in
theorem step_read (hd : DK w d ow S) (hr : RK w r S D) (hj : ∀ k, D k → ow k = none) (k n : Int) (s m : ByteArray) (a : Option Addr) (X c : Nat) (hk : amg k 8 = 5) (hs : s.size ≤ maxLen) :
    Calls Try.prog 11 #[.pointer (some ⟨d, 0, none⟩), .pointer (some ⟨r, 0, none⟩), .agg #[.int .i64 k, .string s, .string m, .int .i64 n, .slice a X c]] w fun e w' => e = .returned (.bool true) ∧ PTo w w' d r S ow D := by
  have HA := Lib.hid (fun W : World => among_any k 8 (by omega) (by omega) W)
  rw [hk] at HA
  have HDK := Lib.hid hd
  have HRK := Lib.hid hr
  have HJ := Lib.hid hj
  have hb0 : Below w.heap.size w (w.alloc (.cells #[.int .i64 k, .string s, .string m, .int .i64 n, .slice a X c] 31)) := (Below.refl _ _).alloc (Nat.le_refl _) _
  have HB0 := Lib.hid hb0
  have HBX := Lib.hid (heap_top w (.cells #[.int .i64 k, .string s, .string m, .int .i64 n, .slice a X c] 31))
  obtain ⟨q0, q1, q2, q3, q4⟩ := cells5 HBX.out
  clear hd hr hj hk hb0
  go_enter Try.func11, Try.ntmps11
  go_wp2_with fail
  refine (HA.out _).mono ?_
  rintro e w1 ⟨rfl, rfl⟩
  go_wp2_with fail
  have HP : Hid (∀ W, Below w.heap.size w W → Calls Try.prog 23 #[.pointer (some ⟨d, 0, none⟩), .string s] W fun e w' => e = .returned (.tuple #[.string (sB (rdT S s.data.toList)), .int .i64 (knE S s.data.toList)]) ∧ w' = W) := fun W hb => Read_any (HDK.out.on hb) s hs
  have HR : Hid (∀ W, Below w.heap.size w W → Calls Try.prog 30 #[.pointer (some ⟨r, 0, none⟩), .string s] W fun e w' => e = .returned (.tuple #[.string (sB (rdT S s.data.toList)), .int .i64 (knE S s.data.toList)]) ∧ w' = W) := fun W hb => RRead_any (HRK.out.on hb) HDK.out.len s
  obtain ⟨T, HT⟩ := named (sB (rdT S s.data.toList))
  obtain ⟨E, HE⟩ := named (knE S s.data.toList)
  rw [HT.out, HE.out] at HP HR
  clear HA
  go_wp2_with fail
  refine (HP.out _ HB0.out).mono ?_
  rintro e w1 ⟨rfl, rfl⟩
  go_wp2_with fail
  refine (HR.out _ HB0.out).mono ?_
  rintro e w1 ⟨rfl, rfl⟩
  go_wp2_with fail
  go_ret
  exact ⟨rfl, (show PTo _ _ d r S ow D from ⟨ow, D, HDK.out.on HB0.out, HRK.out.on HB0.out, HJ.out, fun _ _ => ⟨rfl, id⟩, Fr.of HB0.out⟩)⟩
end
end Go.Proofs.Ytlbkmhlpgpfafaa
