/-
  A call of both nets: Down.
-/
import Derived.Test.YtfhlfklgngpklaaS3U
import Derived.BigRegion
namespace Go.Proofs.Ytfhlfklgngpklaa
open Go.RowKit Go.Maps
theorem RelB.fall {S : NS} {R : RS} (h : RelB S R) (a : Int) : rdE R a = tuE S a true ∧ True := by
  refine ⟨?_, trivial⟩
  unfold rdE tuE
  rw [h.len]
  by_cases hn : ndB S.N a = true
  · rw [if_pos hn, if_pos hn]
    have hb : 0 ≤ a ∧ a < S.N := by simpa [ndB] using hn
    rw [h.up a hb.1 hb.2]
    cases isDn S a <;> rfl
  · rw [if_neg hn, if_neg hn]
section
variable {w w' : World} {n r : Nat} {P D : Nat → Prop} {S : NS} {R : RS} {c : Nat}
set_option maxRecDepth 100000 in
set_option maxHeartbeats 12800000 in
theorem step_down (hd : NT w n P S) (hr : RK w r R D) (hj : ∀ k, P k → ¬ D k) (h : Rel S R c) (hc : c ≤ 300) (x : Ac) (hk : amg x.kd 9 = 5) :
    Calls Try.prog 11 #[.pointer (some ⟨n, 0, none⟩), .pointer (some ⟨r, 0, none⟩), .agg #[.int .i64 x.kd, .int .i64 x.fr, .int .i64 x.to_, .int .i64 x.k, .string x.s]] w fun e w' => e = .returned (.bool true) ∧ PTo w w' n r (dwS S x.fr) (rdS R x.fr) P D := by
  have HR0 := Lib.hid (h.b.fall x.fr).1
  have hl : R.tm.length ≤ 999999 := by have := h.few.2; omega
  obtain ⟨kd, fr, to_, k, s⟩ := x
  have HA := Lib.hid (fun W : World => among_any kd 9 (by omega) (by omega) W)
  rw [show amg kd 9 = 5 from hk] at HA
  obtain ⟨E, HE⟩ := named (tuE S fr true)
  have HR : Hid (rdE R fr = E) := Lib.hid (HR0.out.trans HE.out)
  have HDK := Lib.hid hd
  have HRK := Lib.hid hr
  have HJ := Lib.hid hj
  have hb0 : Below w.heap.size w (w.alloc (.cells #[.int .i64 kd, .int .i64 fr, .int .i64 to_, .int .i64 k, .string s] 33)) := (Below.refl _ _).alloc (Nat.le_refl _) _
  have HB0 := Lib.hid hb0
  have HBX := Lib.hid (heap_top w (.cells #[.int .i64 kd, .int .i64 fr, .int .i64 to_, .int .i64 k, .string s] 33))
  obtain ⟨q0, q1, q2, q3, q4⟩ := cells5 HBX.out
  clear hd hr hj hk hb0 h HR0 hc
  go_enter Try.func11, Try.ntmps11
  go_wp2_with fail
  refine (HA.out _).mono ?_
  rintro e w1 ⟨rfl, rfl⟩
  go_wp2_with fail
  have HOG : Hid (¬ P w.heap.size) := fun h => by have := NT.lt HDK.out h; omega
  have HDG : Hid (¬ D w.heap.size) := fun h => by have := HRK.out.lt _ h; omega
  have HX := Lib.hid (both (E := .int .i64 E) (ap := #[.pointer (some ⟨n, 0, none⟩), .int .i64 fr]) (ar := #[.pointer (some ⟨r, 0, none⟩), .int .i64 fr]) (HDK.out.on HB0.out) (HRK.out.on HB0.out) HJ.out (fun W h => by obtain ⟨_, _, _, _, _, _, h⟩ := h; have := Down_any h fr; rw [HE.out] at this; exact this) (fun W h => by have := RDown_any h hl fr; rw [HR.out] at this; exact this))
  generalize hW0 : w.alloc (.cells #[.int .i64 kd, .int .i64 fr, .int .i64 to_, .int .i64 k, .string s] 33) = W0 at *
  clear HA hW0 HE HR hl
  go_region_law (first
    | (rw [if_pos (by rfl)]; go_simp; go_at_call 32; refine (HX.out.2.1 _ HT.out _ (by first | exact Below.refl _ _ | exact ⟨rfl, rfl, rfl, Nat.le_refl _, fun _ _ => rfl⟩)).mono ?_; rintro e w4 ⟨rfl, h4⟩; have HF := Lib.hid h4; clear h4)
    | (rw [if_pos (by rfl)]; go_simp; go_at_call 19; refine (HX.out.2.2.2 _ HTR.out _ (by first | exact Below.refl _ _ | exact ⟨rfl, rfl, rfl, Nat.le_refl _, fun _ _ => rfl⟩)).mono ?_; rintro e w4 ⟨rfl, h4⟩; have HF := Lib.hid h4; clear h4)
    | (rw [if_pos (by rfl)]; go_simp; go_at_call 19; refine (HX.out.1 _ (by first | exact Below.refl _ _ | exact ⟨rfl, rfl, rfl, Nat.le_refl _, fun _ _ => rfl⟩)).mono ?_; rintro e w3 ⟨rfl, h3⟩; have HT := Lib.hid h3; obtain ⟨x0, x1, x2, x3, x4⟩ := cells5 (bx_to HBX.out HOG.out h3); clear h3)
    | (rw [if_pos (by rfl)]; go_simp; go_at_call 32; refine (HX.out.2.2.1 _ (by first | exact Below.refl _ _ | exact ⟨rfl, rfl, rfl, Nat.le_refl _, fun _ _ => rfl⟩)).mono ?_; rintro e w3 ⟨rfl, h3⟩; have HTR := Lib.hid h3; obtain ⟨x0, x1, x2, x3, x4⟩ := cells5 (bx_rto HBX.out HDG.out h3); clear h3))
  all_goals
    go_wp2_with fail
    go_ret
    exact ⟨rfl, (HF.out.same (by first | exact Below.refl _ _ | exact ⟨rfl, rfl, rfl, Nat.le_refl _, fun _ _ => rfl⟩)).after HB0.out⟩
end
end Go.Proofs.Ytfhlfklgngpklaa
