/-
  The statement on what is encoded answers true at every item; nothing that was there is turned.
-/
import Derived.Test.YtgcnpmjpdhgikaaDoorRefGen
import Derived.Test.YtgcnpmjpdhgikaaDoorWorks
namespace Go.Proofs.YtgcnpmjpdhgikaaDoor
open Go.RowKit
theorem names_any (w : World) : Calls Tryd.prog 11 #[] w fun e w' => e = .returned (.bool true) ∧ w' = w := by
  go_enter Tryd.func11, Tryd.ntmps11
  go_wp2_with fail
  go_ret
  exact ⟨rfl, rfl⟩
set_option maxHeartbeats 800000 in
theorem law_encodes_at (t : T) (k n : Int) (s : ByteArray) (a : Option Addr) (m cap : Nat) (hv : t.val = .agg #[.int .i64 k, .int .u64 n, .string s, .slice a m cap]) (w : World) (hin : InF w 8 t) (hh : Halves w) :
    Calls Tryd.prog 3 #[.agg #[.int .i64 k, .int .u64 n, .string s, .slice a m cap]] w fun e w' => e = .returned (.bool true) ∧ Below w.heap.size w w' := by
  have h1 := fun w h => encode_at t k n s a m cap hv w h
  have h2 := fun w h => rencode_at t k n s a m cap hv w h
  have H1 := Lib.hid h1
  have H2 := Lib.hid h2
  have HIN := Lib.hid hin
  have HH := Lib.hid hh
  clear h1 h2 hin hh hv
  unfold encV at H1 H2
  obtain ⟨bs, HB⟩ := named (⟨(encD t).1.toArray⟩ : ByteArray)
  obtain ⟨E, HE⟩ := named (encD t).2
  rw [HB.out, HE.out] at H1 H2
  go_enter Tryd.func3, Tryd.ntmps3
  go_wp2_with fail
  refine (H1.out _ (HIN.out.on ((Below.refl _ _).alloc (Nat.le_refl _) _))).mono ?_
  rintro e w1 ⟨rfl, hb1⟩
  obtain ⟨q0, q1, q2, q3⟩ := bcell4 hb1 (by simp)
  have hbw : Below w.heap.size w w1 := ((Below.refl _ _).alloc (Nat.le_refl _) _).trans (hb1.mono (by simp))
  clear hb1
  go_wp2_with fail
  refine (H2.out _ (HIN.out.on hbw)).mono ?_
  rintro e w2 ⟨rfl, hb2⟩
  have hbw2 := hbw.trans (hb2.mono hbw.size)
  clear hb2 hbw q0 q1 q2 q3
  go_wp2_with fail
  refine (names_any _).mono ?_
  rintro e w3 ⟨rfl, rfl⟩
  go_wp2_with fail
  refine (works_any _ (HH.out.on hbw2 HH.out.size)).mono ?_
  rintro e w4 ⟨rfl, hb4⟩
  go_wp2_with fail
  go_ret
  exact ⟨rfl, hbw2.trans (hb4.mono hbw2.size)⟩
theorem law_encodes (t : T) (w : World) (hin : InF w 8 t) (hh : Halves w) :
    Calls Tryd.prog 3 #[t.val] w fun e w' => e = .returned (.bool true) ∧ Below w.heap.size w w' := law_encodes_at t _ _ _ _ _ _ rfl w hin hh
end Go.Proofs.YtgcnpmjpdhgikaaDoor
