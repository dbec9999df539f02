/-
  The walk of the statement DistTexts: it returns true for every distance and every text.
-/
import Derived.Test.YtcpbnmboeafloaaDoorRparse
namespace Go.Proofs.YtcpbnmboeafloaaDoor
open Go.RowKit
set_option maxHeartbeats 400000 in
theorem law_texts (u : Nat) (hu : u < 18446744073709551616) (s : ByteArray) (hs : s.size ≤ 9223372036854775807) (w : World) (he : Errs w) (htab : Tab w) :
    Calls Tryd.prog 5 #[.int .u64 u, .string s] w fun e w' => e = .returned (.bool true) ∧ Below w.heap.size w w' := by
  have hp := fun w he ht => parse_any s hs w he ht
  have hq := fun w => rparse_any s hs w
  unfold parseV at hp hq
  generalize ((parseD s.data.toList).1 : Int) = n at hp hq
  generalize (parseD s.data.toList).2 = c at hp hq
  have HP := Lib.hid hp
  have HQ := Lib.hid hq
  clear hp hq
  go_enter Tryd.func5, Tryd.ntmps5
  go_wp2_with fail
  refine (HP.out _ he htab).mono ?_
  rintro e w1 ⟨rfl, hb1⟩
  go_wp2_with fail
  refine (HQ.out _).mono ?_
  rintro e w2 ⟨rfl, hb2⟩
  have z2 : w1.heap.size + 1 ≤ w2.heap.size := by have := hb2.size; simp at this; omega
  have t2 := ((htab.on hb1).on ((Below.refl _ _).alloc (Nat.le_refl _) (.cells #[.int .i64 0, .int .i64 c] 43))).on hb2
  go_wp2_with fail
  refine (text_any u hu _ (t2.on ((Below.refl _ _).alloc (Nat.le_refl _) _))).mono ?_
  rintro e w3 ⟨rfl, hb3⟩
  have z3 : w2.heap.size + 1 ≤ w3.heap.size := by have := hb3.size; simp at this; omega
  have f1 : ∀ o, w3.cell? ⟨w1.heap.size, o, none⟩ = (w1.alloc (.cells #[.int .i64 0, .int .i64 c] 43)).cell? ⟨w1.heap.size, o, none⟩ := fun o => by
    rw [hb3.cell (by simp; omega), ((Below.refl w2.heap.size w2).alloc (Nat.le_refl _) _).cell (by simp; omega), hb2.cell (by simp)]
  have f2 : ∀ o, w3.cell? ⟨w2.heap.size, o, none⟩ = (w2.alloc (.cells #[.int .i64 0, .int .i64 c] 43)).cell? ⟨w2.heap.size, o, none⟩ := fun o => hb3.cell (by simp)
  go_wp2_with fail
  refine (rtext_any u hu _).mono ?_
  rintro e w4 ⟨rfl, rfl⟩
  go_wp2_with fail
  refine (works_any _).mono ?_
  rintro e w5 ⟨rfl, hb5⟩
  go_wp2_with fail
  go_ret
  have s1 := hb1.size
  exact ⟨rfl, ((((hb1.alloc s1 _).trans (hb2.mono (by simp; omega))).alloc (by omega) _).trans (hb3.mono (by simp; omega))).trans (hb5.mono (by omega))⟩
end Go.Proofs.YtcpbnmboeafloaaDoor
