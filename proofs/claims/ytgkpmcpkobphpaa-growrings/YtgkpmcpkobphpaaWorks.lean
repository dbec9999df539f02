/-
  works holds.
-/
import Derived.Test.YtgkpmcpkobphpaaCore
import Derived.Test.YtgkpmcpkobphpaaRing
namespace Go.Proofs.Ytgkpmcpkobphpaa
open Go.RowKit
/-- The example's arcs. -/
def exL : List A := [⟨0, 1, 0⟩, ⟨2, 1, 0⟩, ⟨2, 3, 0⟩, ⟨4, 3, 0⟩]
theorem ex_gchk4 : gchk 5 2 4 exL = 0 := by decide
theorem ex_gchk5 : gchk 5 2 5 exL = 0 := by decide
theorem ex_reg : reg 5 exL 2 4 = [2, 1, 3, 0] := by decide
theorem ex_core : core 5 exL 2 5 = [2, 1] := by decide
theorem ex_ringE : ringE 5 exL [1, 2] = 0 := by decide
theorem ex_ring : rgk exL [1, 2] 5 = [0, 3] := by decide
theorem ints_block {w : World} {b : Nat} {xs : List Int} {t : TypeId} (h : w.heap[b]? = some (.cells (cellsI xs).toArray t (0, 0))) : Ints w (some ⟨b, 0, none⟩) xs := by
  by_cases h0 : xs = []
  · exact .inl h0
  · refine .inr ⟨b, 0, rfl, lt_of_block h, fun j hj => ?_⟩
    simp [World.cell?, h, cellsI, List.getD, hj]
theorem ex_arcs {w : World} {b : Nat} (h : w.heap[b]? = some (.cells #[.int .i64 0, .int .i64 1, .int .u32 0, .int .i64 2, .int .i64 1, .int .u32 0, .int .i64 2, .int .i64 3, .int .u32 0, .int .i64 4, .int .i64 3, .int .u32 0] 42 (0, 0))) : Arcs w (some ⟨b, 0, none⟩) exL := by
  refine .inr ⟨b, 0, rfl, lt_of_block h, fun j hj => ?_⟩
  have hj : j = 0 ∨ j = 1 ∨ j = 2 ∨ j = 3 := by have : exL.length = 4 := rfl; omega
  rcases hj with rfl | rfl | rfl | rfl <;> exact ⟨by simp [World.cell?, h]; rfl, by simp [World.cell?, h]; rfl, by simp [World.cell?, h]; rfl⟩
set_option maxHeartbeats 1600000 in
theorem works_any (w : World) : Calls Try.prog 9 #[] w fun e w' => e = .returned (.bool true) ∧ Below w.heap.size w w' := by
  have hA0 := (Below.heap_alloc (w.alloc (.cells #[.int .i64 0, .int .i64 1, .int .u32 0, .int .i64 2, .int .i64 1, .int .u32 0, .int .i64 2, .int .i64 3, .int .u32 0, .int .i64 4, .int .i64 3, .int .u32 0] 42)) (.cells #[.int .i64 5, .slice (some ⟨w.heap.size, 0, none⟩) 4 4] 24) w.heap.size (by simp)).trans (heap_top w (.cells #[.int .i64 0, .int .i64 1, .int .u32 0, .int .i64 2, .int .i64 1, .int .u32 0, .int .i64 2, .int .i64 3, .int .u32 0, .int .i64 4, .int .i64 3, .int .u32 0] 42))
  have hG0 := heap_top (w.alloc (.cells #[.int .i64 0, .int .i64 1, .int .u32 0, .int .i64 2, .int .i64 1, .int .u32 0, .int .i64 2, .int .i64 3, .int .u32 0, .int .i64 4, .int .i64 3, .int .u32 0] 42)) (.cells #[.int .i64 5, .slice (some ⟨w.heap.size, 0, none⟩) 4 4] 24)
  rw [World.size_alloc] at hG0
  have hB0 : Below w.heap.size w ((w.alloc (.cells #[.int .i64 0, .int .i64 1, .int .u32 0, .int .i64 2, .int .i64 1, .int .u32 0, .int .i64 2, .int .i64 3, .int .u32 0, .int .i64 4, .int .i64 3, .int .u32 0] 42)).alloc (.cells #[.int .i64 5, .slice (some ⟨w.heap.size, 0, none⟩) 4 4] 24)) := ((Below.refl _ w).alloc (Nat.le_refl _) _).alloc (by simp) _
  generalize hp : w.heap.size = p at *
  go_enter Try.func9, Try.ntmps9
  go_wp2_with fail
  generalize hW : (w.alloc (.cells #[.int .i64 0, .int .i64 1, .int .u32 0, .int .i64 2, .int .i64 1, .int .u32 0, .int .i64 2, .int .i64 3, .int .u32 0, .int .i64 4, .int .i64 3, .int .u32 0] 42)).alloc (.cells #[.int .i64 5, .slice (some ⟨p, 0, none⟩) 4 4] 24) = W at *
  clear hW
  have HAR := Lib.hid (ex_arcs hA0)
  refine (region_any 5 2 4 (some ⟨p, 0, none⟩) exL 4 W (by decide) HAR.out).mono ?_
  rintro e w1 ⟨v1, xs1, rfl, hown1, hx1, hb1⟩
  obtain rfl : xs1 = [2, 1, 3, 0] := by rw [hx1, ex_gchk4, if_pos rfl]; exact ex_reg
  rw [ex_gchk4]
  have hG1 := (hb1.block _ (lt_of_block hG0)).trans hG0
  obtain ⟨⟨g0, g1⟩, _⟩ := two_cells hG1
  obtain ⟨a1, c1, rfl⟩ := own_slice hown1
  have HI1 := Lib.hid (own_ints hown1 rfl)
  have HA1 := Lib.hid (HAR.out.on hb1)
  have HB1 : Hid (Below p w w1) := hB0.trans (hb1.mono (hp ▸ hB0.size))
  clear hown1 hx1 hb1
  go_wp2_with fail
  refine (core_any 5 2 5 (some ⟨p, 0, none⟩) exL 4 w1 (by decide) HA1.out).mono ?_
  rintro e w2 ⟨v2, xs2, rfl, hown2, hx2, hb2⟩
  obtain rfl : xs2 = [2, 1] := by rw [hx2, ex_gchk5, if_pos rfl]; exact ex_core
  rw [ex_gchk5]
  have hG2 := (hb2.block _ (lt_of_block hG1)).trans hG1
  obtain ⟨⟨k0, k1⟩, _⟩ := two_cells hG2
  obtain ⟨a2, c2, rfl⟩ := own_slice hown2
  have HI1b := Lib.hid (HI1.out.on hb2)
  have HI2 := Lib.hid (own_ints hown2 rfl)
  have HA2 := Lib.hid (HA1.out.on hb2)
  have HB2 : Hid (Below p w w2) := HB1.out.trans (hb2.mono (hp ▸ HB1.out.size))
  clear hown2 hx2 hb2 g0 g1
  go_wp2_with fail
  have hbm : Below w2.heap.size w2 (w2.alloc (.cells #[.int .i64 1, .int .i64 2] 3)) := (Below.refl _ _).alloc (Nat.le_refl _) _
  have HM : Hid (Ints (w2.alloc (.cells #[.int .i64 1, .int .i64 2] 3)) (some ⟨w2.heap.size, 0, none⟩) [1, 2]) := ints_block (heap_top w2 _)
  have hBm : Below p w (w2.alloc (.cells #[.int .i64 1, .int .i64 2] 3)) := HB2.out.trans (hbm.mono (hp ▸ HB2.out.size))
  refine (ring_any 5 (some ⟨p, 0, none⟩) (some ⟨w2.heap.size, 0, none⟩) exL [1, 2] 4 2 (w2.alloc (.cells #[.int .i64 1, .int .i64 2] 3)) (by decide) (HA2.out.on hbm) (by decide) HM.out).mono ?_
  rintro e w3 ⟨v3, xs3, rfl, hown3, hx3, hb3⟩
  obtain rfl : xs3 = [0, 3] := by rw [hx3, ex_ringE, if_pos rfl]; exact ex_ring
  rw [ex_ringE]
  obtain ⟨a3, c3, rfl⟩ := own_slice hown3
  have HI3 := Lib.hid (own_ints hown3 rfl)
  have HI1c := Lib.hid ((HI1b.out.on hbm).on hb3)
  have HI2c := Lib.hid ((HI2.out.on hbm).on hb3)
  have HB3 : Hid (Below p w w3) := hBm.trans (hb3.mono (hp ▸ hBm.size))
  clear hown3 hx3 hb3 hbm hBm k0 k1 HM
  have hs1 : Below w3.heap.size w3 (w3.alloc (.cells #[.int .i64 2, .int .i64 1, .int .i64 3, .int .i64 0] 3)) := (Below.refl _ _).alloc (Nat.le_refl _) _
  have HS1 := Lib.hid hs1
  have HN1 : Hid (Ints (w3.alloc (.cells #[.int .i64 2, .int .i64 1, .int .i64 3, .int .i64 0] 3)) (some ⟨w3.heap.size, 0, none⟩) (ints [2, 1, 3, 0])) := ints_block (heap_top w3 _)
  clear hs1
  go_wp2_with fail
  refine (sameInts_any a1 (some ⟨w3.heap.size, 0, none⟩) c1 4 (ints [2, 1, 3, 0]) _ (by decide) (HI1c.out.on HS1.out) HN1.out).mono ?_
  rintro e w4 ⟨rfl, hb4⟩
  have H34 : Hid (Below w3.heap.size w3 w4) := HS1.out.trans (hb4.mono HS1.out.size)
  have HI2d := Lib.hid (HI2c.out.on H34.out)
  have HI3d := Lib.hid (HI3.out.on H34.out)
  have HB4 : Hid (Below p w w4) := HB3.out.trans (H34.out.mono (hp ▸ HB3.out.size))
  have HS2 : Hid (Below w4.heap.size w4 (w4.alloc (.cells #[.int .i64 2, .int .i64 1] 3))) := (Below.refl _ _).alloc (Nat.le_refl _) _
  have HN2 : Hid (Ints (w4.alloc (.cells #[.int .i64 2, .int .i64 1] 3)) (some ⟨w4.heap.size, 0, none⟩) (ints [2, 1])) := ints_block (heap_top w4 _)
  clear hb4
  go_wp2_with fail
  refine (sameInts_any a2 (some ⟨w4.heap.size, 0, none⟩) c2 2 (ints [2, 1]) _ (by decide) (HI2d.out.on HS2.out) HN2.out).mono ?_
  rintro e w5 ⟨rfl, hb5⟩
  have H45 : Hid (Below w4.heap.size w4 w5) := HS2.out.trans (hb5.mono HS2.out.size)
  have HI3e := Lib.hid (HI3d.out.on H45.out)
  have HB5 : Hid (Below p w w5) := HB4.out.trans (H45.out.mono (hp ▸ HB4.out.size))
  have HS3 : Hid (Below w5.heap.size w5 (w5.alloc (.cells #[.int .i64 0, .int .i64 3] 3))) := (Below.refl _ _).alloc (Nat.le_refl _) _
  have HN3 : Hid (Ints (w5.alloc (.cells #[.int .i64 0, .int .i64 3] 3)) (some ⟨w5.heap.size, 0, none⟩) (ints [0, 3])) := ints_block (heap_top w5 _)
  clear hb5
  go_wp2_with fail
  refine (sameInts_any a3 (some ⟨w5.heap.size, 0, none⟩) c3 2 (ints [0, 3]) _ (by decide) (HI3e.out.on HS3.out) HN3.out).mono ?_
  rintro e w6 ⟨rfl, hb6⟩
  have H56 : Hid (Below w5.heap.size w5 w6) := HS3.out.trans (hb6.mono HS3.out.size)
  have HB6 : Hid (Below p w w6) := HB5.out.trans (H56.out.mono (hp ▸ HB5.out.size))
  clear hb6
  go_wp2_with fail
  go_ret
  exact ⟨rfl, HB6.out⟩
end Go.Proofs.Ytgkpmcpkobphpaa
