/-
  The walk of the statement DistLists: it returns true for every list of distances.
-/
import Derived.Test.YtcpbnmboeafloaaDoorLists
namespace Go.Proofs.YtcpbnmboeafloaaDoor
open Go.RowKit
theorem sumsR_len (l : List Int) : (sumsR l).length ≤ l.length := by
  unfold sumsR
  split
  · simp
  · rw [sumsD_len]; exact Nat.le_refl _
set_option maxHeartbeats 800000 in
theorem law_lists (a : Option Addr) (cap : Nat) (l : List Int) (w : World) (hl : Dists l) (hlen : l.length * 8 ≤ 140737488351232) (hcame : Came w a cap l) (hrow : Row w a l) :
    Calls Tryd.prog 4 #[.slice a l.length cap] w fun e w' => e = .returned (.bool true) ∧ Below w.heap.size w w' := by
  have hlen' : l.length ≤ 9223372036854775807 := by omega
  have hsl := sumsR_len l
  obtain ⟨xs, HX⟩ : ∃ xs, Hid (sumsR l = xs) := ⟨_, rfl⟩
  obtain ⟨er, HE⟩ : ∃ er, Hid (sumsE l = er) := ⟨_, rfl⟩
  obtain ⟨p, HP⟩ : ∃ p, Hid (leastR l = p) := ⟨_, rfl⟩
  obtain ⟨s, HS⟩ : ∃ s, Hid (sumD l = s) := ⟨_, rfl⟩
  rw [HX.out] at hsl
  go_enter Tryd.func4, Tryd.ntmps4
  go_wp2_with fail
  refine (lend_any a cap l _ hlen hcame).mono ?_
  rintro e w1 ⟨g, c, rfl, hgc, hg, hin, hmark, hb1⟩
  have hrow1 := hrow.on hb1
  have hin0 := hin
  have hmark0 := hmark
  go_wp2_with fail
  refine (sums_any (some ⟨g, 0, none⟩) l c _ hl hlen' hin).mono ?_
  rintro e w2 ⟨a2, c2, rfl, hown2, hb2⟩
  rw [HX.out] at hown2 ⊢
  rw [HE.out]
  have hrow2 := hrow1.on hb2
  have hin2 := hin.on hb2
  have hmark2 : w2.cell? ⟨g, l.length, none⟩ = some (.int .u64 77) := (hb2.cell hg).trans hmark
  go_wp2_with fail
  refine (rsums_any a l cap _ hl hlen' hrow2).mono ?_
  rintro e w3 ⟨a3, c3, rfl, hown3, hb3⟩
  rw [HX.out] at hown3 ⊢
  rw [HE.out]
  have s12 := hb2.size
  have hrow3 := hrow2.on hb3
  have hin3 := hin2.on hb3
  have hown23 := hown2.on hb3
  have hmark3 : w3.cell? ⟨g, l.length, none⟩ = some (.int .u64 77) := (hb3.cell (p := ⟨g, l.length, none⟩) (by show g < _; omega)).trans hmark2
  have s23 := hb3.size
  go_wp2_with fail
  refine (least_any (some ⟨g, 0, none⟩) l c _ hlen' hin3).mono ?_
  rintro e w4 ⟨rfl, n4, rfl⟩
  rw [HP.out]
  go_wp2_with fail
  refine (rleast_any a l cap _ hlen' (hrow3.on (below_n _ _))).mono ?_
  rintro e w5 ⟨rfl, n5, rfl⟩
  rw [HP.out]
  obtain ⟨w5, hw5⟩ : ∃ w5, w5 = (w3.drewN n4).drewN n5 := ⟨_, rfl⟩
  have b35 : Below w3.heap.size w3 w5 := by rw [hw5]; exact below_drewN (below_n _ _) _
  rw [← hw5]
  clear hw5
  have hrow5 := hrow3.on b35
  have hin5 := hin3.on b35
  have hown25 := hown23.on b35
  have hown35 := hown3.on b35
  have hmark5 : w5.cell? ⟨g, l.length, none⟩ = some (.int .u64 77) := (b35.cell (p := ⟨g, l.length, none⟩) (by show g < _; omega)).trans hmark3
  have s35 := b35.size
  have b15 : Below w1.heap.size w1 w5 := (hb2.trans (hb3.mono s12)).trans (b35.mono (by omega))
  clear hrow hrow2 hrow3 hin hin2 hin3 hown2 hown23 hown3 hmark hmark2 hmark3 b35 hb2 hb3
  go_wp2_with fail
  refine (same_any a2 a3 c2 c3 xs _ (by omega) hown25.row hown35).mono ?_
  rintro e w6 ⟨rfl, n6, hw6⟩
  have b56 : Below w5.heap.size w5 w6 := by rw [hw6]; exact below_n _ _
  clear hw6
  have hrow6 := hrow5.on b56
  have hin6 := hin5.on b56
  have hown26 := hown25.on b56
  have hmark6 : w6.cell? ⟨g, l.length, none⟩ = some (.int .u64 77) := (b56.cell (p := ⟨g, l.length, none⟩) (by show g < _; omega)).trans hmark5
  have b16 : Below w1.heap.size w1 w6 := b15.trans (b56.mono (by omega))
  have s16 := b16.size
  clear hrow5 hin5 hown25 hown35 hmark5 b56 b15
  go_wp2_with fail
  refine (sum_any (some ⟨g, 0, none⟩) l c _ hl hlen' hin6).mono ?_
  rintro e w7 ⟨rfl, rfl⟩
  rw [HS.out]
  go_wp2_with fail
  refine (rsum_any a l cap _ hl hlen' hrow6).mono ?_
  rintro e w7 ⟨rfl, rfl⟩
  rw [HS.out]
  go_wp2_with fail
  refine (spoil_any w1.heap.size a2 c2 3 xs _ (by omega) hown26).mono ?_
  rintro e w8 ⟨rfl, hb8⟩
  have b18 : Below w1.heap.size w1 w8 := b16.trans hb8
  have s8 := hb8.size
  have hrow8 : Row w8 a l := by
    rcases hrow1 with h | ⟨b, off, rfl, hc⟩
    · exact Or.inl h
    · exact Or.inr ⟨b, off, rfl, fun j hj => (b18.cell (World.block_lt_of_cell? w1 _ (hc j hj))).trans (hc j hj)⟩
  have hin8 := hin0.on b18
  have hmark8 : w8.cell? ⟨g, l.length, none⟩ = some (.int .u64 77) := (b18.cell (p := ⟨g, l.length, none⟩) hg).trans hmark0
  have hcells8 : ∀ j, j < l.length → w8.cell? ⟨g, 0 + j, none⟩ = some (.int .u64 (l.getD j 0)) := by
    intro j hj
    rcases hin8 with h | ⟨b, off, he, hc⟩
    · rw [h] at hj; exact absurd hj (by simp)
    · cases he; exact hc j hj
  have HK := Lib.hid (kept_any g c a cap l w8 (by omega) hgc hcells8 hmark8 hrow8)
  clear hcells8 hmark8 hrow8 hin8 hrow6 hin6 hmark6 hown26
  go_wp2_with fail
  refine HK.out.mono ?_
  rintro e w9 ⟨rfl, n9, rfl⟩
  go_wp2_with fail
  refine (works_any _).mono ?_
  rintro e w10 ⟨rfl, hb10⟩
  go_wp2_with fail
  go_ret
  have s1 := hb1.size
  have b19 : Below w1.heap.size w1 (w8.drewN n9) := below_drewN b18 n9
  exact ⟨rfl, (hb1.trans (b19.mono s1)).trans (hb10.mono (by have := b19.size; omega))⟩
end Go.Proofs.YtcpbnmboeafloaaDoor
