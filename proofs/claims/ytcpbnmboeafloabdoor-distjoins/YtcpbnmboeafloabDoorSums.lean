/-
  Contracts of dist.Sums and the reference's Sums: the sums of a list, in memory of their own, or ErrLong.
-/
import Derived.Test.YtcpbnmboeafloabDoorLend
namespace Go.Proofs.YtcpbnmboeafloabDoor
open Go.RowKit
/-- The sums of the first one, two, .. members. -/
def sumsD (l : List Int) : List Int := (List.range l.length).map fun i => sumD (l.take (i + 1))
theorem sumsD_len (l : List Int) : (sumsD l).length = l.length := by unfold sumsD; simp
theorem sumsD_getD (l : List Int) (j : Nat) (h : j < l.length) : (sumsD l).getD j 0 = sumD (l.take (j + 1)) := by
  unfold sumsD
  simp [List.getD, h]
theorem sumsD_ext {l xs : List Int} (hx : xs.length = l.length) (h : ∀ j, j < l.length → xs.getD j 0 = sumD (l.take (j + 1))) : xs = sumsD l := by
  apply List.ext_getElem (by rw [sumsD_len]; exact hx)
  intro j h1 h2
  have e1 : xs.getD j 0 = xs[j] := by simp [List.getD, List.getElem?_eq_getElem h1]
  have e2 : (sumsD l).getD j 0 = (sumsD l)[j] := by simp [List.getD, List.getElem?_eq_getElem h2]
  rw [← e1, ← e2, sumsD_getD l j (by omega), h j (by omega)]
theorem cellsD_getD (xs : List Int) (k : Nat) (h : k < xs.length) : (cellsD xs)[k]? = some (.int .u64 (xs.getD k 0)) := by
  unfold cellsD
  simp [List.getD, List.getElem?_eq_getElem h]
theorem cellsD_set (xs : List Int) (k : Nat) (x : Int) : (cellsD xs).set k (.int .u64 x) = cellsD (xs.set k x) := by
  unfold cellsD
  rw [List.map_set]
theorem getD_set (xs : List Int) (k j : Nat) (x : Int) (hk : k < xs.length) : (xs.set k x).getD j 0 = if j = k then x else xs.getD j 0 := by
  by_cases h : j = k
  · subst h; simp [List.getD, hk]
  · rw [if_neg h]; simp [List.getD, Ne.symm h]
set_option maxHeartbeats 400000 in
theorem sums_long (a : Option Addr) (n cap : Nat) (w : World) (hn : 16384 < n) (hn' : n ≤ 9223372036854775807) :
    Calls Tryd.prog 5 #[.slice a n cap] w fun e w' => e = .returned (.tuple #[.slice none 0 0, .int .i64 2]) ∧ w' = w := by
  have h1 : (16384 : Int) < n := by omega
  go_enter Tryd.func5, Tryd.ntmps5
  go_wp2_with fail
  go_ret2
  exact ⟨rfl, rfl⟩
set_option maxHeartbeats 400000 in
theorem sums_some (b off cap : Nat) (l : List Int) (w : World) (hl : Dists l) (hlen : l.length ≤ 16384) (hpos : 0 < l.length) (hc : ∀ j, j < l.length → w.cell? ⟨b, off + j, none⟩ = some (.int .u64 (l.getD j 0))) :
    Calls Tryd.prog 5 #[.slice (some ⟨b, off, none⟩) l.length cap] w fun e w' => e = .returned (.tuple #[.slice (some ⟨w.heap.size, 0, none⟩) l.length l.length, .int .i64 0]) ∧ w'.ownsRow w.heap.size 29 1 (.slice (some ⟨w.heap.size, 0, none⟩) l.length l.length) l.length (cellsD (sumsD l)) ∧ Below w.heap.size w w' := by
  obtain ⟨i0, hi, hz0, hz1, hz2⟩ := info_parts info23
  have hb : b < w.heap.size := World.block_lt_of_cell? w _ (hc 0 hpos)
  have HC := Lib.hid hc
  clear hc
  have h1 : ¬ (16384 : Int) < l.length := by omega
  go_enter Tryd.func5, Tryd.ntmps5
  go_wp2_with (at_make; refine wpList_make_full _ rfl (.tmp 12) (.tmp 12) 22 rfl w.heap.size 29 i0 (.int .u64 0) 1 Tryd.underlying22 hi hz0 hz1 .i64 .i64 l.length l.length l.length rfl rfl rfl rfl (by rw [hz2]; omega) (by unfold maxLen; omega) (Nat.le_refl _) ?_; intro w1 hown1 hgrow1)
  have hown0 : w1.ownsRow w.heap.size 29 1 (.slice (some ⟨w.heap.size, 0, none⟩) l.length l.length) l.length (cellsD (List.replicate l.length 0)) := by
    have e : (madeCells (Value.int .u64 0).cells (l.length * 1)).toList = cellsD (List.replicate l.length 0) := by
      show (madeCells #[Value.int .u64 0] (l.length * 1)).toList = _
      rw [toList_madeCells_one, Nat.mul_one]
      unfold cellsD
      rw [List.map_replicate]
    rw [e] at hown1
    exact hown1
  have hb1 : Below w.heap.size w w1 := (Below.refl _ _).grown hgrow1 (Nat.le_refl _) (by intro k hk; cases hk)
  clear hown1 hgrow1
  go_loopw [5, 16] (fun t i wr => ∃ (k : Nat) (xs : List Int), k ≤ l.length ∧ i = .int .i64 k ∧ t = .int .u64 (sumD (l.take k)) ∧ xs.length = l.length ∧ (∀ j, j < k → xs.getD j 0 = sumD (l.take (j + 1))) ∧ wr.ownsRow w.heap.size 29 1 (.slice (some ⟨w.heap.size, 0, none⟩) l.length l.length) l.length (cellsD xs) ∧ Below w.heap.size w wr) (fun _ i _ => l.length - (intOf i).toNat)
  case atStart => exact ⟨0, List.replicate l.length 0, Nat.zero_le _, rfl, rfl, by simp, fun j hj => absurd hj (by omega), hown0, hb1⟩
  case round =>
    obtain ⟨k, xs, hk, rfl, rfl, hxl, hxs, hown, hbel⟩ := hrel
    have HX := Lib.hid hxs
    have HXL := Lib.hid hxl
    clear hxs hxl
    by_cases hlt : k < l.length
    · have c1 : wr.cell? ⟨b, off + k, none⟩ = some (.int .u64 (l.getD k 0)) := (hbel.cell hb).trans (HC.out k hlt)
      have c2 : wr.cell? ⟨w.heap.size, k, none⟩ = some (.int .u64 (xs.getD k 0)) := (hown.cellAt k (by omega)).trans (cellsD_getD xs k (by rw [HXL.out]; exact hlt))
      have f2 : wr.frozen? ⟨w.heap.size, k, none⟩ = false := hown.frozenAt k
      have hx := hl.getD k
      have hs := sumD_bounds (hl.take k)
      have HT : Hid (sumD (l.take (k + 1)) = addD (sumD (l.take k)) (l.getD k 0)) := sumD_take l k hlt
      generalize l.getD k 0 = x at *
      generalize sumD (l.take k) = s at *
      generalize xs.getD k 0 = y at *
      go_wp2_with fail
      refine (add_any _ _ hs.1 hs.2 hx.1 hx.2 _).mono ?_
      rintro e w2 ⟨rfl, rfl⟩
      rw [← HT.out]
      go_wp2_with fail
      have hst := hown.stored k (.int .u64 (sumD (l.take (k + 1))))
      rw [cellsD_set] at hst
      refine ⟨⟨k + 1, xs.set k (sumD (l.take (k + 1))), by omega, by go_num, rfl, by rw [List.length_set]; exact HXL.out, ?_, hst.1, hbel.setCell (Nat.le_refl _) _⟩, by simp [intOf]; omega⟩
      intro j hj
      rw [getD_set _ _ _ _ (by rw [HXL.out]; exact hlt)]
      split
      · rename_i e; rw [e]
      · exact HX.out j (by omega)
    · have hkl : k = l.length := by omega
      have hxe : xs = sumsD l := sumsD_ext HXL.out (fun j hj => HX.out j (by omega))
      rw [hxe] at hown
      clear hkl hxe
      go_wp2_with fail
      go_ret2
      exact ⟨rfl, hown, hbel⟩
set_option maxHeartbeats 400000 in
theorem sums_none (a : Option Addr) (cap : Nat) (w : World) :
    Calls Tryd.prog 5 #[.slice a 0 cap] w fun e w' => e = .returned (.tuple #[.slice (some ⟨w.heap.size, 0, none⟩) 0 0, .int .i64 0]) ∧ Below w.heap.size w w' := by
  obtain ⟨i0, hi, hz0, hz1, hz2⟩ := info_parts info23
  go_enter Tryd.func5, Tryd.ntmps5
  go_wp2_with (at_make; refine wpList_make_full _ rfl (.tmp 12) (.tmp 12) 22 rfl w.heap.size 29 i0 (.int .u64 0) 1 Tryd.underlying22 hi hz0 hz1 .i64 .i64 0 0 0 rfl rfl rfl rfl (by omega) (by decide) (Nat.le_refl _) ?_; intro w1 hown1 hgrow1)
  have hb1 : Below w.heap.size w w1 := (Below.refl _ _).grown hgrow1 (Nat.le_refl _) (by intro k hk; cases hk)
  clear hown1 hgrow1
  refine wp_loop_rounds 1 ?_
  rw [rounds_succ]
  go_wp2_with fail
  go_ret2
  exact ⟨rfl, hb1⟩
end Go.Proofs.YtcpbnmboeafloabDoor
