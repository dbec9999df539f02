/-
  Contract of the reference's Sums: the sums of a list, in memory of their own, or ErrLong.
-/
import Derived.Test.YtcpbnmboeafloaaDoorSums
namespace Go.Proofs.YtcpbnmboeafloaaDoor
open Go.RowKit
theorem sumsD_take (l : List Int) (k : Nat) (hk : k < l.length) : cellsD ((sumsD l).take (k + 1)) = cellsD ((sumsD l).take k) ++ [.int .u64 (sumD (l.take (k + 1)))] := by
  have h : k < (sumsD l).length := by rw [sumsD_len]; exact hk
  have e : (sumsD l)[k] = sumD (l.take (k + 1)) := by rw [← sumsD_getD l k hk]; simp [List.getD, List.getElem?_eq_getElem h]
  rw [List.take_succ_eq_append_getElem h, e]
  unfold cellsD
  rw [List.map_append]
  rfl
set_option maxHeartbeats 400000 in
theorem rsums_long (a : Option Addr) (n cap : Nat) (w : World) (hn : 16384 < n) (hn' : n ≤ 9223372036854775807) :
    Calls Tryd.prog 17 #[.slice a n cap] w fun e w' => e = .returned (.tuple #[.slice none 0 0, .int .i64 2]) ∧ w' = w := by
  have h1 : (16384 : Int) < n := by omega
  go_enter Tryd.func17, Tryd.ntmps17
  go_wp2_with fail
  go_ret2
  exact ⟨rfl, rfl⟩
set_option maxHeartbeats 400000 in
theorem rsums_none (a : Option Addr) (cap : Nat) (w : World) :
    Calls Tryd.prog 17 #[.slice a 0 cap] w fun e w' => e = .returned (.tuple #[.slice none 0 0, .int .i64 0]) ∧ w' = w := by
  go_enter Tryd.func17, Tryd.ntmps17
  go_wp2_with fail
  refine wp_loop_rounds 1 ?_
  rw [rounds_succ]
  go_wp2_with fail
  go_ret2
  exact ⟨rfl, rfl⟩
set_option maxHeartbeats 400000 in
theorem rsums_some (b off cap : Nat) (l : List Int) (w : World) (hl : Dists l) (hlen : l.length ≤ 16384) (hpos : 0 < l.length) (hc : ∀ j, j < l.length → w.cell? ⟨b, off + j, none⟩ = some (.int .u64 (l.getD j 0))) :
    Calls Tryd.prog 17 #[.slice (some ⟨b, off, none⟩) l.length cap] w fun e w' => ∃ v, e = .returned (.tuple #[v, .int .i64 0]) ∧ w'.ownsRow w.heap.size 23 1 v l.length (cellsD (sumsD l)) ∧ Below w.heap.size w w' := by
  obtain ⟨i0, hi, hz0, hz1, hz2⟩ := info_parts info23
  have hb : b < w.heap.size := World.block_lt_of_cell? w _ (hc 0 hpos)
  have HC := Lib.hid hc
  clear hc
  have h1 : ¬ (16384 : Int) < l.length := by omega
  go_enter Tryd.func17, Tryd.ntmps17
  go_wp2_with fail
  go_loopw [4, 5, 6] (fun v t i wr => ∃ (k : Nat), k ≤ l.length ∧ i = .int .i64 k ∧ t = .int .u64 (sumD (l.take k)) ∧ wr.ownsRow w.heap.size 23 1 v k (cellsD ((sumsD l).take k)) ∧ Below w.heap.size w wr) (fun _ _ i _ => l.length - (intOf i).toNat)
  case atStart => exact ⟨0, Nat.zero_le _, rfl, rfl, World.ownsRow_nil _ _ _ _, Below.refl _ _⟩
  case round =>
    obtain ⟨k, hk, rfl, rfl, hown, hbel⟩ := hrel
    by_cases hlt : k < l.length
    · have c1 : wr.cell? ⟨b, off + k, none⟩ = some (.int .u64 (l.getD k 0)) := (hbel.cell hb).trans (HC.out k hlt)
      have hx := hl.getD k
      have hs := sumD_bounds (hl.take k)
      have HT : Hid (sumD (l.take (k + 1)) = addD (sumD (l.take k)) (l.getD k 0)) := sumD_take l k hlt
      have hsz := hbel.size
      generalize l.getD k 0 = x at *
      generalize sumD (l.take k) = s at *
      go_wp2_with (first
        | (go_at_call 13; refine (radd_any _ _ hs.1 hs.2 hx.1 hx.2 _).mono ?_; rintro e w2 ⟨rfl, rfl⟩; rw [← HT.out])
        | (at_builtin; refine wpList_append_own _ rfl (.tmp 22) (.tmp 24) 31 rfl w.heap.size 23 i0 (.int .u64 0) 1 8 Tryd.underlying31 hi hz0 hz1 hz2 rfl (by decide) _ k _ rfl (hown.alloc _) ⟨_, 0, none⟩ 1 1 [.int .u64 (sumD (l.take (k + 1)))] rfl rfl (news_one _ _) (one_u64 _) (by unfold maxLen; omega) (by omega) (by simp; omega) ?_; intro v1 w1 hown1 hgrow1 hnil1))
      refine ⟨⟨k + 1, by omega, by go_num, rfl, ?_, ?_⟩, by simp [intOf]; omega⟩
      · rw [sumsD_take l k hlt]; exact hown1
      · exact (hbel.alloc hsz _).grown hgrow1 (by simp; omega) (fun j hj => (hown.lt j hj).1)
    · have hkl : k = l.length := by omega
      have e : (sumsD l).take k = sumsD l := List.take_of_length_le (by rw [sumsD_len]; omega)
      rw [e, hkl] at hown
      clear hkl e
      go_wp2_with fail
      go_ret2
      exact ⟨_, rfl, hown, hbel⟩
end Go.Proofs.YtcpbnmboeafloaaDoor
