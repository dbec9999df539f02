/-
  Contracts of dist.Least and the reference's Least: the place of the first least member, and it; nothing is written.
-/
import Derived.Test.YtcpbnmboeafloabDoorSum
import Derived.Deep.QuietTactic
import Derived.BigQuiet
import Derived.WalkSmall
namespace Go.Proofs.YtcpbnmboeafloabDoor
open Go.RowKit
/-- The place of the first least one of the first k members. -/
def leastAt (l : List Int) : Nat → Nat
  | 0 => 0
  | k + 1 => if l.getD k 0 < l.getD (leastAt l k) 0 then k else leastAt l k
theorem leastAt_lt (l : List Int) : ∀ k, 0 < k → leastAt l k < k
  | 0, h => absurd h (by omega)
  | 1, _ => by simp [leastAt]
  | k + 2, _ => by
    have h := leastAt_lt l (k + 1) (by omega)
    unfold leastAt
    split <;> omega
theorem leastAt_lt' (l : List Int) (k n : Nat) (h : k ≤ n) (hn : 0 < n) : leastAt l k < n := by
  cases k with
  | zero => exact hn
  | succ k => have := leastAt_lt l (k + 1) (by omega); omega
theorem leastAt_one (l : List Int) : leastAt l 1 = 0 := by simp [leastAt]
/-- What Least answers. -/
def leastR (l : List Int) : Int × Int × Int := if 16384 < l.length then (0, 0, 2) else if l = [] then (0, 0, 5) else ((leastAt l l.length : Int), l.getD (leastAt l l.length) 0, 0)
set_option maxHeartbeats 400000 in
theorem least_some (b off cap : Nat) (l : List Int) (w : World) (hlen : l.length ≤ 16384) (hpos : 0 < l.length) (hc : ∀ j, j < l.length → w.cell? ⟨b, off + j, none⟩ = some (.int .u64 (l.getD j 0))) :
    Calls Tryd.prog 9 #[.slice (some ⟨b, off, none⟩) l.length cap] w fun e w' => e = .returned (.tuple #[.int .i64 (leastAt l l.length), .int .u64 (l.getD (leastAt l l.length) 0), .int .i64 0]) ∧ ∃ n, w' = w.drewN n := by
  have HC : Hid (∀ j, j < l.length → w.cell? ⟨b, off + j, none⟩ = some (.int .u64 (l.getD j 0))) := hc
  clear hc
  have h1 : ¬ (16384 : Int) < l.length := by omega
  have h2 : ((l.length : Int) == 0) = false := beq_eq_false_iff_ne.2 (by omega)
  go_enter Tryd.func9, Tryd.ntmps9
  go_wp2_with fail
  go_loopw [2, 14] (fun a i wr => ∃ k n : Nat, k ≤ l.length ∧ i = .int .i64 k ∧ a = .int .i64 (leastAt l k) ∧ wr = w.drewN n) (fun _ i _ => l.length - (intOf i).toNat)
  case atStart => exact ⟨0, 0, Nat.zero_le _, rfl, rfl, rfl⟩
  case round =>
    obtain ⟨k, n, hk, rfl, rfl, rfl⟩ := hrel
    by_cases hlt : k < l.length
    · have hm := leastAt_lt' l k l.length hk hpos
      have c1 := HC.out k hlt
      have c2 := HC.out _ hm
      have HS : Hid (leastAt l (k + 1) = if l.getD k 0 < l.getD (leastAt l k) 0 then k else leastAt l k) := rfl
      generalize leastAt l k = m at *
      generalize l.getD k 0 = x at *
      generalize l.getD m 0 = y at *
      by_cases hxy : x < y
      · go_wp2_with fail
        go_quiet (fail)
        go_wp2_with fail
        exact ⟨⟨k + 1, _, by omega, by go_num, by rw [HS.out, if_pos hxy], rfl⟩, by simp [intOf]; omega⟩
      · have hyx : ¬ x < y := hxy
        go_wp2_with fail
        go_quiet (fail)
        go_wp2_with fail
        exact ⟨⟨k + 1, _, by omega, by go_num, by rw [HS.out, if_neg (by omega)], rfl⟩, by simp [intOf]; omega⟩
    · have hkl : k = l.length := by omega
      subst hkl
      have hm := leastAt_lt' l l.length l.length hk hpos
      have c2 := HC.out _ hm
      obtain ⟨m, HM⟩ : ∃ m, Hid (leastAt l l.length = m) := ⟨_, rfl⟩
      rw [HM.out] at hm c2 ⊢
      obtain ⟨y, HY⟩ : ∃ y, Hid (l.getD m 0 = y) := ⟨_, rfl⟩
      rw [HY.out] at c2
      go_wp2_with fail
      go_quiet (fail)
      go_wp2_with fail
      go_ret3
      exact ⟨by rw [HM.out, HY.out]; rfl, n + nq, by rw [World.drewN_drewN]⟩
set_option maxHeartbeats 400000 in
theorem least_long (a : Option Addr) (n cap : Nat) (w : World) (hn : 16384 < n) (hn' : n ≤ 9223372036854775807) :
    Calls Tryd.prog 9 #[.slice a n cap] w fun e w' => e = .returned (.tuple #[.int .i64 0, .int .u64 0, .int .i64 2]) ∧ w' = w := by
  have h1 : (16384 : Int) < n := by omega
  go_enter Tryd.func9, Tryd.ntmps9
  go_wp2_with fail
  go_ret3
  exact ⟨rfl, rfl⟩
set_option maxHeartbeats 400000 in
theorem least_none (a : Option Addr) (cap : Nat) (w : World) :
    Calls Tryd.prog 9 #[.slice a 0 cap] w fun e w' => e = .returned (.tuple #[.int .i64 0, .int .u64 0, .int .i64 5]) ∧ w' = w := by
  go_enter Tryd.func9, Tryd.ntmps9
  go_wp2_with fail
  go_ret3
  exact ⟨rfl, rfl⟩
theorem least_any (a : Option Addr) (l : List Int) (cap : Nat) (w : World) (hlen : l.length ≤ 9223372036854775807) (hr : Row w a l) :
    Calls Tryd.prog 9 #[.slice a l.length cap] w fun e w' => e = .returned (.tuple #[.int .i64 (leastR l).1, .int .u64 (leastR l).2.1, .int .i64 (leastR l).2.2]) ∧ ∃ n, w' = w.drewN n := by
  by_cases h : 16384 < l.length
  · rw [show leastR l = (0, 0, 2) from if_pos h]
    refine (least_long a l.length cap w h hlen).mono ?_
    rintro e w1 ⟨rfl, rfl⟩
    exact ⟨rfl, 0, rfl⟩
  · rcases hr with rfl | ⟨b, off, rfl, hc⟩
    · rw [show leastR [] = (0, 0, 5) from rfl]
      refine (least_none a cap w).mono ?_
      rintro e w1 ⟨rfl, rfl⟩
      exact ⟨rfl, 0, rfl⟩
    · by_cases h0 : l = []
      · subst h0
        rw [show leastR [] = (0, 0, 5) from rfl]
        refine (least_none _ cap w).mono ?_
        rintro e w1 ⟨rfl, rfl⟩
        exact ⟨rfl, 0, rfl⟩
      · have hR : leastR l = ((leastAt l l.length : Int), l.getD (leastAt l l.length) 0, 0) := by unfold leastR; rw [if_neg h, if_neg h0]
        rw [hR]
        exact least_some b off cap l w (by omega) (List.length_pos_iff.2 h0) hc
end Go.Proofs.YtcpbnmboeafloabDoor
