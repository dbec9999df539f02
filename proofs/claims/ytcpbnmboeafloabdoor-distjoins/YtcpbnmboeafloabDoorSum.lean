/-
  Contracts of dist.Sum and the reference's Sum: the members of the list added one behind the other; the world stays.
-/
import Derived.Test.YtcpbnmboeafloabDoorAdd
namespace Go.Proofs.YtcpbnmboeafloabDoor
open Go.RowKit
/-- All members, added one behind the other. -/
def sumD (l : List Int) : Int := l.foldl addD 0
theorem sumD_nil : sumD [] = 0 := rfl
theorem sumD_take (l : List Int) (k : Nat) (hk : k < l.length) : sumD (l.take (k + 1)) = addD (sumD (l.take k)) (l.getD k 0) := by
  unfold sumD
  rw [List.take_add_one, List.foldl_append]
  simp [List.getD, List.getElem?_eq_getElem hk]
/-- All members are distances. -/
def Dists (l : List Int) : Prop := ∀ x ∈ l, 0 ≤ x ∧ x ≤ 18446744073709551615
theorem Dists.getD {l : List Int} (h : Dists l) (k : Nat) : 0 ≤ l.getD k 0 ∧ l.getD k 0 ≤ 18446744073709551615 := by
  by_cases hk : k < l.length
  · have e : l.getD k 0 = l[k] := by simp [List.getD, List.getElem?_eq_getElem hk]
    rw [e]; exact h _ (List.getElem_mem hk)
  · have e : l.getD k 0 = 0 := by simp [List.getD, List.getElem?_eq_none (Nat.le_of_not_lt hk)]
    rw [e]; decide
theorem Dists.take {l : List Int} (h : Dists l) (k : Nat) : Dists (l.take k) := fun x hx => h x (List.mem_of_mem_take hx)
theorem fold_bounds : ∀ (l : List Int) (a : Int), 0 ≤ a → a ≤ 18446744073709551615 → Dists l → 0 ≤ l.foldl addD a ∧ l.foldl addD a ≤ 18446744073709551615
  | [], _, h0, h1, _ => ⟨h0, h1⟩
  | x :: r, a, h0, _, hl => fold_bounds r (addD a x) (addD_nonneg h0 (hl x List.mem_cons_self).1) (addD_le a x) (fun y hy => hl y (List.mem_cons_of_mem _ hy))
theorem sumD_bounds {l : List Int} (h : Dists l) : 0 ≤ sumD l ∧ sumD l ≤ 18446744073709551615 := fold_bounds l 0 (by omega) (by omega) h
/-- The members of a slice lie so in memory. -/
def Row (w : World) (a : Option Addr) (l : List Int) : Prop :=
  l = [] ∨ ∃ b off, a = some ⟨b, off, none⟩ ∧ ∀ j, j < l.length → w.cell? ⟨b, off + j, none⟩ = some (.int .u64 (l.getD j 0))
set_option maxHeartbeats 400000 in
theorem sum_any (a : Option Addr) (l : List Int) (cap : Nat) (w : World) (hl : Dists l) (hlen : l.length ≤ 9223372036854775807) (hr : Row w a l) :
    Calls Tryd.prog 7 #[.slice a l.length cap] w fun e w' => e = .returned (.int .u64 (sumD l)) ∧ w' = w := by
  rcases hr with rfl | ⟨b, off, rfl, hc⟩
  · go_enter Tryd.func7, Tryd.ntmps7
    go_wp2_with fail
    go_loop [3, 8] (fun t i => i = .int .i64 0 ∧ t = .int .u64 0) (fun _ _ => 0)
    case atStart => exact ⟨rfl, rfl⟩
    case round =>
      obtain ⟨rfl, rfl⟩ := hrel
      go_wp2_with fail
      go_ret
      exact ⟨rfl, rfl⟩
  · have HC : Hid (∀ j, j < l.length → w.cell? ⟨b, off + j, none⟩ = some (.int .u64 (l.getD j 0))) := hc
    clear hc
    go_enter Tryd.func7, Tryd.ntmps7
    go_wp2_with fail
    go_loop [3, 8] (fun t i => ∃ k : Nat, k ≤ l.length ∧ i = .int .i64 k ∧ t = .int .u64 (sumD (l.take k))) (fun _ i => l.length - (intOf i).toNat)
    case atStart => exact ⟨0, Nat.zero_le _, rfl, rfl⟩
    case round =>
      obtain ⟨k, hk, rfl, rfl⟩ := hrel
      by_cases hlt : k < l.length
      · have hcell := HC.out k hlt
        have hb := hl.getD k
        have hs := sumD_bounds (hl.take k)
        have HT : Hid (sumD (l.take (k + 1)) = addD (sumD (l.take k)) (l.getD k 0)) := sumD_take l k hlt
        generalize l.getD k 0 = x at *
        generalize sumD (l.take k) = s at *
        go_wp2_with fail
        refine (add_any _ _ hs.1 hs.2 hb.1 hb.2 _).mono ?_
        rintro e w1 ⟨rfl, rfl⟩
        go_wp2_with fail
        go_round
        case rel => exact ⟨k + 1, by omega, by go_num, by rw [HT.out]⟩
        case measure => simp [intOf]; omega
      · have HK : Hid (sumD (l.take k) = sumD l) := (by rw [List.take_of_length_le (by omega)] : sumD (l.take k) = sumD l)
        go_wp2_with fail
        go_ret
        exact ⟨by rw [HK.out]; rfl, rfl⟩
end Go.Proofs.YtcpbnmboeafloabDoor
