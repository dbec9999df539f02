/-
  Contracts of the book's SpoilDists and KeptDists: the first writes a mark into all room of a list of one's own; the second tells whether a lent list is as it was.
-/
import Derived.Test.YtcpbnmboeafloaaDoorLend
import Derived.Test.YtcpbnmboeafloaaDoorSame
namespace Go.Proofs.YtcpbnmboeafloaaDoor
open Go.RowKit
set_option maxHeartbeats 400000 in
theorem spoil_none (a : Option Addr) (x : Int) (w : World) :
    Calls Tryd.prog 23 #[.slice a 0 0, .int .u64 x] w fun e w' => e = .returned (.tuple #[]) ∧ w' = w := by
  go_enter Tryd.func23, Tryd.ntmps23
  go_wp2_with fail
  refine wp_loop_rounds 1 ?_
  rw [rounds_succ]
  go_wp2_with fail
  go_end0
  exact ⟨rfl, rfl⟩
set_option maxHeartbeats 400000 in
theorem spoil_some (g n B : Nat) (x : Int) (xs : List Value) (w : World) (hn : n ≤ 9223372036854775807) (hown : w.ownsRow B 23 1 (.slice (some ⟨g, 0, none⟩) n n) n xs) :
    Calls Tryd.prog 23 #[.slice (some ⟨g, 0, none⟩) n n, .int .u64 x] w fun e w' => e = .returned (.tuple #[]) ∧ Below B w w' := by
  have hgB : B ≤ g := (hown.lt g rfl).1
  go_enter Tryd.func23, Tryd.ntmps23
  go_wp2_with fail
  go_loopw [4] (fun i wr => ∃ (k : Nat) (xs : List Value), k ≤ n ∧ i = .int .i64 k ∧ wr.ownsRow B 23 1 (.slice (some ⟨g, 0, none⟩) n n) n xs ∧ Below B w wr) (fun i _ => n - (intOf i).toNat)
  case atStart => exact ⟨0, xs, Nat.zero_le _, rfl, hown, Below.refl _ _⟩
  case round =>
    obtain ⟨k, ys, hk, rfl, ho, hbel⟩ := hrel
    by_cases hlt : k < n
    · have hyl : k < ys.length := by have := ho.1; omega
      have c2 : wr.cell? ⟨g, k, none⟩ = some ys[k] := (ho.cellAt k (by omega)).trans (List.getElem?_eq_getElem hyl)
      have f2 : wr.frozen? ⟨g, k, none⟩ = false := ho.frozenAt k
      generalize ys[k] = y at c2
      have hst := ho.stored k (.int .u64 x)
      have HS := Lib.hid hst
      clear hst
      go_wp2_with fail
      exact ⟨⟨k + 1, _, by omega, by go_num, HS.out.1, hbel.setCell hgB _⟩, by simp [intOf]; omega⟩
    · go_wp2_with fail
      go_end0
      exact ⟨rfl, hbel⟩
/-- What a lent list's room holds. -/
theorem lent_cells {w : World} {B g c : Nat} {l : List Int} (hown : w.ownsRow B 23 1 (.slice (some ⟨g, 0, none⟩) (l.length + 1) c) (l.length + 1) (cellsD l ++ [.int .u64 77])) :
    (∀ j, j < l.length → w.cell? ⟨g, 0 + j, none⟩ = some (.int .u64 (l.getD j 0))) ∧ w.cell? ⟨g, l.length, none⟩ = some (.int .u64 77) := by
  constructor
  · intro j hj
    rw [Nat.zero_add, hown.cellAt j (by omega), List.getElem?_append_left (by rw [cellsD_len]; exact hj)]
    unfold cellsD
    simp [List.getD, List.getElem?_eq_getElem hj]
  · rw [hown.cellAt l.length (by omega), List.getElem?_append_right (by rw [cellsD_len]; exact Nat.le_refl _), cellsD_len, Nat.sub_self]
    rfl
set_option maxHeartbeats 400000 in
theorem kept_any (g c : Nat) (a : Option Addr) (cap : Nat) (l : List Int) (w : World) (hlen : l.length < 9223372036854775807) (hc : l.length < c) (hcells : ∀ j, j < l.length → w.cell? ⟨g, 0 + j, none⟩ = some (.int .u64 (l.getD j 0))) (hmark : w.cell? ⟨g, l.length, none⟩ = some (.int .u64 77)) (hr : Row w a l) :
    Calls Tryd.prog 24 #[.slice (some ⟨g, 0, none⟩) l.length c, .slice a l.length cap] w fun e w' => e = .returned (.bool true) ∧ ∃ n, w' = w.drewN n := by
  have HS : Hid (∀ w', w' = w → Calls Tryd.prog 20 #[.slice (some ⟨g, 0, none⟩) l.length c, .slice a l.length cap] w' fun e w'' => e = .returned (.bool true) ∧ ∃ n, w'' = w.drewN n) := fun w' hw => by
    subst hw
    exact same_any (some ⟨g, 0, none⟩) a c cap l w' (by omega) (Or.inr ⟨g, 0, rfl, hcells⟩) hr
  clear hcells
  go_enter Tryd.func24, Tryd.ntmps24
  go_wp2_with fail
  refine (HS.out _ rfl).mono ?_
  rintro e w1 ⟨rfl, n, rfl⟩
  go_wp2_with fail
  go_ret
  exact ⟨rfl, n, rfl⟩
end Go.Proofs.YtcpbnmboeafloaaDoor
