/-
  Contract of slices.Reverse, over a row of one's own.
-/
import Derived.Test.YtomlmphdnoempabTabs
import Derived.BigRegion
namespace Go.Proofs.Ytomlmphdnoempab
open Go.RowKit
open Hp (Fr)
/-- Numbers in a row of one's own. -/
def OwnR (w : World) (B g c : Nat) (xs : List Int) : Prop := w.ownsRow B 3 1 (.slice (some ⟨g, 0, none⟩) xs.length c) xs.length (cellsI xs)
theorem OwnR.cell {w : World} {B g c : Nat} {xs : List Int} (h : OwnR w B g c xs) {k : Nat} (hk : k < xs.length) : w.cell? ⟨g, k, none⟩ = some (.int .i64 (xs.getD k 0)) := by
  rw [World.ownsRow.cellAt h k (by omega), cellsI_getD _ k hk]
theorem OwnR.free {w : World} {B g c : Nat} {xs : List Int} (h : OwnR w B g c xs) (k : Nat) : w.frozen? ⟨g, k, none⟩ = false := World.ownsRow.frozenAt h k
theorem OwnR.set {w : World} {B g c : Nat} {xs : List Int} (h : OwnR w B g c xs) (k : Nat) (x : Int) : OwnR (w.setCell ⟨g, k, none⟩ (.int .i64 x)) B g c (xs.set k x) := by
  have := (World.ownsRow.stored h k (.int .i64 x)).1
  rw [cellsI_set] at this
  unfold OwnR
  rw [List.length_set]
  exact this
theorem getI_set (xs : List Int) (k j : Nat) (x : Int) (hk : k < xs.length) : (xs.set k x).getD j 0 = if j = k then x else xs.getD j 0 := by
  rw [List.getD_eq_getElem?_getD, List.getElem?_set]
  by_cases e : k = j
  · subst e; simp [hk]
  · rw [if_neg e, if_neg (fun h => e h.symm), List.getD_eq_getElem?_getD]
theorem rev_ext {xs Y : List Int} (h1 : Y.length = xs.length) (h2 : ∀ x, x < xs.length → Y.getD x 0 = xs.getD (xs.length - 1 - x) 0) : Y = xs.reverse := by
  apply List.ext_getElem
  · simp [h1]
  · intro i a b
    have := h2 i (by omega)
    rw [List.getElem_reverse]
    simpa [List.getD_eq_getElem?_getD, a, show xs.length - 1 - i < xs.length by omega] using this
set_option maxHeartbeats 1600000 in
theorem reverse_own (B g c : Nat) (xs : List Int) (hn : xs.length ≤ 100000) (w : World) (h : OwnR w B g c xs) :
    Calls Try.prog 32 #[.slice (some ⟨g, 0, none⟩) xs.length c] w fun e w' => e = .returned (.tuple #[]) ∧ OwnR w' B g c xs.reverse ∧ Fr (fun k => k = g) w w' := by
  obtain ⟨n, HN⟩ := named xs.length
  have HOWN := Lib.hid h
  rw [HN.out] at hn ⊢
  clear h
  go_enter Try.func32, Try.ntmps32
  go_wp2_with fail
  go_loopw [2, 3] (fun i j wr => ∃ (k : Nat) (Y : List Int), 2 * k ≤ n + 1 ∧ i = .int .i64 k ∧ j = .int .i64 ((n : Int) - 1 - k) ∧ Hid (Y.length = n) ∧ Hid (∀ x, x < n → Y.getD x 0 = if x < k ∨ n - k ≤ x then xs.getD (n - 1 - x) 0 else xs.getD x 0) ∧ Hid (OwnR wr B g c Y) ∧ Fr (fun k => k = g) w wr) (fun i _ _ => n - (intOf i).toNat)
  case atStart => exact ⟨0, xs, by omega, rfl, by simp, HN.out, fun x hx => by rw [if_neg (by omega)], HOWN.out, Hp.Fr.refl _ _⟩
  case round =>
    obtain ⟨k, Y, hk, rfl, rfl, hl, hy, ho, hf⟩ := hrel
    by_cases hlt : (k : Int) < (n : Int) - 1 - k
    · obtain ⟨j, hj⟩ : ∃ j : Nat, (n : Int) - 1 - k = j := ⟨n - 1 - k, by omega⟩
      have HJ : Hid (j + k + 1 = n) := by show _ = _; omega
      have hjn : j < n := by omega
      have hkn : k < n := by omega
      have hkj : k < j := by omega
      rw [hj] at *
      have c1 := ho.out.cell (k := k) (by rw [hl.out]; exact hkn)
      have c2 := ho.out.cell (k := j) (by rw [hl.out]; exact hjn)
      have f1 := ho.out.free k
      have f2 := ho.out.free j
      have hjn' : (j : Int) < n := by omega
      have hkn' : (k : Int) < n := by omega
      have hne : k ≠ j := by omega
      have hne' : j ≠ k := by omega
      obtain ⟨vk, HVK⟩ := named (Y.getD k 0)
      obtain ⟨vj, HVJ⟩ := named (Y.getD j 0)
      rw [HVK.out] at c1
      rw [HVJ.out] at c2
      go_wp2_with fail
      go_region
      go_wp2_with fail
      have HO2 := (ho.out.set k vj).set j vk
      refine ⟨⟨k + 1, (Y.set k vj).set j vk, by (have := HJ.out; omega), by go_num, by (have := HJ.out; simp; omega), ?_, ?_, HO2, (((hf.setCell ⟨g, k, none⟩ (.int .i64 vj) (Or.inl rfl)).setCell ⟨g, j, none⟩ (.int .i64 vk) (Or.inl rfl)).drew)⟩, by simp [intOf]; omega⟩
      · show _ = _; simp [hl.out]
      · show ∀ x, _
        intro x hx
        have hjj := HJ.out
        rw [getI_set _ _ _ _ (by simp [hl.out]; exact hjn), getI_set _ _ _ _ (by rw [hl.out]; exact hkn)]
        have hyk := hy.out k hkn
        rw [if_neg (by omega)] at hyk
        have hyj := hy.out j hjn
        rw [if_neg (by omega)] at hyj
        by_cases e1 : x = j
        · subst e1
          rw [if_pos rfl, if_pos (by omega), ← HVK.out, hyk]
          congr 1; omega
        · rw [if_neg e1]
          by_cases e2 : x = k
          · subst e2
            rw [if_pos rfl, if_pos (by omega), ← HVJ.out, hyj]
            congr 1; omega
          · rw [if_neg e2, hy.out x hx]
            by_cases e3 : x < k ∨ n - k ≤ x
            · rw [if_pos e3, if_pos (by omega)]
            · rw [if_neg e3, if_neg (by omega)]
    · have hY : Y = xs.reverse := by
        refine rev_ext (by rw [hl.out, HN.out]) (fun x hx => ?_)
        rw [HN.out] at hx ⊢
        rw [hy.out x hx]
        by_cases e : x < k ∨ n - k ≤ x
        · rw [if_pos e]
        · rw [if_neg e]; congr 1; omega
      rw [hY] at ho
      clear hy hY hl
      go_wp2_with fail
      go_end0
      exact ⟨rfl, ho.out, hf⟩
end Go.Proofs.Ytomlmphdnoempab
