/-
  Sizes are what they are called; labels cut up.
-/
import Derived.Test.YtpmjbeiclmllmaaGreatRgtM
namespace Go.Proofs.YtpmjbeiclmllmaaGreat
open Go.RowKit
theorem szS_len (S : List Nat) (x : Nat) : (szS S x).length = if x = S.length then S.length + 1 else S.length := by
  unfold szS
  split <;> simp
theorem ints_take (L : List Nat) (k : Nat) : (ints L).take k = ints (L.take k) := by simp [ints, List.map_take]
theorem getD_app_lt {S : List Nat} {j x : Nat} (h : j < S.length) : (S ++ [x]).getD j 0 = S.getD j 0 := by simp [List.getD, List.getElem?_append_left h]
theorem getD_out {S : List Nat} {j : Nat} (h : S.length ≤ j) : S.getD j 0 = 0 := by simp [List.getD, List.getElem?_eq_none h]
theorem getD_setN {S : List Nat} {k j x : Nat} (hk : k < S.length) : (S.set k x).getD j 0 = if j = k then x else S.getD j 0 := by
  by_cases e : j = k
  · subst e; simp [List.getD, hk]
  · rw [if_neg e]; simp [List.getD, List.getElem?_set_ne (Ne.symm e)]
theorem szS_at {S : List Nat} {x : Nat} (hx : x ≤ S.length) (j : Nat) : (szS S x).getD j 0 = S.getD j 0 + (if j = x then 1 else 0) := by
  unfold szS
  by_cases e : x = S.length
  · rw [if_pos e]
    by_cases e2 : j = x
    · rw [if_pos e2, e2, e, getD_end, getD_out (Nat.le_refl _)]
    · rw [if_neg e2]
      rcases Nat.lt_or_ge j S.length with h | h
      · rw [getD_app_lt h]; omega
      · rw [getD_out h, getD_out (by rw [List.length_append]; simp; omega)]
  · rw [if_neg e, getD_setN (by omega)]
    by_cases e2 : j = x
    · subst e2; rw [if_pos rfl, if_pos rfl]
    · rw [if_neg e2, if_neg e2]; omega
/-- Right labels come no later than next. -/
theorem tdy_next {xs : List Int} : ∀ j k, k + j = xs.length → tdy (xs.drop k) ((szL (xs.take k)).length : Nat) = true → ∀ i, k ≤ i → i < xs.length → 0 ≤ xs.getD i 0 ∧ (xs.getD i 0).toNat ≤ (szL (xs.take i)).length
  | 0, k, e, _ => fun i h1 h2 => by omega
  | j + 1, k, e, h => by
    have hk : k < xs.length := by omega
    rw [drop_getI hk] at h
    simp only [tdy] at h
    split at h
    · cases h
    · rename_i hx
      intro i h1 h2
      by_cases e2 : i = k
      · subst e2; exact ⟨by omega, by omega⟩
      · refine tdy_next j (k + 1) (by omega) ?_ i (by omega) h2
        rw [take_snocI hk, szL_snoc, szS_len]
        by_cases e3 : xs.getD k 0 = ((szL (xs.take k)).length : Nat)
        · rw [if_pos e3] at h
          rw [if_pos (by omega)]
          exact h
        · rw [if_neg e3] at h
          rw [if_neg (by omega)]
          exact h
theorem right_next {xs : List Int} (h : tdy xs 0 = true) : ∀ i, i < xs.length → 0 ≤ xs.getD i 0 ∧ (xs.getD i 0).toNat ≤ (szL (xs.take i)).length := fun i hi => tdy_next xs.length 0 (by omega) h i (Nat.zero_le _) hi
theorem szL_length (xs : List Int) : (szL xs).length ≤ xs.length := by
  have : ∀ (xs : List Int) (S : List Nat), (xs.foldl (fun S x => szS S x.toNat) S).length ≤ S.length + xs.length := by
    intro xs
    induction xs with
    | nil => intro S; exact Nat.le_refl _
    | cons x r ih =>
      intro S
      have h := ih (szS S x.toNat)
      rw [szS_len] at h
      simp only [List.foldl_cons, List.length_cons]
      split at h <;> omega
  have h := this xs []
  simpa [szL] using h
end Go.Proofs.YtpmjbeiclmllmaaGreat
