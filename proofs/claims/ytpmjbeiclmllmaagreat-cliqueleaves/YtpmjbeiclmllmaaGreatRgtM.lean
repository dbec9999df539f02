/-
  Labels that are right are their own tidy ones.
-/
import Derived.Test.YtpmjbeiclmllmaaGreatTRTidyI
import Derived.Test.YtpmjbeiclmllmaaGreatSz
namespace Go.Proofs.YtpmjbeiclmllmaaGreat
open Go.RowKit
theorem tdy_labs {R : Nat → Nat} (h : T3.RT R) (n : Nat) : ∀ j k, k + j = n → tdy ((T3.ints (T3.labs R n)).drop k) (T3.cnt R k) = true
  | 0, k, e => by
    rw [List.drop_eq_nil_of_le (by rw [T3.ints_len, T3.labs_len]; omega)]
    rfl
  | j + 1, k, e => by
    have hk : k < (T3.ints (T3.labs R n)).length := by rw [T3.ints_len, T3.labs_len]; omega
    have ih := tdy_labs h n j (k + 1) (by omega)
    rw [drop_getI hk, T3.ints_getD, T3.labs_getD R n k (by omega)]
    simp only [tdy]
    rcases T3.lab_step h k with ⟨h1, h2⟩ | ⟨h1, h2⟩
    · rw [h1, if_neg (by omega), if_pos rfl]
      rw [h2] at ih
      exact ih
    · rw [if_neg (by omega), if_neg (by omega)]
      rw [h2] at ih
      exact ih
/-- The first place of the same number. -/
def fstI (xs : List Int) : Nat → Nat → Nat
  | 0, _ => 0
  | k + 1, v => if fstI xs k v < k then fstI xs k v else if xs.getD k 0 = xs.getD v 0 then k else k + 1
theorem fstI_le (xs : List Int) (v : Nat) : ∀ k, fstI xs k v ≤ k
  | 0 => Nat.le_refl _
  | k + 1 => by
    simp only [fstI]
    split
    · omega
    · split <;> omega
theorem fstI_hit (xs : List Int) (v : Nat) : ∀ k, fstI xs k v < k → xs.getD (fstI xs k v) 0 = xs.getD v 0
  | 0, h => absurd h (by omega)
  | k + 1, h => by
    simp only [fstI] at h ⊢
    split
    · rename_i h1
      exact fstI_hit xs v k h1
    · rename_i h1
      rw [if_neg h1] at h
      split
      · rename_i h2; exact h2
      · rename_i h2
        rw [if_neg h2] at h
        omega
theorem fstI_min (xs : List Int) (v : Nat) : ∀ k u, u < fstI xs k v → xs.getD u 0 ≠ xs.getD v 0
  | 0, u, h => absurd h (by simp [fstI])
  | k + 1, u, h => by
    simp only [fstI] at h
    split at h
    · exact fstI_min xs v k u h
    · rename_i h1
      have h0 := fstI_le xs v k
      have e : fstI xs k v = k := by omega
      split at h
      · exact fstI_min xs v k u (by omega)
      · rename_i h2
        by_cases e2 : u = k
        · subst e2; exact h2
        · exact fstI_min xs v k u (by omega)
/-- Who leads the vertices of a label. -/
def ldI (xs : List Int) (v : Nat) : Nat := fstI xs v v
theorem ldI_le (xs : List Int) (v : Nat) : ldI xs v ≤ v := fstI_le xs v v
theorem ldI_at (xs : List Int) (v : Nat) : xs.getD (ldI xs v) 0 = xs.getD v 0 := by
  rcases Nat.lt_or_ge (ldI xs v) v with h | h
  · exact fstI_hit xs v v h
  · have := ldI_le xs v
    rw [show ldI xs v = v by omega]
theorem ldI_min {xs : List Int} {u v : Nat} (h : u < ldI xs v) : xs.getD u 0 ≠ xs.getD v 0 := fstI_min xs v v u h
theorem ldI_eq {xs : List Int} {u v : Nat} (h : xs.getD u 0 = xs.getD v 0) : ldI xs u = ldI xs v := by
  rcases Nat.lt_trichotomy (ldI xs u) (ldI xs v) with e | e | e
  · exact absurd ((ldI_at xs u).trans h) (ldI_min e)
  · exact e
  · exact absurd ((ldI_at xs v).trans h.symm) (ldI_min e)
theorem ldI_iff {xs : List Int} {u v : Nat} : xs.getD u 0 = xs.getD v 0 ↔ ldI xs u = ldI xs v := by
  refine ⟨ldI_eq, fun h => ?_⟩
  rw [← ldI_at xs u, h, ldI_at]
theorem ldI_RT (xs : List Int) : T3.RT (ldI xs) := ⟨ldI_le xs, fun v => ldI_eq (ldI_at xs v)⟩
theorem tdy_step {xs : List Int} : ∀ j k, k + j = xs.length → tdy (xs.drop k) (T3.cnt (ldI xs) k) = true → (∀ i, i < k → xs.getD i 0 = (T3.lab (ldI xs) i : Nat)) → ∀ i, i < xs.length → xs.getD i 0 = (T3.lab (ldI xs) i : Nat)
  | 0, k, e, _, h => fun i hi => h i (by omega)
  | j + 1, k, e, ht, h => by
    have hk : k < xs.length := by omega
    rw [drop_getI hk] at ht
    simp only [tdy] at ht
    split at ht
    · cases ht
    · rename_i hx
      have hRT := ldI_RT xs
      split at ht
      · rename_i he
        have hkk : ldI xs k = k := by
          rcases Nat.lt_or_ge (ldI xs k) k with h2 | h2
          · have h3 := h _ h2
            rw [ldI_at, he] at h3
            have h4 : T3.lab (ldI xs) (ldI xs k) < T3.cnt (ldI xs) k := by
              unfold T3.lab
              rw [hRT.rr]
              exact T3.cnt_root (hRT.rr k) h2
            omega
          · have := ldI_le xs k
            omega
        refine tdy_step j (k + 1) (by omega) ?_ (fun i hi => ?_)
        · rw [T3.cnt, if_pos hkk]
          exact ht
        · by_cases e2 : i = k
          · subst e2
            rw [he]
            unfold T3.lab
            rw [hkk]
          · exact h i (by omega)
      · rename_i he
        obtain ⟨v, hv1, hv2, hv3⟩ := T3.cnt_find (R := ldI xs) (n := k) (p := (xs.getD k 0).toNat) (by omega)
        have h3 := h v hv1
        have h4 : T3.lab (ldI xs) v = (xs.getD k 0).toNat := by unfold T3.lab; rw [hv2, hv3]
        have h5 : xs.getD v 0 = xs.getD k 0 := by omega
        have h6 := ldI_eq h5
        have hkk : ldI xs k ≠ k := by rw [← h6, hv2]; omega
        refine tdy_step j (k + 1) (by omega) ?_ (fun i hi => ?_)
        · rw [T3.cnt, if_neg hkk]
          exact ht
        · by_cases e2 : i = k
          · subst e2
            unfold T3.lab
            rw [← h6, hv2, hv3]
            omega
          · exact h i (by omega)
theorem tdy_iff (xs : List Int) : tdy xs 0 = true ↔ xs = T3.ints (T3.labs (ldI xs) xs.length) := by
  constructor
  · intro h
    have := tdy_step (xs := xs) xs.length 0 (by omega) h (fun i hi => by omega)
    exact T3.ext_labs rfl this
  · intro h
    have := tdy_labs (ldI_RT xs) xs.length xs.length 0 (by omega)
    rw [List.drop_zero, ← h] at this
    exact this
end Go.Proofs.YtpmjbeiclmllmaaGreat
