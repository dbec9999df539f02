/-
  The order in which a growth comes upon vertices.
-/
import Derived.Test.YtpgadcacimjlaaaExMath
namespace Go.Proofs.Ytpgadcacimjlaaa
open Go.RowKit
/-- The list and what has been seen when k vertices have been left. -/
def gro (E : List Ed) (M N : Nat) (S : Nat → Bool) (c : Nat) : Nat → List Nat × (Nat → Bool)
  | 0 => ([c], fun u => S u || decide (u = c))
  | k + 1 => if k < (gro E M N S c k).1.length then ((gro E M N S c k).1 ++ ext E M N (gro E M N S c k).2 ((gro E M N S c k).1.getD k 0), fun u => (gro E M N S c k).2 u || adjF E M ((gro E M N S c k).1.getD k 0) 0 u) else gro E M N S c k
/-- All that is reached, in the order in which it is come upon. -/
def whole (E : List Ed) (M N : Nat) (S : Nat → Bool) (c : Nat) : List Nat := (gro E M N S c N).1
theorem gro_go {E : List Ed} {M N : Nat} {S : Nat → Bool} {c k : Nat} (h : k < (gro E M N S c k).1.length) : gro E M N S c (k + 1) = ((gro E M N S c k).1 ++ ext E M N (gro E M N S c k).2 ((gro E M N S c k).1.getD k 0), fun u => (gro E M N S c k).2 u || adjF E M ((gro E M N S c k).1.getD k 0) 0 u) := by
  simp only [gro]
  rw [if_pos h]
theorem gro_end {E : List Ed} {M N : Nat} {S : Nat → Bool} {c k : Nat} (h : (gro E M N S c k).1.length ≤ k) : ∀ j, gro E M N S c (k + j) = gro E M N S c k
  | 0 => rfl
  | j + 1 => by
    have ih := gro_end h j
    show gro E M N S c (k + j + 1) = _
    simp only [gro]
    rw [if_neg (by rw [ih]; omega), ih]
theorem gro_pre {E : List Ed} {M N : Nat} {S : Nat → Bool} {c k : Nat} : ∀ j, (gro E M N S c k).1 <+: (gro E M N S c (k + j)).1
  | 0 => List.prefix_refl _
  | j + 1 => by
    refine (gro_pre j).trans ?_
    show _ <+: (gro E M N S c (k + j + 1)).1
    simp only [gro]
    split
    · exact List.prefix_append _ _
    · exact List.prefix_refl _
structure Gi (N : Nat) (S : Nat → Bool) (p : List Nat × (Nat → Bool)) : Prop where
  nd : p.1.Nodup
  lt : ∀ u, u ∈ p.1 → u < N
  sn : ∀ u, u ∈ p.1 → p.2 u = true
theorem gro_inv {E : List Ed} {M N : Nat} {S : Nat → Bool} {c : Nat} (hc : c < N) : ∀ k, Gi N S (gro E M N S c k)
  | 0 => ⟨by simp [gro], fun u hu => by simp [gro] at hu; omega, fun u hu => by simp [gro] at hu ⊢; exact .inr hu⟩
  | k + 1 => by
    have ih := gro_inv hc k (E := E) (M := M) (S := S)
    by_cases h : k < (gro E M N S c k).1.length
    · rw [gro_go h]
      refine ⟨?_, ?_, ?_⟩
      · rw [List.nodup_append]
        refine ⟨ih.nd, ext_nodup _ _ _ _ _, fun a ha b hb => ?_⟩
        rintro rfl
        have h1 := ih.sn a ha
        have h2 := (mem_ext.1 hb).2.1
        rw [h1] at h2
        cases h2
      · intro u hu
        rcases List.mem_append.1 hu with hu | hu
        · exact ih.lt u hu
        · exact (mem_ext.1 hu).1
      · intro u hu
        rcases List.mem_append.1 hu with hu | hu
        · simp [ih.sn u hu]
        · show (_ || _) = true
          rw [(mem_ext.1 hu).2.2, Bool.or_true]
    · have : gro E M N S c (k + 1) = gro E M N S c k := by simp only [gro]; rw [if_neg h]
      rw [this]; exact ih
theorem gro_short {E : List Ed} {M N : Nat} {S : Nat → Bool} {c : Nat} (hc : c < N) (k : Nat) : (gro E M N S c k).1.length ≤ N := nodup_short (gro_inv hc k).nd (gro_inv hc k).lt
theorem gro_at {E : List Ed} {M N : Nat} {S : Nat → Bool} {c k : Nat} (hc : c < N) (h : k < (gro E M N S c k).1.length) : (gro E M N S c k).1.getD k 0 < N := (gro_inv (E := E) (M := M) (S := S) hc k).lt _ (by simp [List.getD, List.getElem?_eq_getElem h])
/-- What has come when k vertices have been left. -/
def came (E : List Ed) (M N : Nat) (S : Nat → Bool) (c k : Nat) : List Nat := (gro E M N S c k).1.take k
theorem came_zero (E : List Ed) (M N : Nat) (S : Nat → Bool) (c : Nat) : came E M N S c 0 = [] := by simp [came]
theorem take_snoc {p : List Nat} {k : Nat} (h : k < p.length) : p.take (k + 1) = p.take k ++ [p.getD k 0] := by
  rw [List.take_succ_eq_append_getElem h]
  simp [List.getD, List.getElem?_eq_getElem h]
theorem came_succ {E : List Ed} {M N : Nat} {S : Nat → Bool} {c k : Nat} (h : k < (gro E M N S c k).1.length) : came E M N S c (k + 1) = came E M N S c k ++ [(gro E M N S c k).1.getD k 0] := by
  unfold came
  rw [gro_go h, ← take_snoc h]
  exact List.take_append_of_le_length h
theorem came_pre {E : List Ed} {M N : Nat} {S : Nat → Bool} {c k : Nat} (hc : c < N) (h : k < (gro E M N S c k).1.length) : came E M N S c k ++ [(gro E M N S c k).1.getD k 0] <+: whole E M N S c := by
  have hk : k < N := Nat.lt_of_lt_of_le h (gro_short hc k)
  unfold came
  rw [← take_snoc h]
  refine (List.take_prefix _ _).trans ?_
  have := gro_pre (E := E) (M := M) (N := N) (S := S) (c := c) (k := k) (N - k)
  rwa [show k + (N - k) = N by omega] at this
theorem came_all {E : List Ed} {M N : Nat} {S : Nat → Bool} {c k : Nat} (hc : c < N) (hk : k ≤ (gro E M N S c k).1.length) (h : ¬ k < (gro E M N S c k).1.length) : came E M N S c k = whole E M N S c ∧ gro E M N S c k = gro E M N S c N := by
  have hn : (gro E M N S c k).1.length ≤ k := by omega
  have hkN : k ≤ N := Nat.le_trans hk (gro_short hc k)
  have := gro_end hn (N - k)
  rw [show k + (N - k) = N by omega] at this
  refine ⟨?_, this.symm⟩
  unfold came whole
  rw [this]
  exact List.take_of_length_le hn
end Go.Proofs.Ytpgadcacimjlaaa
