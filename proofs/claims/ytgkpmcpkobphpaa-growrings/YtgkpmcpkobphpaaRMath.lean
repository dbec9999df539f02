/-
  The reference's neighbours are the growth's.
-/
import Derived.Test.YtgkpmcpkobphpaaRAll
import Derived.Test.YtgkpmcpkobphpaaRNear
import Derived.Test.YtgkpmcpkobphpaaOrd
namespace Go.Proofs.Ytgkpmcpkobphpaa
open Go.RowKit
theorem nr_adj {l : List A} (hpo : ∀ x, x ∈ l → 0 ≤ x.f ∧ 0 ≤ x.t) (v u : Nat) : nr l v u = adjF (edl l) (2 * l.length) v 0 u := by
  rw [Bool.eq_iff_iff, adjF_iff]
  unfold nr
  rw [List.any_eq_true]
  constructor
  · rintro ⟨x, hx, h⟩
    obtain ⟨j, hj, rfl⟩ := List.mem_iff_getElem.1 hx
    have hp := hpo _ hx
    have he := edl_at hj
    rw [show l.getD j A.zero = l[j] by simp [List.getD, List.getElem?_eq_getElem hj]] at he
    simp only [Bool.or_eq_true, Bool.and_eq_true, beq_iff_eq] at h
    rcases h with ⟨h1, h2⟩ | ⟨h1, h2⟩
    · refine ⟨2 * j, Nat.zero_le _, by omega, ?_, ?_⟩
      · unfold frm; rw [if_pos (by omega), show 2 * j / 2 = j by omega, he]; show l[j].f.toNat = v; omega
      · unfold tto; rw [if_pos (by omega), show 2 * j / 2 = j by omega, he]; show l[j].t.toNat = u; omega
    · refine ⟨2 * j + 1, Nat.zero_le _, by omega, ?_, ?_⟩
      · unfold frm; rw [if_neg (by omega), show (2 * j + 1) / 2 = j by omega, he]; show l[j].t.toNat = v; omega
      · unfold tto; rw [if_neg (by omega), show (2 * j + 1) / 2 = j by omega, he]; show l[j].f.toNat = u; omega
  · rintro ⟨k, _, hk, h1, h2⟩
    have hj : k / 2 < l.length := by omega
    have hx : l.getD (k / 2) A.zero ∈ l := by simp [List.getD, List.getElem?_eq_getElem hj]
    have hp := hpo _ hx
    have he := edl_at hj
    refine ⟨l.getD (k / 2) A.zero, hx, ?_⟩
    unfold frm at h1
    unfold tto at h2
    rw [he] at h1 h2
    generalize l.getD (k / 2) A.zero = x at *
    simp only [Bool.or_eq_true, Bool.and_eq_true, beq_iff_eq]
    by_cases e : k % 2 = 0
    · rw [if_pos e] at h1 h2
      have h1 : x.f.toNat = v := h1
      have h2 : x.t.toNat = u := h2
      left; omega
    · rw [if_neg e] at h1 h2
      have h1 : x.t.toNat = v := h1
      have h2 : x.f.toNat = u := h2
      right; omega
/-- The neighbours of v, rising. -/
def nbl (l : List A) (N v : Nat) : List Nat := allk (fun u => nr l v u && !decide (u = v)) N
theorem mem_nbl {l : List A} {N v u : Nat} : u ∈ nbl l N v ↔ u < N ∧ nr l v u = true ∧ u ≠ v := by
  unfold nbl allk
  simp [List.mem_filter]
theorem nbl_nodup (l : List A) (N v : Nat) : (nbl l N v).Nodup := List.Pairwise.filter _ List.nodup_range
theorem ext_nbl {l : List A} (hpo : ∀ x, x ∈ l → 0 ≤ x.f ∧ 0 ≤ x.t) {N v : Nat} {S : Nat → Bool} (hv : S v = true) : (nbl l N v).filter (fun u => !S u) = ext (edl l) (2 * l.length) N S v := by
  unfold nbl allk ext
  rw [List.filter_filter]
  apply List.filter_congr
  intro u _
  rw [nr_adj hpo]
  by_cases e : u = v
  · subst e; simp [hv]
  · simp [e]
theorem seen_nbl {l : List A} (hpo : ∀ x, x ∈ l → 0 ≤ x.f ∧ 0 ≤ x.t) {N v : Nat} {S : Nat → Bool} (hv : S v = true) {u : Nat} (hu : u < N) : (S u || decide (u ∈ nbl l N v)) = (S u || adjF (edl l) (2 * l.length) v 0 u) := by
  rw [← nr_adj hpo]
  by_cases e : u = v
  · subst e; simp [hv]
  · congr 1
    rw [Bool.eq_iff_iff]
    simp [mem_nbl, hu, e]
end Go.Proofs.Ytgkpmcpkobphpaa
