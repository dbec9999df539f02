/-
  What one step of a growth adds: the unseen neighbours of a vertex, rising.
-/
import Derived.Test.YtpgadcacimjlaaaSort
namespace Go.Proofs.Ytpgadcacimjlaaa
open Go.RowKit
/-- Some step from b on below M leads from v to u. -/
def adjF (E : List Ed) (M v b u : Nat) : Bool := (List.range M).any (fun k => decide (b ≤ k) && (frm E k == v) && (tto E k == u))
theorem adjF_iff {E : List Ed} {M v b u : Nat} : adjF E M v b u = true ↔ ∃ k, b ≤ k ∧ k < M ∧ frm E k = v ∧ tto E k = u := by
  unfold adjF
  rw [List.any_eq_true]
  constructor
  · rintro ⟨k, hk, h⟩
    simp at hk h
    exact ⟨k, h.1.1, hk, h.1.2, h.2⟩
  · rintro ⟨k, h1, h2, h3, h4⟩
    exact ⟨k, by simpa using h2, by simp [h1, h3, h4]⟩
theorem adjF_top {E : List Ed} {M v u : Nat} : adjF E M v M u = false := by
  rw [Bool.eq_false_iff]
  intro h
  obtain ⟨k, h1, h2, _⟩ := adjF_iff.1 h
  omega
/-- Step k is the last one below b that leaves v. -/
theorem adjF_step {E : List Ed} {M v b k u : Nat} (hk : k < b) (hb : b ≤ M) (hf : frm E k = v) (hn : ∀ j, k < j → j < b → frm E j ≠ v) : adjF E M v k u = (adjF E M v b u || decide (u = tto E k)) := by
  rw [Bool.eq_iff_iff]
  simp only [Bool.or_eq_true, adjF_iff, decide_eq_true_eq]
  constructor
  · rintro ⟨j, h1, h2, h3, h4⟩
    by_cases e : j = k
    · subst e; exact .inr h4.symm
    · by_cases e2 : j < b
      · exact absurd h3 (hn j (by omega) e2)
      · exact .inl ⟨j, by omega, h2, h3, h4⟩
  · rintro (⟨j, h1, h2, h3, h4⟩ | h)
    · exact ⟨j, by omega, h2, h3, h4⟩
    · exact ⟨k, Nat.le_refl _, by omega, hf, h.symm⟩
theorem adjF_end {E : List Ed} {M v b u : Nat} (hn : ∀ k, k < b → frm E k ≠ v) : adjF E M v b u = adjF E M v 0 u := by
  rw [Bool.eq_iff_iff]
  simp only [adjF_iff]
  constructor
  · rintro ⟨j, h1, h2, h3, h4⟩; exact ⟨j, Nat.zero_le _, h2, h3, h4⟩
  · rintro ⟨j, _, h2, h3, h4⟩
    refine ⟨j, ?_, h2, h3, h4⟩
    by_cases e : b ≤ j
    · exact e
    · exact absurd h3 (hn j (by omega))
/-- The unseen neighbours of v, rising. -/
def ext (E : List Ed) (M N : Nat) (S : Nat → Bool) (v : Nat) : List Nat := (List.range N).filter (fun u => !S u && adjF E M v 0 u)
theorem mem_ext {E : List Ed} {M N : Nat} {S : Nat → Bool} {v u : Nat} : u ∈ ext E M N S v ↔ u < N ∧ S u = false ∧ adjF E M v 0 u = true := by
  unfold ext
  simp [List.mem_filter]
theorem ext_nodup (E : List Ed) (M N : Nat) (S : Nat → Bool) (v : Nat) : (ext E M N S v).Nodup := List.Pairwise.filter _ List.nodup_range
theorem ints_inj {p q : List Nat} (h : ints p = ints q) : p = q := by
  have := congrArg (List.map Int.toNat) h
  simpa [ints, List.map_map, Function.comp_def] using this
theorem srt_ints {q r : List Nat} (hq : q.Nodup) (hr : r.Pairwise (· < ·)) (he : ∀ u, u ∈ q ↔ u ∈ r) : srt (ints q) = ints r := by
  have hp : (ints q).Perm (ints r) := by
    apply List.Perm.map
    exact (List.perm_ext_iff_of_nodup hq (hr.imp fun {a b} h => by omega)).2 he
  refine List.Perm.eq_of_pairwise (le := fun x y => decide (x ≤ y) = true) (fun a b _ _ h1 h2 => by simp at h1 h2; omega) ?_ ?_ ((List.mergeSort_perm _ _).trans hp)
  · exact List.pairwise_mergeSort (fun a b c h1 h2 => by simp at *; omega) (fun a b => by simp; omega) _
  · unfold ints
    rw [List.pairwise_map]
    exact hr.imp fun {a b} h => by simp; omega
theorem ext_sorted (E : List Ed) (M N : Nat) (S : Nat → Bool) (v : Nat) : (ext E M N S v).Pairwise (· < ·) := List.Pairwise.filter _ List.pairwise_lt_range
theorem nodup_short {q : List Nat} {N : Nat} (hq : q.Nodup) (h : ∀ u, u ∈ q → u < N) : q.length ≤ N := by
  have hp : q.Perm ((List.range N).filter (fun u => decide (u ∈ q))) := (List.perm_ext_iff_of_nodup hq (List.Pairwise.filter _ List.nodup_range)).2 (fun u => by
    rw [List.mem_filter]
    simp
    exact fun hu => h u hu)
  rw [hp.length_eq]
  exact Nat.le_trans (List.length_filter_le _ _) (by simp)
/-- What has been added so far, when the steps from b on have been walked. -/
structure Xs (E : List Ed) (M N : Nat) (S : Nat → Bool) (v b : Nat) (q : List Nat) : Prop where
  nd : q.Nodup
  mem : ∀ u, u ∈ q ↔ u < N ∧ S u = false ∧ adjF E M v b u = true
theorem Xs.start (E : List Ed) (M N : Nat) (S : Nat → Bool) (v : Nat) : Xs E M N S v M [] := ⟨List.nodup_nil, fun u => by simp [adjF_top]⟩
theorem Xs.skip {E : List Ed} {M N : Nat} {S : Nat → Bool} {v b k : Nat} {q : List Nat} (h : Xs E M N S v b q) (hk : k < b) (hb : b ≤ M) (hf : frm E k = v) (hn : ∀ j, k < j → j < b → frm E j ≠ v) (hs : (S (tto E k) || adjF E M v b (tto E k)) = true) : Xs E M N S v k q := by
  refine ⟨h.nd, fun u => ?_⟩
  rw [h.mem, adjF_step hk hb hf hn]
  constructor
  · rintro ⟨h1, h2, h3⟩; exact ⟨h1, h2, by rw [h3]; rfl⟩
  · rintro ⟨h1, h2, h3⟩
    refine ⟨h1, h2, ?_⟩
    by_cases e : u = tto E k
    · subst e; rw [h2, Bool.false_or] at hs; exact hs
    · simpa [e] using h3
theorem Xs.add {E : List Ed} {M N : Nat} {S : Nat → Bool} {v b k : Nat} {q : List Nat} (h : Xs E M N S v b q) (hk : k < b) (hb : b ≤ M) (hf : frm E k = v) (hn : ∀ j, k < j → j < b → frm E j ≠ v) (ht : tto E k < N) (hs : (S (tto E k) || adjF E M v b (tto E k)) = false) : Xs E M N S v k (q ++ [tto E k]) := by
  rw [Bool.or_eq_false_iff] at hs
  refine ⟨?_, fun u => ?_⟩
  · rw [List.nodup_append]
    refine ⟨h.nd, by simp, fun a ha c hc => ?_⟩
    simp at hc
    subst hc
    rintro rfl
    have := ((h.mem _).1 ha).2.2
    rw [hs.2] at this
    cases this
  · rw [List.mem_append, h.mem, adjF_step hk hb hf hn, List.mem_singleton]
    constructor
    · rintro (⟨h1, h2, h3⟩ | rfl)
      · exact ⟨h1, h2, by rw [h3]; rfl⟩
      · exact ⟨ht, hs.1, by simp⟩
    · rintro ⟨h1, h2, h3⟩
      by_cases e : u = tto E k
      · exact .inr e
      · exact .inl ⟨h1, h2, by simpa [e] using h3⟩
theorem Xs.done {E : List Ed} {M N : Nat} {S : Nat → Bool} {v b : Nat} {q : List Nat} (h : Xs E M N S v b q) (hn : ∀ k, k < b → frm E k ≠ v) : srt (ints q) = ints (ext E M N S v) :=
  srt_ints h.nd (ext_sorted E M N S v) (fun u => by rw [h.mem, mem_ext, adjF_end hn])
theorem Xs.short {E : List Ed} {M N : Nat} {S : Nat → Bool} {v b : Nat} {q : List Nat} (h : Xs E M N S v b q) : q.length ≤ N := nodup_short h.nd (fun u hu => ((h.mem u).1 hu).1)
end Go.Proofs.Ytpgadcacimjlaaa
