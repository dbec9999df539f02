/-
  All pairs of a graph: sorted, each once.
-/
import Derived.Test.YtpgadcacimjlaaaPaComp
namespace Go.Proofs.Ytpgadcacimjlaaa
open Go.RowKit
/-- One pair is ahead of another. -/
def ltP (x y : Pr) : Prop := x.a < y.a ∨ x.a = y.a ∧ x.b < y.b
instance (x y : Pr) : Decidable (ltP x y) := by unfold ltP; exact inferInstance
theorem cmpP_lt (x y : Pr) : cmpP x y < 0 ↔ ltP x y := by
  unfold cmpP orI cmpI ltP
  by_cases h1 : x.a < y.a
  · have : (x.a : Int) < y.a := by omega
    simp [this, h1]
  · by_cases h2 : y.a < x.a
    · have q1 : ¬ (x.a : Int) < y.a := by omega
      have q2 : (y.a : Int) < x.a := by omega
      simp [q1, q2, h1]; omega
    · have q1 : ¬ (x.a : Int) < y.a := by omega
      have q2 : ¬ (y.a : Int) < x.a := by omega
      have e : x.a = y.a := by omega
      by_cases h3 : x.b < y.b
      · have q3 : (x.b : Int) < y.b := by omega
        simp [q3, h3, e]
      · have q3 : ¬ (x.b : Int) < y.b := by omega
        by_cases h4 : y.b < x.b
        · have q4 : (y.b : Int) < x.b := by omega
          simp [q3, q4, h3, e]
        · have q4 : ¬ (y.b : Int) < x.b := by omega
          simp [q3, q4, h3, e]
theorem ltP_trans {x y z : Pr} (h1 : ltP x y) (h2 : ltP y z) : ltP x z := by unfold ltP at *; omega
theorem ltP_irrefl (x : Pr) : ¬ ltP x x := by unfold ltP; omega
theorem ltP_tri (x y : Pr) (h1 : ¬ ltP x y) (h2 : ¬ ltP y x) : x = y := by unfold ltP at *; exact pr_ext (by omega) (by omega)
/-- Pairs in order. -/
def srtP (d : List Pr) : List Pr := d.mergeSort fun x y => !decide (cmpP y x < 0)
theorem srtP_len (d : List Pr) : (srtP d).length = d.length := by simp [srtP]
theorem srtP_mem {d : List Pr} {x : Pr} : x ∈ srtP d ↔ x ∈ d := by simp [srtP]
theorem srtP_sorted (d : List Pr) : (srtP d).Pairwise (fun x y => ¬ ltP y x) := by
  have h := List.pairwise_mergeSort (le := fun x y => !decide (cmpP y x < 0)) (fun a b c h1 h2 => by
    simp only [Bool.not_eq_true', decide_eq_false_iff_not, cmpP_lt] at h1 h2 ⊢
    unfold ltP at *; omega) (fun a b => by
    simp only [Bool.or_eq_true, Bool.not_eq_true', decide_eq_false_iff_not, cmpP_lt]
    unfold ltP; omega) d
  refine h.imp fun {x y} h => ?_
  simp only [Bool.not_eq_true', decide_eq_false_iff_not, cmpP_lt] at h
  exact h
theorem getD_memP {q : List Pr} {i : Nat} (h : i < q.length) : q.getD i Pr.zero ∈ q := by simp [List.getD, List.getElem?_eq_getElem h]
theorem sorted_get {d : List Pr} (h : d.Pairwise (fun x y => ¬ ltP y x)) {i j : Nat} (hij : i < j) (hj : j < d.length) : ¬ ltP (d.getD j Pr.zero) (d.getD i Pr.zero) := by
  have := List.pairwise_iff_getElem.1 h i j (by omega) hj hij
  simpa [List.getD, hj, show i < d.length by omega] using this
theorem ddk_inv {d : List Pr} (h : d.Pairwise (fun x y => ¬ ltP y x)) : ∀ k, k ≤ d.length → (ddk d k).Pairwise ltP ∧ (∀ x, x ∈ ddk d k ↔ x ∈ d.take k)
  | 0, _ => ⟨by simp [ddk], fun x => by simp [ddk]⟩
  | k + 1, hk => by
    obtain ⟨h1, h2⟩ := ddk_inv h k (by omega)
    have hts := take_snocP (p := d) (k := k) (by omega)
    by_cases hc : 0 < k ∧ d.getD k Pr.zero = d.getD (k - 1) Pr.zero
    · rw [ddk_skip hc]
      refine ⟨h1, fun x => ?_⟩
      rw [h2, hts, List.mem_append, List.mem_singleton]
      constructor
      · exact .inl
      · rintro (hx | rfl)
        · exact hx
        · rw [hc.2]
          have : (d.take k).getD (k - 1) Pr.zero = d.getD (k - 1) Pr.zero := by
            simp [List.getD, show k - 1 < k by omega]
          rw [← this]
          exact getD_memP (by rw [List.length_take]; omega)
    · rw [ddk_keep hc]
      refine ⟨?_, fun x => ?_⟩
      · rw [List.pairwise_append]
        refine ⟨h1, by simp, fun x hx y hy => ?_⟩
        rw [List.mem_singleton] at hy
        subst hy
        have hx := (h2 x).1 hx
        obtain ⟨i, hi, rfl⟩ := List.mem_iff_getElem.1 hx
        rw [List.length_take] at hi
        have e : (d.take k)[i] = d.getD i Pr.zero := by simp [List.getD, show i < d.length by omega]
        rw [e]
        have hik : i < k := by omega
        have s1 := sorted_get h hik (by omega)
        have s2 := sorted_get h (show k - 1 < k by omega) (by omega)
        have hne : d.getD k Pr.zero ≠ d.getD (k - 1) Pr.zero := fun e => hc ⟨by omega, e⟩
        have s3 : ltP (d.getD (k - 1) Pr.zero) (d.getD k Pr.zero) := by
          by_cases q : ltP (d.getD (k - 1) Pr.zero) (d.getD k Pr.zero)
          · exact q
          · exact absurd (ltP_tri _ _ s2 q) hne
        by_cases ei : i = k - 1
        · rw [ei]; exact s3
        · have s4 := sorted_get h (show i < k - 1 by omega) (by omega)
          unfold ltP at *
          omega
      · rw [List.mem_append, h2, hts, List.mem_append]
/-- The pairs of the arcs, as they come. -/
def pq (l : List A) : List Pr := l.filterMap (fun x => if x.f = x.t then none else some ⟨(min x.f x.t).toNat, (max x.f x.t).toNat⟩)
theorem pq_snoc (q : List A) (x : A) : pq (q ++ [x]) = if x.f = x.t then pq q else pq q ++ [⟨(min x.f x.t).toNat, (max x.f x.t).toNat⟩] := by
  unfold pq
  rw [List.filterMap_append]
  by_cases h : x.f = x.t
  · rw [if_pos h]; simp [h]
  · rw [if_neg h]; simp [h]
theorem pq_len (l : List A) : (pq l).length ≤ l.length := List.length_filterMap_le _ _
/-- All pairs, in order. -/
def prl (l : List A) : List Pr := ddk (srtP (pq l)) (srtP (pq l)).length
theorem prl_sorted (l : List A) : (prl l).Pairwise ltP := (ddk_inv (srtP_sorted (pq l)) _ (Nat.le_refl _)).1
theorem prl_len (l : List A) : (prl l).length ≤ l.length := Nat.le_trans (ddk_len _ _) (by rw [srtP_len]; exact pq_len l)
/-- Some arc joins v and u. -/
def nr (q : List A) (v u : Nat) : Bool := q.any (fun x => (x.f == (v : Int) && x.t == (u : Int)) || (x.t == (v : Int) && x.f == (u : Int)))
theorem prl_mem {l : List A} (hpo : ∀ x, x ∈ l → 0 ≤ x.f ∧ 0 ≤ x.t) {p : Pr} : p ∈ prl l ↔ p.a < p.b ∧ nr l p.a p.b = true := by
  have h := (ddk_inv (srtP_sorted (pq l)) _ (Nat.le_refl _)).2 p
  unfold prl
  rw [h, List.take_length, srtP_mem]
  unfold pq nr
  rw [List.mem_filterMap, List.any_eq_true]
  constructor
  · rintro ⟨x, hx, he⟩
    have hp := hpo x hx
    by_cases e : x.f = x.t
    · simp [e] at he
    · rw [if_neg e] at he
      injection he with he
      subst he
      refine ⟨by show (min x.f x.t).toNat < (max x.f x.t).toNat; omega, x, hx, ?_⟩
      simp only [Bool.or_eq_true, Bool.and_eq_true, beq_iff_eq]
      omega
  · rintro ⟨hab, x, hx, hn⟩
    have hp := hpo x hx
    simp only [Bool.or_eq_true, Bool.and_eq_true, beq_iff_eq] at hn
    refine ⟨x, hx, ?_⟩
    rw [if_neg (by omega)]
    congr 1
    exact pr_ext (by show (min x.f x.t).toNat = p.a; omega) (by show (max x.f x.t).toNat = p.b; omega)
/-- Two lists of pairs in strict order with the same members are one. -/
theorem sorted_one {p q : List Pr} (hp : p.Pairwise ltP) (hq : q.Pairwise ltP) (he : ∀ x, x ∈ p ↔ x ∈ q) : p = q := by
  have hn : ∀ {r : List Pr}, r.Pairwise ltP → r.Nodup := fun h => h.imp fun {a b} h e => by subst e; exact ltP_irrefl _ h
  refine List.Perm.eq_of_pairwise (le := ltP) (fun a b _ _ h1 h2 => absurd (ltP_trans h1 h2) (ltP_irrefl _)) hp hq ((List.perm_ext_iff_of_nodup (hn hp) (hn hq)).2 he)
end Go.Proofs.Ytpgadcacimjlaaa
