/-
  Arcs inside cells and between them: the mathematics.
-/
import Derived.Test.YtpmjbeiclmllmaaJoM
namespace Go.Proofs.Ytpmjbeiclmllmaa
open Go.RowKit
theorem cho_add {p q r : Nat → Bool} : ∀ {k : Nat}, (∀ v, v < k → p v = (q v || r v)) → (∀ v, v < k → ¬ (q v = true ∧ r v = true)) → (cho p k).length = (cho q k).length + (cho r k).length
  | 0, _, _ => rfl
  | k + 1, h1, h2 => by
    have ih := cho_add (p := p) (q := q) (r := r) (k := k) (fun v hv => h1 v (by omega)) (fun v hv => h2 v (by omega))
    have e1 := h1 k (by omega)
    have e2 := h2 k (by omega)
    cases hq : q k <;> cases hr : r k
    · rw [hq, hr] at e1
      rw [cho_f e1, cho_f hq, cho_f hr]; exact ih
    · rw [hq, hr] at e1
      rw [cho_t e1, cho_f hq, cho_t hr, List.length_append, List.length_append, ih]; simp; omega
    · rw [hq, hr] at e1
      rw [cho_t e1, cho_t hq, cho_f hr, List.length_append, List.length_append, ih]; simp; omega
    · exact absurd ⟨hq, hr⟩ e2
theorem cho_all {p : Nat → Bool} : ∀ {k : Nat}, (∀ v, v < k → p v = true) → (cho p k).length = k
  | 0, _ => rfl
  | k + 1, h => by
    rw [cho_t (h k (by omega)), List.length_append, cho_all (fun v hv => h v (by omega))]
    rfl
theorem arL_mem {l : List A} {p : A → Bool} {i : Nat} : i ∈ arL l p ↔ i < l.length ∧ p (l.getD i A.zero) = true := by unfold arL; rw [cho_mem]; rfl
/-- Arcs between cells, or inside one of the first. -/
def upC (L : List Int) (c : Nat) (x : A) : Bool := prt L x || decide (lb L x.f = lb L x.t ∧ lb L x.f < (c : Int))
/-- How many these are. -/
def smC (l : List A) (L : List Int) (c : Nat) : Nat := (arL l (upC L c)).length
theorem smC_zero {n : Nat} {l : List A} {L : List Int} (hC : chkE n l = 0) (hL : ∀ v, v < n → 0 ≤ L.getD v 0) : smC l L 0 = (arL l (prt L)).length := by
  unfold smC arL
  congr 1
  refine cho_congr (fun i hi => ?_)
  obtain ⟨⟨f0, f1⟩, t0, t1⟩ := chk_in hC hi
  unfold arP upC
  have := hL (l.getD i A.zero).f.toNat (by omega)
  rw [decide_eq_false (by unfold lb; omega), Bool.or_false]
theorem smC_step (l : List A) (L : List Int) (c : Nat) : smC l L (c + 1) = smC l L c + (arL l (hld L c)).length := by
  unfold smC arL
  refine cho_add (fun i hi => ?_) (fun i hi => ?_)
  · unfold arP upC hld prt
    generalize lb L (l.getD i A.zero).f = x
    generalize lb L (l.getD i A.zero).t = y
    rw [Bool.eq_iff_iff]
    simp only [Bool.or_eq_true, decide_eq_true_eq]
    omega
  · unfold arP upC hld prt
    generalize lb L (l.getD i A.zero).f = x
    generalize lb L (l.getD i A.zero).t = y
    simp only [Bool.or_eq_true, decide_eq_true_eq]
    omega
theorem smC_end {n : Nat} {l : List A} {L : List Int} {m : Nat} (hC : chkE n l = 0) (hL : ∀ v, v < n → L.getD v 0 < (m : Int)) : smC l L m = l.length := by
  unfold smC arL
  refine cho_all (fun i hi => ?_)
  obtain ⟨⟨f0, f1⟩, t0, t1⟩ := chk_in hC hi
  have h1 := hL (l.getD i A.zero).f.toNat (by omega)
  have h2 := hL (l.getD i A.zero).t.toNat (by omega)
  unfold arP upC prt
  unfold lb
  simp only [Bool.or_eq_true, decide_eq_true_eq]
  omega
/-- Arcs between a cell's children, or inside one of the first of them. -/
def upK (L M : List Int) (q : Int) (ch : List Nat) (t : Nat) (x : A) : Bool := btP L M q x || (hld L q x && decide (lb M x.f = lb M x.t) && ((ints ch).take t).contains (lb M x.f))
def smK (l : List A) (L M : List Int) (q : Int) (ch : List Nat) (t : Nat) : Nat := (arL l (upK L M q ch t)).length
theorem smK_zero (l : List A) (L M : List Int) (q : Int) (ch : List Nat) : smK l L M q ch 0 = (arL l (btP L M q)).length := by
  unfold smK arL
  congr 1
  refine cho_congr (fun i hi => ?_)
  unfold arP upK
  simp
/-- What is a child: a cell whose vertices lie in the cell. -/
structure Kid (n : Nat) (L M : List Int) (q : Int) (ch : List Nat) : Prop where
  inn : ∀ k ∈ ch, ∀ v, v < n → M.getD v 0 = (k : Int) → L.getD v 0 = q
  all : ∀ v, v < n → L.getD v 0 = q → M.getD v 0 ∈ ints ch
  up : ch.Pairwise (· < ·)
theorem take_snocZ {S : List Nat} {k : Nat} (h : k < S.length) : (ints S).take (k + 1) = (ints S).take k ++ [((S.getD k 0 : Nat) : Int)] := by
  have := take_snocI (xs := ints S) (k := k) (by rw [ints_len]; exact h)
  rw [ints_getD h] at this
  exact this
theorem smK_step {n : Nat} {l : List A} {L M : List Int} {q : Int} {ch : List Nat} (hC : chkE n l = 0) (hK : Kid n L M q ch) {t : Nat} (ht : t < ch.length) : smK l L M q ch (t + 1) = smK l L M q ch t + (arL l (hld M ((ch.getD t 0 : Nat) : Int))).length := by
  unfold smK arL
  have hnd : ¬ ((ch.getD t 0 : Nat) : Int) ∈ (ints ch).take t := by
    intro h
    have h1 := nodup_at hK.up ht
    rw [List.contains_iff_mem] at h1
    have e : (ints ch).take t = ints (ch.take t) := by simp [ints, List.map_take]
    rw [e] at h
    exact h1 (ints_mem.1 h)
  refine cho_add (fun i hi => ?_) (fun i hi => ?_)
  · obtain ⟨⟨f0, f1⟩, t0, t1⟩ := chk_in hC hi
    have h1 := hK.inn _ (getN_mem ht) (l.getD i A.zero).f.toNat (by omega)
    have h2 := hK.inn _ (getN_mem ht) (l.getD i A.zero).t.toNat (by omega)
    unfold arP upK
    rw [take_snocZ ht]
    unfold hld
    unfold lb
    generalize btP L M q (l.getD i A.zero) = B
    generalize M.getD (l.getD i A.zero).f.toNat 0 = mf at *
    generalize M.getD (l.getD i A.zero).t.toNat 0 = mt at *
    generalize L.getD (l.getD i A.zero).f.toNat 0 = lf at *
    generalize L.getD (l.getD i A.zero).t.toNat 0 = lt at *
    generalize ((ch.getD t 0 : Nat) : Int) = c at *
    rw [Bool.eq_iff_iff]
    simp only [Bool.or_eq_true, Bool.and_eq_true, decide_eq_true_eq, List.contains_iff_mem, List.mem_append, List.mem_singleton]
    constructor
    · rintro (h | ⟨⟨⟨h3, h4⟩, h5⟩, h6 | h6⟩)
      · exact .inl (.inl h)
      · exact .inl (.inr ⟨⟨⟨h3, h4⟩, h5⟩, h6⟩)
      · exact .inr ⟨h6, by omega⟩
    · rintro ((h | ⟨⟨⟨h3, h4⟩, h5⟩, h6⟩) | ⟨h7, h8⟩)
      · exact .inl h
      · exact .inr ⟨⟨⟨h3, h4⟩, h5⟩, .inl h6⟩
      · exact .inr ⟨⟨⟨h1 h7, h2 h8⟩, by omega⟩, .inr h7⟩
  · unfold arP upK btP hld prt
    simp only [Bool.or_eq_true, Bool.and_eq_true, decide_eq_true_eq, List.contains_iff_mem]
    rintro ⟨h | h, h3⟩
    · exact h.2 (by rw [h3.1, h3.2])
    · rw [h3.1] at h
      exact hnd h.2
theorem smK_end {n : Nat} {l : List A} {L M : List Int} {q : Int} {ch : List Nat} (hC : chkE n l = 0) (hK : Kid n L M q ch) : smK l L M q ch ch.length = (arL l (hld L q)).length := by
  unfold smK arL
  congr 1
  refine cho_congr (fun i hi => ?_)
  obtain ⟨⟨f0, f1⟩, t0, t1⟩ := chk_in hC hi
  have h1 := hK.all (l.getD i A.zero).f.toNat (by omega)
  unfold arP upK btP hld prt
  rw [List.take_of_length_le (by rw [ints_len]; exact Nat.le_refl _)]
  unfold lb
  generalize M.getD (l.getD i A.zero).f.toNat 0 = mf at *
  generalize M.getD (l.getD i A.zero).t.toNat 0 = mt at *
  generalize L.getD (l.getD i A.zero).f.toNat 0 = lf at *
  generalize L.getD (l.getD i A.zero).t.toNat 0 = lt at *
  rw [Bool.eq_iff_iff]
  simp only [Bool.or_eq_true, Bool.and_eq_true, decide_eq_true_eq, List.contains_iff_mem]
  constructor
  · rintro (h | h)
    · exact h.1
    · exact h.1.1
  · intro h
    by_cases e : mf = mt
    · exact .inr ⟨⟨h, e⟩, h1 h.1⟩
    · exact .inl ⟨h, e⟩
/-- An arc inside a child is inside the cell, and not between. -/
theorem kid_in {n : Nat} {l : List A} {L M : List Int} {q : Int} {ch : List Nat} (hC : chkE n l = 0) (hK : Kid n L M q ch) {k : Nat} (hk : k ∈ ch) {i : Nat} (hi : i ∈ arL l (hld M (k : Int))) : (ints (arL l (hld L q))).contains (i : Int) = true ∧ (ints (arL l (btP L M q))).contains (i : Int) = false := by
  obtain ⟨h1, h2⟩ := arL_mem.1 hi
  obtain ⟨⟨f0, f1⟩, t0, t1⟩ := chk_in hC h1
  unfold hld at h2
  rw [decide_eq_true_eq] at h2
  constructor
  · rw [List.contains_iff_mem]
    refine ints_mem.2 (arL_mem.2 ⟨h1, ?_⟩)
    unfold hld
    rw [decide_eq_true_eq]
    exact ⟨hK.inn k hk _ (by omega) h2.1, hK.inn k hk _ (by omega) h2.2⟩
  · rw [Bool.eq_false_iff, ne_eq, List.contains_iff_mem]
    intro h
    have h3 := (arL_mem.1 (ints_mem.1 h)).2
    unfold btP prt at h3
    rw [Bool.and_eq_true, decide_eq_true_eq] at h3
    exact h3.2 (h2.1.trans h2.2.symm)
/-- The children that Children tells. -/
theorem kid_of {n : Nat} {L M : List Int} {q : Int} (hM : M.length = n) (ht : tdy M 0 = true) (hN : Nst M L) : Kid n L M q (chL M L q) := by
  have hp := ls_right ht
  obtain ⟨h1, h2, h3⟩ := hp
  have hmem : ∀ k, k ∈ chL M L q ↔ k < (lsL M 0 []).length ∧ L.getD ((lsL M 0 []).getD k 0) 0 = q := fun k => by
    unfold chL chT
    simp
  refine ⟨fun k hk v hv e => ?_, fun v hv e => ?_, List.pairwise_lt_range.filter _⟩
  · obtain ⟨h4, h5⟩ := (hmem k).1 hk
    obtain ⟨h6, h7, _⟩ := h2 k h4
    rw [← h5]
    exact hN _ (by omega) _ h6 (e.trans h7.symm)
  · obtain ⟨h4, h5⟩ := h3 v (by omega)
    obtain ⟨y, hy⟩ : ∃ y : Nat, M.getD v 0 = y := ⟨(M.getD v 0).toNat, by omega⟩
    rw [hy, Int.toNat_natCast] at h5
    rw [hy]
    obtain ⟨h6, h7, _⟩ := h2 y h5
    refine ints_mem.2 ((hmem y).2 ⟨h5, ?_⟩)
    rw [← e]
    exact hN _ h6 _ (by omega) (h7.trans hy.symm)
end Go.Proofs.Ytpmjbeiclmllmaa
