/-
  Arcs between cells join boundary vertices: the mathematics.
-/
import Derived.Test.YtpmjbeiclmllmaaCe9
import Derived.Test.YtpmjbeiclmllmaaLrg
namespace Go.Proofs.Ytpmjbeiclmllmaa
open Go.RowKit
theorem getA_mem {l : List A} {i : Nat} (h : i < l.length) : l.getD i A.zero ∈ l := by
  rw [show l.getD i A.zero = l[i] by simp [List.getD, List.getElem?_eq_getElem h]]; exact List.getElem_mem h
theorem memA_get {l : List A} {x : A} (h : x ∈ l) : ∃ i, i < l.length ∧ l.getD i A.zero = x := by
  obtain ⟨i, hi, rfl⟩ := List.getElem_of_mem h
  exact ⟨i, hi, by simp [List.getD, List.getElem?_eq_getElem hi]⟩
theorem crs_iff {L : List Int} {l : List A} {v : Nat} : crs L l l.length v = true ↔ ∃ i, i < l.length ∧ prt L (l.getD i A.zero) = true ∧ ((l.getD i A.zero).f.toNat = v ∨ (l.getD i A.zero).t.toNat = v) := by
  unfold crs
  rw [List.take_length]
  simp only [List.any_eq_true, Bool.and_eq_true, Bool.or_eq_true, decide_eq_true_eq]
  constructor
  · rintro ⟨x, hx, h1, h2⟩
    obtain ⟨i, hi, rfl⟩ := memA_get hx
    exact ⟨i, hi, h1, h2⟩
  · rintro ⟨i, hi, h1, h2⟩
    exact ⟨_, getA_mem hi, h1, h2⟩
/-- The ends of the first arcs of a list. -/
def mkd (S : List Nat) (l : List A) (k v : Nat) : Bool := (S.take k).any (fun i => decide ((l.getD i A.zero).f.toNat = v) || decide ((l.getD i A.zero).t.toNat = v))
theorem take_snocN {S : List Nat} {k : Nat} (h : k < S.length) : S.take (k + 1) = S.take k ++ [S.getD k 0] := by
  rw [List.take_add_one]
  simp [List.getD, List.getElem?_eq_getElem h]
theorem mkd_step {S : List Nat} (l : List A) {k : Nat} (h : k < S.length) (v : Nat) : mkd S l (k + 1) v = if v = (l.getD (S.getD k 0) A.zero).t.toNat then true else if v = (l.getD (S.getD k 0) A.zero).f.toNat then true else mkd S l k v := by
  unfold mkd
  rw [take_snocN h, List.any_append]
  simp only [List.any_cons, List.any_nil, Bool.or_false]
  by_cases h1 : v = (l.getD (S.getD k 0) A.zero).t.toNat
  · rw [if_pos h1, decide_eq_true h1.symm]; simp
  · have e1 : decide ((l.getD (S.getD k 0) A.zero).t.toNat = v) = false := decide_eq_false (fun e => h1 e.symm)
    rw [if_neg h1, e1]
    by_cases h2 : v = (l.getD (S.getD k 0) A.zero).f.toNat
    · rw [if_pos h2, decide_eq_true h2.symm]; simp
    · have e2 : decide ((l.getD (S.getD k 0) A.zero).f.toNat = v) = false := decide_eq_false (fun e => h2 e.symm)
      rw [if_neg h2, e2]; simp
theorem mkd_all (L : List Int) (l : List A) (v : Nat) : mkd (arL l (prt L)) l (arL l (prt L)).length v = crs L l l.length v := by
  rw [Bool.eq_iff_iff, crs_iff]
  unfold mkd
  rw [List.take_length]
  simp only [List.any_eq_true, Bool.or_eq_true, decide_eq_true_eq]
  constructor
  · rintro ⟨i, hi, h⟩
    obtain ⟨h1, h2⟩ := cho_mem.1 hi
    exact ⟨i, h1, h2, h⟩
  · rintro ⟨i, hi, h1, h2⟩
    exact ⟨i, cho_mem.2 ⟨hi, h1⟩, h2⟩
theorem getN_mem {S : List Nat} {k : Nat} (h : k < S.length) : S.getD k 0 ∈ S := by
  rw [show S.getD k 0 = S[k] by simp [List.getD, List.getElem?_eq_getElem h]]; exact List.getElem_mem h
theorem count_lt : ∀ {S : List Nat} {k : Nat}, S.Pairwise (· < ·) → k < S.length → (ints S).countP (· < ((S.getD k 0 : Nat) : Int)) = k
  | [], k, _, h => by simp at h
  | a :: r, 0, h, _ => by
    obtain ⟨h1, h2⟩ := List.pairwise_cons.1 h
    rw [List.countP_eq_zero]
    intro x hx
    simp only [ints, List.map_cons, List.mem_cons, List.mem_map] at hx
    simp only [List.getD_cons_zero, decide_eq_true_eq]
    rcases hx with rfl | ⟨y, hy, rfl⟩
    · omega
    · have := h1 y hy
      omega
  | a :: r, k + 1, h, hk => by
    obtain ⟨h1, h2⟩ := List.pairwise_cons.1 h
    have hk' : k < r.length := by simpa using hk
    have ih := count_lt h2 hk'
    have h3 := h1 _ (getN_mem hk')
    have e : ints (a :: r) = (a : Int) :: ints r := rfl
    rw [e, List.getD_cons_succ, List.countP_cons, ih, decide_eq_true (by omega : (a : Int) < ((r.getD k 0 : Nat) : Int))]
    simp
theorem contains_at {S : List Nat} {k : Nat} (h : k < S.length) : (ints S).contains ((S.getD k 0 : Nat) : Int) = true := by
  rw [List.contains_iff_mem]
  exact List.mem_map.2 ⟨_, getN_mem h, rfl⟩
theorem ints_mem {S : List Nat} {v : Nat} : (v : Int) ∈ ints S ↔ v ∈ S := by
  unfold ints
  rw [List.mem_map]
  constructor
  · rintro ⟨x, hx, e⟩
    have : x = v := by omega
    exact this ▸ hx
  · exact fun h => ⟨v, h, rfl⟩
theorem bdL_mem {n : Nat} {L : List Int} {l : List A} {q : Int} {v : Nat} : v ∈ bdL n L l q ↔ v < n ∧ L.getD v 0 = q ∧ crs L l l.length v = true := by
  unfold bdL
  rw [cho_mem]
  unfold bdP
  rw [Bool.and_eq_true, decide_eq_true_eq]
theorem RowI.set {w : World} {B d : Nat} {v : Option Addr} {xs : List Int} (h : RowI w B v xs) (hd : d < B) (k : Nat) (u : Value) : RowI (w.setCell ⟨d, k, none⟩ u) B v xs := by
  rcases h with h | ⟨g, cur, h1, h2, h3, h4⟩
  · exact Or.inl h
  · exact Or.inr ⟨g, cur, h1, h2, (Below.heap_setCell w ⟨d, k, none⟩ u g (by show g ≠ d; omega)).trans h3, h4⟩
/-- What is left of the ends, behind some cells and some vertices of the next one. -/
def lft (L : List Int) (l : List A) (n c k v : Nat) : Bool := crs L l l.length v && (decide ((c : Int) < L.getD v 0) || (decide (L.getD v 0 = (c : Int)) && !((bdL n L l c).take k).contains v))
theorem lft_zero {L : List Int} {l : List A} {n v : Nat} (h : 0 ≤ L.getD v 0) : lft L l n 0 0 v = crs L l l.length v := by
  unfold lft
  rcases Int.lt_or_eq_of_le h with h1 | h1
  · rw [decide_eq_true (show ((0 : Nat) : Int) < L.getD v 0 by omega)]; simp
  · rw [decide_eq_false (show ¬ ((0 : Nat) : Int) < L.getD v 0 by omega), decide_eq_true (show L.getD v 0 = ((0 : Nat) : Int) by omega)]; simp
theorem nodup_at {S : List Nat} (h : S.Pairwise (· < ·)) {k : Nat} (hk : k < S.length) : ¬ (S.take k).contains (S.getD k 0) = true := by
  rw [List.contains_iff_mem]
  intro h1
  have e : S.take (k + 1) = S.take k ++ [S.getD k 0] := take_snocN hk
  have h2 : (S.take (k + 1)).Pairwise (· < ·) := h.sublist (List.take_sublist _ _)
  rw [e, List.pairwise_append] at h2
  exact Nat.lt_irrefl _ (h2.2.2 _ h1 _ (by simp))
/-- The next boundary vertex is left, and then taken. -/
theorem lft_at {L : List Int} {l : List A} {n c k : Nat} (hk : k < (bdL n L l c).length) : lft L l n c k ((bdL n L l c).getD k 0) = true := by
  have h1 := bdL_mem.1 (getN_mem hk)
  unfold lft
  rw [h1.2.2, h1.2.1, decide_eq_true (show (c : Int) = (c : Int) from rfl), Bool.eq_false_iff.2 (nodup_at (S := bdL n L l c) (cho_sorted _ _) hk)]
  simp
theorem lft_step {L : List Int} {l : List A} {n c k : Nat} (hk : k < (bdL n L l c).length) (v : Nat) : lft L l n c (k + 1) v = if v = (bdL n L l c).getD k 0 then false else lft L l n c k v := by
  by_cases e : v = (bdL n L l c).getD k 0
  · rw [if_pos e]
    have h1 := bdL_mem.1 (getN_mem hk)
    rw [← e] at h1
    unfold lft
    rw [take_snocN hk, ← e, h1.2.1, decide_eq_false (show ¬ (c : Int) < (c : Int) by omega)]
    simp
  · rw [if_neg e]
    unfold lft
    rw [take_snocN hk]
    congr 3
    rw [Bool.eq_iff_iff]
    simp only [Bool.not_eq_true', Bool.eq_false_iff, ne_eq, List.contains_iff_mem, List.mem_append, List.mem_singleton, e, or_false]
theorem lft_next {L : List Int} {l : List A} {n c v : Nat} (hv : v < n) : lft L l n c (bdL n L l c).length v = lft L l n (c + 1) 0 v := by
  unfold lft
  rw [List.take_length]
  by_cases hc : crs L l l.length v = true
  · rw [hc, Bool.true_and, Bool.true_and]
    by_cases h1 : L.getD v 0 = (c : Int)
    · have h2 : (bdL n L l c).contains v = true := by rw [List.contains_iff_mem]; exact bdL_mem.2 ⟨hv, h1, hc⟩
      rw [h2, h1, decide_eq_false (show ¬ (c : Int) < (c : Int) by omega), decide_eq_false (show ¬ ((c + 1 : Nat) : Int) < (c : Int) by omega), decide_eq_false (show ¬ (c : Int) = ((c + 1 : Nat) : Int) by omega)]
      simp
    · rw [decide_eq_false h1]
      simp only [Bool.false_and, Bool.or_false, List.take_zero, List.contains_nil, Bool.not_false, Bool.and_true]
      rw [Bool.eq_iff_iff]
      simp only [Bool.or_eq_true, decide_eq_true_eq]
      omega
  · rw [Bool.not_eq_true] at hc
    rw [hc, Bool.false_and, Bool.false_and]
theorem lft_end {L : List Int} {l : List A} {n c v : Nat} (h : L.getD v 0 < (c : Int)) : lft L l n c 0 v = false := by
  unfold lft
  rw [decide_eq_false (show ¬ (c : Int) < L.getD v 0 by omega), decide_eq_false (show ¬ L.getD v 0 = (c : Int) by omega)]
  simp
/-- A boundary vertex is one of the child in which it lies. -/
theorem crs_below {n : Nat} {l : List A} {M L : List Int} (hC : chkE n l = 0) (hM : M.length = n) (hN : Nst M L) {v : Nat} (h : crs L l l.length v = true) : crs M l l.length v = true := by
  obtain ⟨i, hi, h1, h2⟩ := crs_iff.1 h
  refine crs_iff.2 ⟨i, hi, ?_, h2⟩
  obtain ⟨⟨f0, f1⟩, t0, t1⟩ := chk_in hC hi
  unfold prt lb at h1 ⊢
  rw [decide_eq_true_eq] at h1 ⊢
  exact fun e => h1 (hN _ (by omega) _ (by omega) e)
end Go.Proofs.Ytpmjbeiclmllmaa
