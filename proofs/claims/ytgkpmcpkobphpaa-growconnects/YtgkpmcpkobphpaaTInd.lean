/-
  Plain mathematics of the graph of some vertices: no program in it.
-/
import Derived.Test.YtgkpmcpkobphpaaTMarks
namespace Go.Proofs.Ytgkpmcpkobphpaa.T3
open Go.RowKit
theorem getD_snoc_lt {xs : List Int} {x : Int} {j : Nat} (h : j < xs.length) : (xs ++ [x]).getD j 0 = xs.getD j 0 := by simp [List.getD, List.getElem?_append_left h]
theorem getD_snoc_eq (xs : List Int) (x : Int) : (xs ++ [x]).getD xs.length 0 = x := by simp [List.getD]
theorem hits_idx {q : Nat → Bool} {n j : Nat} (h : j < (hits q n).length) : ∃ i : Nat, i < n ∧ q i = true ∧ (hits q n).getD j 0 = (i : Int) ∧ (hits q i).length = j := by
  induction n with
  | zero => simp [hits] at h
  | succ n ih =>
    by_cases hq : q n = true
    · rw [hits_t hq] at h ⊢
      by_cases hj : j < (hits q n).length
      · obtain ⟨i, h1, h2, h3, h4⟩ := ih hj
        exact ⟨i, by omega, h2, by rw [getD_snoc_lt hj, h3], h4⟩
      · rw [List.length_append, List.length_singleton] at h
        have e : j = (hits q n).length := by omega
        exact ⟨n, by omega, hq, by rw [e, getD_snoc_eq], e.symm⟩
    · have hq' : q n = false := by simpa using hq
      rw [hits_f hq'] at h ⊢
      obtain ⟨i, h1, h2, h3, h4⟩ := ih h
      exact ⟨i, by omega, h2, h3, h4⟩
theorem hits_rank {q : Nat → Bool} {n v : Nat} (hv : v < n) (hq : q v = true) : (hits q v).length < (hits q n).length ∧ (hits q n).getD (hits q v).length 0 = (v : Int) := by
  induction n with
  | zero => omega
  | succ n ih =>
    by_cases e : v = n
    · subst e
      rw [hits_t hq]
      exact ⟨by simp, getD_snoc_eq _ _⟩
    · obtain ⟨h1, h2⟩ := ih (by omega)
      by_cases hn : q n = true
      · rw [hits_t hn]
        exact ⟨by simp; omega, by rw [getD_snoc_lt h1, h2]⟩
      · have hn' : q n = false := by simpa using hn
        rw [hits_f hn']
        exact ⟨h1, h2⟩
theorem hits_inj {q : Nat → Bool} {n u v : Nat} (hu : u < n) (hv : v < n) (hqu : q u = true) (hqv : q v = true) (e : (hits q u).length = (hits q v).length) : u = v := by
  have h1 := (hits_rank hu hqu).2
  have h2 := (hits_rank hv hqv).2
  rw [e, h2] at h1
  omega
theorem filter_hits (p : A → Bool) (l : List A) : ∀ k, k ≤ l.length → ((l.take k).filter p).length = (hits (fun i => p (l.getD i A.zero)) k).length ∧ ∀ n, n < (hits (fun i => p (l.getD i A.zero)) k).length → ((l.take k).filter p).getD n A.zero = l.getD ((hits (fun i => p (l.getD i A.zero)) k).getD n 0).toNat A.zero := by
  intro k
  induction k with
  | zero => intro _; exact ⟨by simp [hits], fun n hn => by simp [hits] at hn⟩
  | succ k ih =>
    intro hk
    obtain ⟨h1, h2⟩ := ih (by omega)
    have e : l.getD k A.zero = l[k] := by simp [List.getD, List.getElem?_eq_getElem (show k < l.length by omega)]
    rw [List.take_succ_eq_append_getElem (show k < l.length by omega), List.filter_append]
    by_cases hp : p (l.getD k A.zero) = true
    · rw [hits_t (q := fun i => p (l.getD i A.zero)) hp]
      rw [e] at hp
      rw [show List.filter p [l[k]] = [l[k]] by simp [hp]]
      refine ⟨by simp [h1], fun n hn => ?_⟩
      by_cases hn2 : n < (hits (fun i => p (l.getD i A.zero)) k).length
      · rw [getD_snoc_lt hn2, ← h2 n hn2]
        simp [List.getD, List.getElem?_append_left (show n < (List.filter p (List.take k l)).length by rw [h1]; exact hn2)]
      · rw [List.length_append, List.length_singleton] at hn
        have en : n = (hits (fun i => p (l.getD i A.zero)) k).length := by omega
        rw [en, getD_snoc_eq, Int.toNat_natCast, e, ← h1]
        simp [List.getD]
    · have hp' : p (l.getD k A.zero) = false := by simpa using hp
      rw [hits_f (q := fun i => p (l.getD i A.zero)) hp']
      rw [e] at hp'
      rw [show List.filter p [l[k]] = [] by simp [hp'], List.append_nil]
      exact ⟨h1, h2⟩
/-- An arc, its ends numbered anew. -/
def ren (q : Nat → Bool) (x : A) : A := ⟨((hits q x.f.toNat).length : Nat), ((hits q x.t.toNat).length : Nat), x.w⟩
/-- The arcs of the graph of some vertices. -/
def indA (q : Nat → Bool) (l : List A) : List A := (l.filter (both q)).map (ren q)
/-- Their ids. -/
def indI (q : Nat → Bool) (l : List A) : List Int := hits (fun k => both q (l.getD k A.zero)) l.length
theorem indA_len (q : Nat → Bool) (l : List A) : (indA q l).length = (indI q l).length := by
  have := (filter_hits (both q) l l.length (Nat.le_refl _)).1
  rw [List.take_length] at this
  unfold indA indI
  rw [List.length_map, this]
theorem indA_getD (q : Nat → Bool) (l : List A) (n : Nat) (h : n < (indI q l).length) : (indA q l).getD n A.zero = ren q (l.getD ((indI q l).getD n 0).toNat A.zero) := by
  have h0 := filter_hits (both q) l l.length (Nat.le_refl _)
  rw [List.take_length] at h0
  have h1 := h0.2 n h
  have hl : n < (l.filter (both q)).length := by rw [h0.1]; exact h
  unfold indA indI
  rw [← h1]
  simp [List.getD, List.getElem?_eq_getElem hl]
theorem indA_ext {q : Nat → Bool} {l Y : List A} (hy : Y.length = (indI q l).length) (h : ∀ n, n < (indI q l).length → Y.getD n A.zero = ren q (l.getD ((indI q l).getD n 0).toNat A.zero)) : Y = indA q l := by
  apply List.ext_getElem (by rw [indA_len]; exact hy)
  intro j h1 h2
  have e1 : Y.getD j A.zero = Y[j] := by simp [List.getD, List.getElem?_eq_getElem h1]
  have e2 : (indA q l).getD j A.zero = (indA q l)[j] := by simp [List.getD, List.getElem?_eq_getElem h2]
  rw [← e1, ← e2, indA_getD q l j (by omega), h j (by omega)]
theorem made3 (n : Nat) : (madeCells #[.int .i64 0, .int .i64 0, .int .u32 0] (n * 3)).toList = cellsA (List.replicate n A.zero) := by
  apply List.ext_getElem?
  intro i
  by_cases h : i < n * 3
  · have hj : i / 3 < (List.replicate n A.zero).length := by rw [List.length_replicate]; omega
    obtain ⟨h0, h1, h2⟩ := cellsA_at _ _ hj
    have e : (List.replicate n A.zero).getD (i / 3) A.zero = A.zero := by
      rw [List.length_replicate] at hj
      simp [List.getD, hj]
    rw [e] at h0 h1 h2
    have hm : (madeCells #[.int .i64 0, .int .i64 0, .int .u32 0] (n * 3)).toList[i]? = some (#[Value.int .i64 0, .int .i64 0, .int .u32 0][i % 3]!) := by
      simp [madeCells, h]
    rw [hm]
    have hi : i = i / 3 * 3 + i % 3 := by omega
    rcases (show i % 3 = 0 ∨ i % 3 = 1 ∨ i % 3 = 2 by omega) with e | e | e
    · rw [e] at hi ⊢
      rw [Nat.add_zero] at hi
      rw [hi, h0]; rfl
    · rw [e] at hi ⊢
      rw [hi, h1]; rfl
    · rw [e] at hi ⊢
      rw [hi, h2]; rfl
  · rw [List.getElem?_eq_none (by rw [Array.length_toList, size_madeCells]; omega), List.getElem?_eq_none (by rw [cellsA_len, List.length_replicate]; omega)]
end Go.Proofs.Ytgkpmcpkobphpaa.T3
