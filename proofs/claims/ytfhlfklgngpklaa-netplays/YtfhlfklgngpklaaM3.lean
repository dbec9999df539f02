/-
  Mathematics: both nets tell the same links.
-/
import Derived.Test.YtfhlfklgngpklaaM2
namespace Go.Proofs.Ytfhlfklgngpklaa
open Go.RowKit Go.Maps
def sLt (x y : Pr) : Prop := x.a < y.a ∨ (x.a = y.a ∧ x.b < y.b)
theorem sorted_eq : ∀ (l m : List Pr), l.Pairwise sLt → m.Pairwise sLt → (∀ x, x ∈ l ↔ x ∈ m) → l = m
  | [], [], _, _, _ => rfl
  | [], y :: m, _, _, h => absurd ((h y).2 (by simp)) (by simp)
  | x :: l, [], _, _, h => absurd ((h x).1 (by simp)) (by simp)
  | x :: l, y :: m, hl, hm, h => by
    obtain ⟨h1, h2⟩ := List.pairwise_cons.1 hl
    obtain ⟨h3, h4⟩ := List.pairwise_cons.1 hm
    have hxy : x = y := by
      rcases List.mem_cons.1 ((h x).1 (by simp)) with e | e
      · exact e
      · rcases List.mem_cons.1 ((h y).2 (by simp)) with e' | e'
        · exact e'.symm
        · have q1 := h3 x e
          have q2 := h1 y e'
          unfold sLt at q1 q2
          omega
    subst hxy
    have ih := sorted_eq l m h2 h4 (fun z => by
      have hz := h z
      constructor
      · intro e
        rcases List.mem_cons.1 (hz.1 (List.mem_cons_of_mem _ e)) with e' | e'
        · subst e'
          have := h1 z e
          unfold sLt at this
          omega
        · exact e'
      · intro e
        rcases List.mem_cons.1 (hz.2 (List.mem_cons_of_mem _ e)) with e' | e'
        · subst e'
          have := h3 z e
          unfold sLt at this
          omega
        · exact e')
    rw [ih]
theorem mem_rowK (R : RS) (a : Nat) (p : Pr) : ∀ n, p ∈ rowK R a n ↔ ∃ b, b < n ∧ p = pN a b ∧ 0 < (pls p R.ls 0).length
  | 0 => by simp [rowK]
  | n + 1 => by
    simp only [rowK, List.mem_append, mem_rowK R a p n]
    constructor
    · rintro (⟨b, h1, h2, h3⟩ | h)
      · exact ⟨b, by omega, h2, h3⟩
      · split at h
        · rename_i hp
          simp at h
          subst h
          exact ⟨n, by omega, rfl, hp⟩
        · cases h
    · rintro ⟨b, h1, h2, h3⟩
      by_cases e : b = n
      · subst e
        subst h2
        exact Or.inr (by simp [h3])
      · exact Or.inl ⟨b, by omega, h2, h3⟩
theorem mem_lnk (R : RS) (p : Pr) : ∀ n, p ∈ lnk R n ↔ ∃ a b, a < n ∧ b < R.up.length ∧ p = pN a b ∧ 0 < (pls p R.ls 0).length
  | 0 => by simp [lnk]
  | n + 1 => by
    simp only [lnk, List.mem_append, mem_lnk R p n, mem_rowK]
    constructor
    · rintro (⟨a, b, h1, h2, h3, h4⟩ | ⟨b, h1, h2, h3⟩)
      · exact ⟨a, b, by omega, h2, h3, h4⟩
      · exact ⟨n, b, by omega, h1, h2, h3⟩
    · rintro ⟨a, b, h1, h2, h3, h4⟩
      by_cases e : a = n
      · subst e
        exact Or.inr ⟨b, h2, h3, h4⟩
      · exact Or.inl ⟨a, b, by omega, h2, h3, h4⟩
theorem rowK_sorted (R : RS) (a : Nat) : ∀ n, (rowK R a n).Pairwise sLt
  | 0 => List.Pairwise.nil
  | n + 1 => by
    refine List.pairwise_append.2 ⟨rowK_sorted R a n, by split <;> simp, fun x hx y hy => ?_⟩
    obtain ⟨b, h1, h2, _⟩ := (mem_rowK R a x n).1 hx
    split at hy
    · simp at hy
      subst hy h2
      exact Or.inr ⟨rfl, by show (b : Int) < (n : Int); omega⟩
    · cases hy
theorem lnk_sorted (R : RS) : ∀ n, (lnk R n).Pairwise sLt
  | 0 => List.Pairwise.nil
  | n + 1 => by
    refine List.pairwise_append.2 ⟨lnk_sorted R n, rowK_sorted R n _, fun x hx y hy => ?_⟩
    obtain ⟨a, b, h1, _, h2, _⟩ := (mem_lnk R x n).1 hx
    obtain ⟨b', _, h3, _⟩ := (mem_rowK R n y _).1 hy
    subst h2 h3
    exact Or.inl (by show (a : Int) < (n : Int); omega)
theorem RelB.none_out {S : NS} {R : RS} (h : RelB S R) {p : Pr} (hp : ¬ In S.N p) : (pls p R.ls 0).length = 0 := by
  rw [pls_bgF]
  unfold bgF
  rw [List.length_map, List.length_eq_zero_iff, List.filter_eq_nil_iff]
  intro x hx e
  have := h.inn x hx
  simp only [decide_eq_true_eq] at e
  rw [e] at this
  exact hp this
theorem RelB.links {S : NS} {R : RS} (h : RelB S R) {l : List Pr} (hl : LinksOf S l) : l = lnk R R.up.length := by
  obtain ⟨h1, h2, h3⟩ := hl
  refine sorted_eq l _ ?_ (lnk_sorted R _) (fun p => ?_)
  · refine (List.pairwise_and_iff.2 ⟨h3, h1⟩).imp (fun {x y} hxy => ?_)
    have hlt : ∀ p q : Pr, ltOf cmpP p q = true ↔ (p.a < q.a ∨ (p.a = q.a ∧ p.b < q.b)) := by
      intro p q
      unfold ltOf cmpP cmpI
      simp only [decide_eq_true_eq]
      split <;> split <;> (try split) <;> (try split) <;> omega
    obtain ⟨q1, q2⟩ := hxy
    have q3 : ¬ (y.a < x.a ∨ (y.a = x.a ∧ y.b < x.b)) := fun e => by rw [(hlt y x).2 e] at q1; cases q1
    unfold sLt
    have : ¬ (x.a = y.a ∧ x.b = y.b) := fun e => q2 (by cases x; cases y; simp at e; simp [e])
    omega
  · rw [h2, mem_lnk]
    constructor
    · rintro ⟨hI, hb⟩
      obtain ⟨q1, q2, q3, q4, q5⟩ := hI
      refine ⟨p.a.toNat, p.b.toNat, by rw [h.len]; omega, by rw [h.len]; omega, ?_, ?_⟩
      · obtain ⟨x, y⟩ := p
        unfold pN
        simp only at q1 q3
        simp only [Pr.mk.injEq]
        omega
      · rw [h.cnt ⟨q1, q2, q3, q4, q5⟩]
        exact List.length_pos_iff.2 hb
    · rintro ⟨a, b, _, _, _, h4⟩
      by_cases hI : In S.N p
      · refine ⟨hI, ?_⟩
        rw [h.cnt hI] at h4
        exact List.length_pos_iff.1 h4
      · rw [h.none_out hI] at h4
        omega
end Go.Proofs.Ytfhlfklgngpklaa
