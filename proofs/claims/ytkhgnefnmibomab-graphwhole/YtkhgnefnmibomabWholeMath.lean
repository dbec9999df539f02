/-
  Plain mathematics of the graph of all vertices, and of some of some. No program in it.
-/
import Derived.Test.YtkhgnefnmibomabConn
namespace Go.Proofs.Ytkhgnefnmibomab
open Go.RowKit
theorem hits_len_succ (q : Nat → Bool) (n : Nat) : (hits q (n + 1)).length = (hits q n).length + (if q n then 1 else 0) := by
  by_cases hq : q n = true
  · rw [hits_t hq, if_pos hq]; simp
  · have hq' : q n = false := by simpa using hq
    rw [hits_f hq', if_neg (by simp [hq'])]; omega
theorem hits_all {q : Nat → Bool} : ∀ {n : Nat}, (∀ v, v < n → q v = true) → (hits q n).length = n
  | 0, _ => rfl
  | n + 1, h => by
    rw [hits_t (h n (by omega)), List.length_append, hits_all (fun v hv => h v (by omega))]; rfl
theorem ind_all {q : Nat → Bool} {n : Nat} {l : List A} (h : ∀ v, v < n → q v = true) (hall : ∀ x ∈ l, (0 ≤ x.f ∧ x.f < n) ∧ (0 ≤ x.t ∧ x.t < n)) : indA q l = l := by
  have h1 : l.filter (both q) = l := by
    rw [List.filter_eq_self]
    intro x hx
    have := hall x hx
    unfold both
    rw [h _ (by omega), h _ (by omega)]; rfl
  unfold indA
  rw [h1]
  have h2 : ∀ x ∈ l, ren q x = x := by
    intro x hx
    have hx' := hall x hx
    unfold ren
    rw [hits_all (fun v hv => h v (by omega)), hits_all (fun v hv => h v (by omega))]
    obtain ⟨f, t, w⟩ := x
    simp only [A.mk.injEq, and_true] at *
    omega
  have h3 : l.map (ren q) = l.map id := List.map_congr_left h2
  rw [h3, List.map_id]
theorem comp_rank {q r s : Nat → Bool} {n : Nat} (h : ∀ v, v < n → s v = (q v && r (hits q v).length)) : ∀ v, v ≤ n → (hits s v).length = (hits r (hits q v).length).length
  | 0, _ => rfl
  | v + 1, hv => by
    have ih := comp_rank h v (by omega)
    have e := h v (by omega)
    by_cases hq : q v = true
    · rw [hits_t hq, List.length_append, List.length_singleton, hits_len_succ r, hits_len_succ s, ih, e, hq]
      simp
    · have hq' : q v = false := by simpa using hq
      rw [hits_f hq', hits_len_succ s, ih, e, hq']
      simp
theorem ind_ind {q r s : Nat → Bool} {n : Nat} {l : List A} (h : ∀ v, v < n → s v = (q v && r (hits q v).length)) (hall : ∀ x ∈ l, (0 ≤ x.f ∧ x.f < n) ∧ (0 ≤ x.t ∧ x.t < n)) : indA r (indA q l) = indA s l := by
  unfold indA
  rw [List.filter_map, List.map_map, List.filter_filter]
  have e1 : ∀ x ∈ l, (both q x && (both r ∘ ren q) x) = both s x ∧ (ren r ∘ ren q) x = ren s x := by
    intro x hx
    have hx' := hall x hx
    have hf := h x.f.toNat (by omega)
    have ht := h x.t.toNat (by omega)
    have cf := comp_rank h x.f.toNat (by omega)
    have ct := comp_rank h x.t.toNat (by omega)
    constructor
    · show (both q x && both r (ren q x)) = both s x
      unfold both ren
      rw [hf, ht]
      simp only [Int.toNat_natCast]
      cases q x.f.toNat <;> cases q x.t.toNat <;> simp
    · show ren r (ren q x) = ren s x
      unfold ren
      simp only [Int.toNat_natCast]
      rw [cf, ct]
  have e2 : l.filter (fun a => both q a && (both r ∘ ren q) a) = l.filter (both s) := List.filter_congr (fun x hx => (e1 x hx).1)
  have e3 : l.filter (fun a => (both r ∘ ren q) a && both q a) = l.filter (both s) := List.filter_congr (fun x hx => by rw [Bool.and_comm]; exact (e1 x hx).1)
  first
    | rw [e2]; exact List.map_congr_left (fun x hx => (e1 x (List.mem_filter.1 hx).1).2)
    | rw [e3]; exact List.map_congr_left (fun x hx => (e1 x (List.mem_filter.1 hx).1).2)
end Go.Proofs.Ytkhgnefnmibomab
