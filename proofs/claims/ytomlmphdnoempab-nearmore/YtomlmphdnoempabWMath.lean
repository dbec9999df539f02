/-
  Walks told by last arcs: what holds while the search goes on.
-/
import Derived.Test.YtomlmphdnoempabSMath
namespace Go.Proofs.Ytomlmphdnoempab
open Hp (upd upd_self upd_ne)
/-- The vertices of a walk behind its first one. -/
def heads (l : List A) (p : List Nat) : List Nat := p.map (fun j => dst (ar l j))
/-- Ids are a walk from s to v. -/
inductive Pth (l : List A) (s : Nat) : Nat → List Nat → Prop
  | nil : Pth l s s []
  | snoc {v j : Nat} {p : List Nat} : j < l.length → src (ar l j) = v → Pth l s v p → Pth l s (dst (ar l j)) (p ++ [j])
/-- Its length. -/
def plen (l : List A) : List Nat → Int
  | [] => 0
  | j :: p => (ar l j).w + plen l p
theorem plen_snoc (l : List A) (p : List Nat) (j : Nat) : plen l (p ++ [j]) = plen l p + (ar l j).w := by
  induction p with
  | nil => simp [plen]
  | cons i p ih => simp [plen, ih]; omega
def updP (P : Nat → List Nat) (x : Nat) (p : List Nat) : Nat → List Nat := fun u => if u = x then p else P u
theorem updP_self (P : Nat → List Nat) (x : Nat) (p : List Nat) : updP P x p x = p := by simp [updP]
theorem updP_ne (P : Nat → List Nat) {x y : Nat} (p : List Nat) (h : y ≠ x) : updP P x p y = P y := by simp [updP, h]
/-- What holds of the last arcs L: each vertex that was reached has a walk P. -/
structure WJ (l : List A) (s : Nat) (F : Nat → Int) (T : Nat → Option Int) (L : Nat → Int) : Prop where
  ex : ∃ P : Nat → List Nat, (F s < Inf → P s = []) ∧ ∀ v, F v < Inf → Pth l s v (P v) ∧ plen l (P v) = F v ∧ (s :: heads l (P v)).Nodup ∧ (∀ u ∈ s :: heads l (P v), u ≠ v → F u < Inf ∧ T u = none) ∧
    (v ≠ s → ∃ j, L v = (j : Nat) ∧ j < l.length ∧ dst (ar l j) = v ∧ F (src (ar l j)) < Inf ∧ T (src (ar l j)) = none ∧ P v = P (src (ar l j)) ++ [j])
theorem Pth.end_mem {l : List A} {s v : Nat} {p : List Nat} (h : Pth l s v p) : v ∈ s :: heads l p := by
  cases h with
  | nil => simp
  | snoc _ _ _ => simp [heads]
theorem WJ.init (l : List A) (s : Nat) (L : Nat → Int) : WJ l s (updI (fun _ => Inf) s 0) (upd (fun _ => none) s (some 0)) L := by
  refine ⟨fun _ => [], fun _ => rfl, fun v hv => ?_⟩
  by_cases e : v = s
  · subst e
    rw [updI_self]
    exact ⟨Pth.nil, rfl, by simp [heads], fun u hu hne => absurd (by simpa [heads] using hu) hne, fun h => absurd rfl h⟩
  · rw [updI_ne _ _ e] at hv; omega
theorem WJ.pop {l : List A} {s : Nat} {F : Nat → Int} {T : Nat → Option Int} {L : Nat → Int} (h : WJ l s F T L) (v : Nat) : WJ l s F (upd T v none) L := by
  obtain ⟨P, h0, h1⟩ := h.ex
  have ht : ∀ u, T u = none → upd T v none u = none := fun u hu => by
    by_cases e : u = v
    · subst e; rw [upd_self]
    · rw [upd_ne _ _ e]; exact hu
  refine ⟨P, h0, fun u hu => ?_⟩
  obtain ⟨a, b, c, d, e⟩ := h1 u hu
  refine ⟨a, b, c, fun x hx hne => ⟨(d x hx hne).1, ht x (d x hx hne).2⟩, fun hne => ?_⟩
  obtain ⟨j, e1, e2, e3, e4, e5, e6⟩ := e hne
  exact ⟨j, e1, e2, e3, e4, ht _ e5, e6⟩
theorem WJ.take {l : List A} {ok : Nat → Bool} {s : Nat} {F : Nat → Int} {T : Nat → Option Int} {K v : Nat} {d : Int} {k j : Nat} {L : Nat → Int} (h : WJ l s F T L) (m : Mid l ok s F T K v d k) (hw : ∀ x ∈ l, 0 ≤ x.w) (hs0 : F s ≤ 0) (hj : j < l.length) (hs : src (ar l j) = v) (hlt : sat d (ar l j).w < F (dst (ar l j))) :
    WJ l s (updI F (dst (ar l j)) (sat d (ar l j).w)) (upd T (dst (ar l j)) (some (sat d (ar l j).w))) (updI L (dst (ar l j)) j) := by
  obtain ⟨P, h0, h1⟩ := h.ex
  have hwx := hw _ (ar_mem hj)
  have hd0 := m.inv.lo v
  rw [m.fv] at hd0
  have hx1 := m.inv.hi (dst (ar l j))
  have hsat : sat d (ar l j).w = d + (ar l j).w := sat_lt (by omega)
  have hvf : F v < Inf := by rw [m.fv]; exact m.di
  rw [hsat] at hlt ⊢
  generalize hX : dst (ar l j) = x at *
  have hxs : ¬ (F x < Inf ∧ T x = none) := fun e => by have := m.top x e.1 e.2; omega
  have hxv : v ≠ x := fun e => hxs (by rw [← e]; exact ⟨hvf, m.tv⟩)
  have hsx : s ≠ x := fun e => by rw [← e] at hlt; omega
  -- a vertex that is done is not x
  have hdone : ∀ u, F u < Inf → T u = none → u ≠ x ∧ updI F x (d + (ar l j).w) u < Inf ∧ upd T x (some (d + (ar l j).w)) u = none := fun u e1 e2 => by
    have hne : u ≠ x := fun e => hxs (by rw [← e]; exact ⟨e1, e2⟩)
    exact ⟨hne, by rw [updI_ne _ _ hne]; exact e1, by rw [upd_ne _ _ hne]; exact e2⟩
  obtain ⟨a, b, c, e, _⟩ := h1 v hvf
  have hall : ∀ u ∈ s :: heads l (P v), F u < Inf ∧ T u = none := fun u hu => by
    by_cases hne : u = v
    · subst hne; exact ⟨hvf, m.tv⟩
    · exact e u hu hne
  refine ⟨updP P x (P v ++ [j]), fun hf => ?_, fun u hu => ?_⟩
  · rw [updP_ne _ _ hsx]
    rw [updI_ne _ _ hsx] at hf
    exact h0 hf
  · by_cases hux : u = x
    · subst hux
      rw [updP_self, updI_self]
      have hh : heads l (P v ++ [j]) = heads l (P v) ++ [u] := by simp [heads, hX]
      refine ⟨by rw [← hX]; exact Pth.snoc hj hs a, by rw [plen_snoc, b, m.fv], ?_, fun y hy hne => ?_, fun _ => ⟨j, by rw [updI_self], hj, hX, ?_, ?_, ?_⟩⟩
      · rw [hh, ← List.cons_append, List.nodup_append]
        refine ⟨c, by simp, fun y hy z hz => ?_⟩
        simp at hz
        subst hz
        exact fun e' => (hdone y (hall y hy).1 (hall y hy).2).1 e'
      · rw [hh, ← List.cons_append, List.mem_append] at hy
        rcases hy with hy | hy
        · exact (hdone y (hall y hy).1 (hall y hy).2).2
        · simp at hy; exact absurd hy hne
      · rw [hs]; exact (hdone v hvf m.tv).2.1
      · rw [hs]; exact (hdone v hvf m.tv).2.2
      · rw [hs, updP_ne _ _ hxv]
    · rw [updP_ne _ _ hux]
      rw [updI_ne _ _ hux] at hu
      obtain ⟨a', b', c', e', f'⟩ := h1 u hu
      refine ⟨a', by rw [updI_ne _ _ hux]; exact b', c', fun y hy hne => (hdone y (e' y hy hne).1 (e' y hy hne).2).2, fun hne => ?_⟩
      obtain ⟨i, i1, i2, i3, i4, i5, i6⟩ := f' hne
      obtain ⟨k1, k2, k3⟩ := hdone _ i4 i5
      exact ⟨i, by rw [updI_ne _ _ hux]; exact i1, i2, i3, k2, k3, by rw [updP_ne _ _ k1]; exact i6⟩
end Go.Proofs.Ytomlmphdnoempab
