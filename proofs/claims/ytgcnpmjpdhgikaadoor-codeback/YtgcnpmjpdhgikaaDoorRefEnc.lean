/-
  Plain mathematics: the size that is counted is that of the item's bytes, or both are too great.
-/
import Derived.Test.YtgcnpmjpdhgikaaDoorRefSizeL
import Derived.Test.YtgcnpmjpdhgikaaDoorEnc
namespace Go.Proofs.YtgcnpmjpdhgikaaDoor
theorem loopS_cat {Zs : Nat → Nat} {Z : Nat → List UInt8} {m : Nat} (h1 : ∀ j, j < m → (Z j).length ≤ 262144 → Zs j = (Z j).length) (h2 : ∀ j, j < m → 262144 < (Z j).length → 262144 < Zs j) (x : Nat) :
    (x + (catE Z m).length ≤ 262144 → loopS Zs m x = x + (catE Z m).length) ∧ (262144 < x + (catE Z m).length → 262144 < loopS Zs m x) := by
  induction m with
  | zero => exact ⟨fun _ => rfl, fun h => h⟩
  | succ m ih =>
    obtain ⟨i1, i2⟩ := ih (fun j hj => h1 j (by omega)) (fun j hj => h2 j (by omega))
    have e : (catE Z (m + 1)).length = (catE Z m).length + (Z m).length := by show (catE Z m ++ Z m).length = _; rw [List.length_append]
    rw [loopS_succ, e]
    constructor
    · intro h
      rw [i1 (by omega), if_neg (by omega), h1 m (by omega) (by omega)]
      omega
    · intro h
      by_cases hc : 262144 < x + (catE Z m).length
      · rw [if_pos (i2 hc)]; exact i2 hc
      · rw [i1 (by omega), if_neg (by omega)]
        by_cases hz : 262144 < (Z m).length
        · have := h2 m (by omega) hz; omega
        · rw [h1 m (by omega) (by omega)]; omega
theorem sizeF_enc (f : Nat) : ∀ t : T, ((encF f t).length ≤ 262144 → sizeF f t = (encF f t).length) ∧ (262144 < (encF f t).length → 262144 < sizeF f t) := by
  induction f with
  | zero => intro t; exact ⟨fun _ => rfl, fun h => h⟩
  | succ f ih =>
    intro t
    unfold sizeF encF
    by_cases h1 : t.k = 1
    · rw [if_pos h1, if_pos h1]
      exact ⟨fun _ => by simp; omega, fun h => by simp at h; omega⟩
    · rw [if_neg h1, if_neg h1]
      by_cases h2 : t.k = 2
      · rw [if_pos h2, if_pos h2]
        have hl : t.s.data.toList.length = t.s.size := by simp
        simp only [List.length_cons, List.length_append, hl]
        exact ⟨fun _ => by omega, fun h => by omega⟩
      · rw [if_neg h2, if_neg h2]
        obtain ⟨i1, i2⟩ := loopS_cat (Zs := fun j => sizeF f (t.m j)) (Z := fun j => encF f (t.m j)) (m := t.l.length) (fun j _ h => (ih (t.m j)).1 h) (fun j _ h => (ih (t.m j)).2 h) (1 + (numD t.l.length).length)
        simp only [List.length_cons, List.length_append]
        exact ⟨fun h => by rw [i1 (by omega)]; omega, fun h => i2 (by omega)⟩
end Go.Proofs.YtgcnpmjpdhgikaaDoor
