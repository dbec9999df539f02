/-
  Plain mathematics of an item's bytes: what appendItem makes is they, or too long.
-/
import Derived.Test.YtchmiiclogmheaaDoorCEncode
namespace Go.Proofs.YtchmiiclogmheaaDoor.C2
/-- Members' bytes, one behind the other. -/
def catE (Z : Nat → List UInt8) : Nat → List UInt8
  | 0 => []
  | j + 1 => catE Z j ++ Z j
/-- An item's bytes. -/
def encF : Nat → T → List UInt8
  | 0, _ => []
  | f + 1, t => if t.k = 1 then 1 :: numD t.n.toNat else if t.k = 2 then 2 :: (numD t.s.size ++ t.s.data.toList) else 3 :: (numD t.l.length ++ catE (fun j => encF f (t.m j)) t.l.length)
set_option maxRecDepth 100000 in
theorem catE_mono (Z : Nat → List UInt8) {i j : Nat} (h : i ≤ j) : (catE Z i).length ≤ (catE Z j).length := by
  induction j with
  | zero => have : i = 0 := by omega
            subst this; exact Nat.le_refl _
  | succ j ih =>
    by_cases e : i = j + 1
    · subst e; exact Nat.le_refl _
    · have := ih (by omega)
      show _ ≤ (catE Z j ++ Z j).length
      rw [List.length_append]; omega
set_option maxRecDepth 100000 in
/-- The loop over the members: the bytes, or too long. -/
theorem loopF_cat {R : Nat → List UInt8 → List UInt8} {Z : Nat → List UInt8} {m : Nat}
    (h1 : ∀ j, j < m → ∀ x : List UInt8, x.length + (Z j).length ≤ 262144 → R j x = x ++ Z j)
    (h2 : ∀ j, j < m → ∀ x : List UInt8, 262144 < x.length + (Z j).length → 262144 < (R j x).length) (x : List UInt8) :
    (x.length + (catE Z m).length ≤ 262144 → loopF R m x = x ++ catE Z m) ∧ (262144 < x.length + (catE Z m).length → 262144 < (loopF R m x).length) := by
  induction m with
  | zero => exact ⟨fun _ => by show x = x ++ []; simp, fun h => by show 262144 < x.length; simpa [catE] using h⟩
  | succ m ih =>
    obtain ⟨i1, i2⟩ := ih (fun j hj => h1 j (by omega)) (fun j hj => h2 j (by omega))
    have e : (catE Z (m + 1)).length = (catE Z m).length + (Z m).length := by show (catE Z m ++ Z m).length = _; rw [List.length_append]
    rw [loopF_succ, e]
    constructor
    · intro h
      rw [i1 (by omega), if_neg (by rw [List.length_append]; omega), h1 m (by omega) _ (by rw [List.length_append]; omega)]
      show _ = x ++ (catE Z m ++ Z m)
      rw [List.append_assoc]
    · intro h
      by_cases hc : 262144 < x.length + (catE Z m).length
      · rw [if_pos (i2 hc)]; exact i2 hc
      · rw [i1 (by omega), if_neg (by rw [List.length_append]; omega)]
        exact h2 m (by omega) _ (by rw [List.length_append]; omega)
set_option maxRecDepth 100000 in
theorem appF_enc (f : Nat) : ∀ (t : T) (x : List UInt8), (x.length + (encF f t).length ≤ 262144 → appF f x t = x ++ encF f t) ∧ (262144 < x.length + (encF f t).length → 262144 < (appF f x t).length) := by
  induction f with
  | zero => intro t x; exact ⟨fun _ => by unfold appF encF; simp, fun h => by simpa [appF, encF] using h⟩
  | succ f ih =>
    intro t x
    unfold appF encF
    by_cases h1 : t.k = 1
    · rw [if_pos h1, if_pos h1]
      exact ⟨fun _ => by simp, fun h => by simp at h ⊢; omega⟩
    · rw [if_neg h1, if_neg h1]
      by_cases h2 : t.k = 2
      · rw [if_pos h2, if_pos h2]
        have hl : t.s.data.toList.length = t.s.size := by simp
        constructor
        · intro h
          simp only [List.length_cons, List.length_append, hl] at h
          rw [List.take_of_length_le (by rw [hl]; omega)]
          simp
        · intro h
          simp only [List.length_cons, List.length_append, List.length_nil, List.length_take, hl] at h ⊢
          omega
      · rw [if_neg h2, if_neg h2]
        obtain ⟨i1, i2⟩ := loopF_cat (R := fun j x => appF f x (t.m j)) (Z := fun j => encF f (t.m j)) (m := t.l.length) (fun j _ x h => (ih (t.m j) x).1 h) (fun j _ x h => (ih (t.m j) x).2 h) ((x ++ [3]) ++ numD t.l.length)
        constructor
        · intro h
          rw [i1 (by simp at h ⊢; omega)]
          simp
        · intro h
          exact i2 (by simp at h ⊢; omega)
set_option maxRecDepth 100000 in
/-- What Encode answers, by the item's bytes. -/
theorem encD_eq (t : T) : encD t = if wrongF 8 t ≠ 0 then ([], wrongF 8 t) else if 262144 < (encF 8 t).length then ([], 2) else (encF 8 t, 0) := by
  unfold encD
  obtain ⟨i1, i2⟩ := appF_enc 8 t []
  by_cases h : wrongF 8 t ≠ 0
  · rw [if_pos h, if_pos h]
  · rw [if_neg h, if_neg h]
    by_cases hl : 262144 < (encF 8 t).length
    · rw [if_pos hl, if_pos (i2 (by simpa using hl))]
    · have e := i1 (by simp; omega)
      rw [List.nil_append] at e
      rw [e, if_neg hl]
end Go.Proofs.YtchmiiclogmheaaDoor.C2
