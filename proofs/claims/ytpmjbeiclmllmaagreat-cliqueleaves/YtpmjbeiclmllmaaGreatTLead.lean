/-
  Plain mathematics of leaders and labels: no program in it.
-/
import Derived.Test.YtpmjbeiclmllmaaGreatTAround
namespace Go.Proofs.YtpmjbeiclmllmaaGreat.T3
open Go.RowKit
/-- Numbers, as numbers with a sign. -/
def ints (L : List Nat) : List Int := L.map (fun x : Nat => (x : Int))
theorem ints_len (L : List Nat) : (ints L).length = L.length := by unfold ints; simp
theorem ints_getD (L : List Nat) (k : Nat) : (ints L).getD k 0 = ((L.getD k 0 : Nat) : Int) := by
  unfold ints
  by_cases h : k < L.length
  · simp [List.getD, List.getElem?_eq_getElem h]
  · simp [List.getD, List.getElem?_eq_none (Nat.le_of_not_lt h)]
theorem ints_set (L : List Nat) (k x : Nat) : (ints L).set k (x : Int) = ints (L.set k x) := by unfold ints; rw [List.map_set]
theorem getD_set (L : List Nat) (k j x : Nat) (hk : k < L.length) : (L.set k x).getD j 0 = if j = k then x else L.getD j 0 := by
  by_cases h : j = k
  · subst h; simp [List.getD, hk]
  · rw [if_neg h]; simp [List.getD, Ne.symm h]
/-- Whom each follows, and who leads each in the end. -/
structure Lead (n : Nat) (L : List Nat) (R : Nat → Nat) : Prop where
  len : L.length = n
  le : ∀ v, v < n → L.getD v 0 ≤ v
  on : ∀ v, v < n → R (L.getD v 0) = R v
  top : ∀ v, v < n → L.getD v 0 = v → R v = v
  rle : ∀ v, R v ≤ v
  rr : ∀ v, R (R v) = R v
theorem Lead.short {n : Nat} {L : List Nat} {R : Nat → Nat} (h : Lead n L R) {u : Nat} (hu : u < n) (hne : L.getD u 0 ≠ u) : Lead n (L.set u (L.getD (L.getD u 0) 0)) R ∧ L.getD (L.getD u 0) 0 < u ∧ R (L.getD (L.getD u 0) 0) = R u := by
  have h1 := h.le u hu
  have hy : L.getD u 0 < n := by omega
  have h2 := h.le _ hy
  have e1 := h.on u hu
  have e2 := h.on _ hy
  have hl : u < L.length := by rw [h.len]; exact hu
  refine ⟨⟨by rw [List.length_set]; exact h.len, fun v hv => ?_, fun v hv => ?_, fun v hv he => ?_, h.rle, h.rr⟩, by omega, by omega⟩
  · rw [getD_set _ _ _ _ hl]
    split
    · omega
    · exact h.le v hv
  · rw [getD_set _ _ _ _ hl]
    split
    · rename_i e; rw [e]; omega
    · exact h.on v hv
  · rw [getD_set _ _ _ _ hl] at he
    split at he
    · rename_i e; omega
    · exact h.top v hv he
/-- Leaders, when one leader follows another one. -/
def mgW (R : Nat → Nat) (M m : Nat) : Nat → Nat := fun x => if R x = M then m else R x
/-- Leaders, when two have been joined. -/
def mg (R : Nat → Nat) (a b : Nat) : Nat → Nat := mgW R (max (R a) (R b)) (min (R a) (R b))
theorem mg_comm (R : Nat → Nat) (a b : Nat) : mg R a b = mg R b a := by unfold mg; rw [Nat.max_comm, Nat.min_comm]
theorem Lead.joinW {n : Nat} {L : List Nat} {R : Nat → Nat} (h : Lead n L R) {M m : Nat} (hM : R M = M) (hm : R m = m) (hle : m ≤ M) (hlt : M < n) : Lead n (L.set M m) (mgW R M m) := by
  have hl : M < L.length := by rw [h.len]; exact hlt
  have em : mgW R M m m = m := by unfold mgW; rw [hm]; split <;> rfl
  have eM : mgW R M m M = m := by unfold mgW; rw [hM, if_pos rfl]
  refine ⟨by rw [List.length_set]; exact h.len, fun v hv => ?_, fun v hv => ?_, fun v hv he => ?_, fun v => ?_, fun v => ?_⟩
  · rw [getD_set _ _ _ _ hl]
    split
    · omega
    · exact h.le v hv
  · rw [getD_set _ _ _ _ hl]
    split
    · rename_i e; rw [e, em, eM]
    · unfold mgW; rw [h.on v hv]
  · rw [getD_set _ _ _ _ hl] at he
    split at he
    · rename_i e; rw [e, eM]; omega
    · have := h.top v hv he
      rename_i hne
      unfold mgW; rw [this, if_neg hne]
  · have := h.rle v
    unfold mgW
    split <;> omega
  · by_cases e : R v = M
    · rw [show mgW R M m v = m from if_pos e, em]
    · rw [show mgW R M m v = R v from if_neg e]
      unfold mgW
      rw [h.rr v, if_neg e]
theorem Lead.join {n : Nat} {L : List Nat} {R : Nat → Nat} (h : Lead n L R) {a b : Nat} (ha : a < n) (hb : b < n) : Lead n (L.set (max (R a) (R b)) (min (R a) (R b))) (mg R a b) := by
  have ra := h.rle a
  have rb := h.rle b
  refine h.joinW ?_ ?_ (by omega) (by omega)
  · rcases Nat.le_total (R a) (R b) with e | e
    · rw [Nat.max_eq_right e]; exact h.rr b
    · rw [Nat.max_eq_left e]; exact h.rr a
  · rcases Nat.le_total (R a) (R b) with e | e
    · rw [Nat.min_eq_left e]; exact h.rr a
    · rw [Nat.min_eq_right e]; exact h.rr b
/-- How many lead themselves below a number. -/
def cnt (R : Nat → Nat) : Nat → Nat
  | 0 => 0
  | m + 1 => if R m = m then cnt R m + 1 else cnt R m
/-- The label of a vertex. -/
def lab (R : Nat → Nat) (v : Nat) : Nat := cnt R (R v)
def labs (R : Nat → Nat) (n : Nat) : List Nat := (List.range n).map (lab R)
theorem labs_len (R : Nat → Nat) (n : Nat) : (labs R n).length = n := by unfold labs; simp
theorem labs_getD (R : Nat → Nat) (n v : Nat) (h : v < n) : (labs R n).getD v 0 = lab R v := by unfold labs; simp [List.getD, h]
theorem labs_ext {R : Nat → Nat} {n : Nat} {X : List Nat} (hx : X.length = n) (h : ∀ j, j < n → X.getD j 0 = lab R j) : X = labs R n := by
  apply List.ext_getElem (by rw [labs_len]; exact hx)
  intro j h1 h2
  have e1 : X.getD j 0 = X[j] := by simp [List.getD, List.getElem?_eq_getElem h1]
  have e2 : (labs R n).getD j 0 = (labs R n)[j] := by simp [List.getD, List.getElem?_eq_getElem h2]
  rw [← e1, ← e2, labs_getD R n j (by omega), h j (by omega)]
theorem Lead.step {n : Nat} {L : List Nat} {R : Nat → Nat} (h : Lead n L R) {k : Nat} (hk : k < n) : (L.getD k 0 = k → lab R k = cnt R k ∧ cnt R (k + 1) = cnt R k + 1) ∧ (L.getD k 0 ≠ k → L.getD k 0 < k ∧ lab R k = lab R (L.getD k 0) ∧ cnt R (k + 1) = cnt R k) := by
  have h1 := h.le k hk
  constructor
  · intro e
    have := h.top k hk e
    exact ⟨by unfold lab; rw [this], by rw [cnt, if_pos this]⟩
  · intro e
    have e1 := h.on k hk
    have e2 := h.rle (L.getD k 0)
    exact ⟨by omega, by unfold lab; rw [e1], by rw [cnt, if_neg (by omega)]⟩
theorem cnt_le (R : Nat → Nat) (m : Nat) : cnt R m ≤ m := by
  induction m with
  | zero => exact Nat.le_refl _
  | succ m ih => unfold cnt; split <;> omega
/-- Who leads whom, once arcs have been gone through. -/
def lead (l : List A) : Nat → Nat := l.foldl (fun R x => mg R x.f.toNat x.t.toNat) id
theorem lead_take (l : List A) (k : Nat) (hk : k < l.length) : lead (l.take (k + 1)) = mg (lead (l.take k)) (l.getD k A.zero).f.toNat (l.getD k A.zero).t.toNat := by
  unfold lead
  rw [List.take_add_one, List.foldl_append]
  simp [List.getD, List.getElem?_eq_getElem hk]
theorem Lead.start (n : Nat) {L : List Nat} (hl : L.length = n) (h : ∀ j, j < n → L.getD j 0 = j) : Lead n L id :=
  ⟨hl, fun v hv => by rw [h v hv]; exact Nat.le_refl _, fun v hv => by rw [h v hv], fun _ _ _ => rfl, fun _ => Nat.le_refl _, fun _ => rfl⟩
end Go.Proofs.YtpmjbeiclmllmaaGreat.T3
