/-
  The mathematics of nests.
-/
import Derived.Test.YtpmjbeiclmllmaaGreatNsD
import Derived.Test.YtpmjbeiclmllmaaGreatCuM
namespace Go.Proofs.YtpmjbeiclmllmaaGreat
open Go.RowKit
/-- What leasts has behind k vertices. -/
def LsP (xs : List Int) (k : Nat) (S : List Nat) : Prop :=
  S.length = (szL (xs.take k)).length ∧ (∀ j, j < S.length → S.getD j 0 < k ∧ xs.getD (S.getD j 0) 0 = (j : Int) ∧ ∀ u, u < k → xs.getD u 0 = (j : Int) → S.getD j 0 ≤ u) ∧ ∀ u, u < k → 0 ≤ xs.getD u 0 ∧ (xs.getD u 0).toNat < S.length
theorem LsP.step {xs : List Int} {k : Nat} {S : List Nat} (h : LsP xs k S) (ht : tdy xs 0 = true) (hk : k < xs.length) : LsP xs (k + 1) (lsS S k (xs.getD k 0)) := by
  obtain ⟨h1, h2, h3⟩ := h
  obtain ⟨a0, a1⟩ := right_next ht k hk
  rw [← h1] at a1
  unfold lsS
  by_cases e : xs.getD k 0 = S.length
  · rw [if_pos e]
    refine ⟨?_, fun j hj => ?_, fun u hu => ?_⟩
    · rw [take_snocI hk, szL_snoc, szS_len, ← h1, if_pos (by omega), List.length_append]; rfl
    · rw [List.length_append] at hj
      simp only [List.length_cons, List.length_nil] at hj
      by_cases e2 : j = S.length
      · subst e2
        rw [getD_end]
        refine ⟨by omega, e, fun u hu hx => ?_⟩
        by_cases e3 : u = k
        · omega
        · have := (h3 u (by omega)).2; omega
      · rw [getD_app_lt (by omega)]
        obtain ⟨b0, b1, b2⟩ := h2 j (by omega)
        refine ⟨by omega, b1, fun u hu hx => ?_⟩
        by_cases e3 : u = k
        · omega
        · exact b2 u (by omega) hx
    · rw [List.length_append]
      simp only [List.length_cons, List.length_nil]
      by_cases e3 : u = k
      · subst e3; omega
      · have := h3 u (by omega); omega
  · rw [if_neg e]
    refine ⟨?_, fun j hj => ?_, fun u hu => ?_⟩
    · rw [take_snocI hk, szL_snoc, szS_len, ← h1, if_neg (by omega)]
    · obtain ⟨b0, b1, b2⟩ := h2 j hj
      refine ⟨by omega, b1, fun u hu hx => ?_⟩
      by_cases e3 : u = k
      · omega
      · exact b2 u (by omega) hx
    · by_cases e3 : u = k
      · subst e3; omega
      · exact h3 u (by omega)
theorem LsP.go {xs : List Int} (ht : tdy xs 0 = true) : ∀ j k S, k + j = xs.length → LsP xs k S → LsP xs xs.length (lsL (xs.drop k) k S)
  | 0, k, S, e, h => by
    rw [List.drop_eq_nil_of_le (by omega)]
    have : k = xs.length := by omega
    subst this
    exact h
  | j + 1, k, S, e, h => by
    rw [drop_getI (by omega)]
    exact LsP.go ht j (k + 1) _ (by omega) (h.step ht (by omega))
/-- The least vertices of right labels. -/
theorem ls_right {xs : List Int} (ht : tdy xs 0 = true) : LsP xs xs.length (lsL xs 0 []) := by
  have h := LsP.go (xs := xs) ht xs.length 0 [] (by omega) ⟨rfl, fun j hj => absurd hj (by simp), fun u hu => absurd hu (by omega)⟩
  exact h
theorem ls_len {xs : List Int} (ht : tdy xs 0 = true) : (lsL xs 0 []).length = (szL xs).length := by
  have h := (ls_right ht).1
  rw [List.take_length] at h
  exact h
theorem right_lt {xs : List Int} (ht : tdy xs 0 = true) {u : Nat} (hu : u < xs.length) : ∃ y : Nat, xs.getD u 0 = y ∧ y < (szL xs).length := by
  have h := (ls_right ht).2.2 u hu
  rw [ls_len ht] at h
  exact ⟨(xs.getD u 0).toNat, by omega, h.2⟩
/-- Who is together in xs is together in ys. -/
def Nst (xs ys : List Int) : Prop := ∀ u, u < xs.length → ∀ v, v < xs.length → xs.getD u 0 = xs.getD v 0 → ys.getD u 0 = ys.getD v 0
instance (xs ys : List Int) : Decidable (Nst xs ys) := by unfold Nst; exact inferInstance
theorem inB_all (ys : List Int) (L : List Nat) : ∀ (xs : List Int) (k : Nat), inB ys L xs k = true ↔ ∀ i, i < xs.length → ys.getD (k + i) 0 = ys.getD (L.getD (xs.getD i 0).toNat 0) 0
  | [], k => by simp [inB]
  | x :: r, k => by
    unfold inB
    by_cases e : ys.getD k 0 = ys.getD (L.getD x.toNat 0) 0
    · rw [if_pos e, inB_all ys L r (k + 1)]
      constructor
      · intro h i hi
        cases i with
        | zero => exact e
        | succ i =>
          have := h i (by simpa using hi)
          rw [show k + (i + 1) = k + 1 + i by omega]
          exact this
      · intro h i hi
        have := h (i + 1) (by simpa using hi)
        rw [show k + (i + 1) = k + 1 + i by omega] at this
        exact this
    · rw [if_neg e]
      constructor
      · intro h; cases h
      · intro h; exact absurd (h 0 (by simp)) e
theorem inB_nst {xs : List Int} (ys : List Int) (ht : tdy xs 0 = true) : inB ys (lsL xs 0 []) xs 0 = decide (Nst xs ys) := by
  have hp := ls_right ht
  rw [Bool.eq_iff_iff, inB_all, decide_eq_true_iff]
  have key : ∀ u, u < xs.length → (lsL xs 0 []).getD (xs.getD u 0).toNat 0 < xs.length ∧ xs.getD ((lsL xs 0 []).getD (xs.getD u 0).toNat 0) 0 = xs.getD u 0 := fun u hu => by
    obtain ⟨a0, a1⟩ := hp.2.2 u hu
    obtain ⟨b0, b1, _⟩ := hp.2.1 _ a1
    exact ⟨b0, by omega⟩
  constructor
  · intro h u hu v hv e
    have h1 := h u hu
    have h2 := h v hv
    rw [Nat.zero_add] at h1 h2
    rw [h1, h2, e]
  · intro h i hi
    rw [Nat.zero_add]
    exact h i hi _ (key i hi).1 (key i hi).2.symm
/-- The members of a label. -/
def mbr (xs : List Int) (q : Int) : List Nat := (List.range xs.length).filter (fun v => decide (xs.getD v 0 = q))
theorem mbL_go (q : Int) (xs : List Int) : ∀ j k S, k + j = xs.length → mbL q (xs.drop k) k S = S ++ ((List.range' k j).filter (fun v => decide (xs.getD v 0 = q)))
  | 0, k, S, e => by
    rw [List.drop_eq_nil_of_le (by omega)]
    simp [mbL]
  | j + 1, k, S, e => by
    rw [drop_getI (by omega)]
    show mbL q (xs.drop (k + 1)) (k + 1) (mbS S k (xs.getD k 0) q) = _
    rw [mbL_go q xs j (k + 1) _ (by omega), List.range'_succ, List.filter_cons]
    unfold mbS
    by_cases c : xs.getD k 0 = q
    · rw [if_pos c, if_pos (decide_eq_true c)]; simp
    · rw [if_neg c, if_neg (by simpa using c)]
theorem mbL_eq (q : Int) (xs : List Int) : mbL q xs 0 [] = mbr xs q := by
  have h := mbL_go q xs xs.length 0 [] (by omega)
  rw [List.drop_zero, List.nil_append, ← List.range_eq_range'] at h
  exact h
/-- What is wrong with the next level. -/
def nxE (N bb : Int) (ys : List Int) (b : Int) (xs : List Int) : Int :=
  if ¬ (bb < b ∧ b ≤ 1024) then 1 else if szE N xs ≠ 0 then szE N xs else if wdB (szL xs) b = false then 90 else if ¬ Nst ys xs then 110 else 0
theorem nxE_zero {N bb : Int} {ys : List Int} {b : Int} {xs : List Int} (h : nxE N bb ys b xs = 0) : bb < b ∧ b ≤ 1024 ∧ (xs.length : Int) = N ∧ tdy xs 0 = true ∧ wdB (szL xs) b = true ∧ Nst ys xs := by
  unfold nxE at h
  split at h
  · cases h
  · rename_i h1
    split at h
    · rename_i h2; exact absurd h h2
    · rename_i h2
      split at h
      · cases h
      · rename_i h3
        split at h
        · cases h
        · rename_i h4
          have h2' : szE N xs = 0 := by simpa using h2
          unfold szE at h2'
          split at h2'
          · cases h2'
          · rename_i h5
            have h6 : ¬ ((xs.length : Int) ≠ N) ∧ ¬ tdy xs 0 = false := ⟨fun c => h5 (.inl c), fun c => h5 (.inr c)⟩
            have h7 : bb < b ∧ b ≤ 1024 := by omega
            exact ⟨h7.1, h7.2, by have := h6.1; omega, by simpa using h6.2, by simpa using h3, by simpa using h4⟩
/-- The first level that is wrong, and what is wrong with it. -/
def lkE (N : Int) : List Int → List (List Int) → Nat → Int → List Int → Nat × Int
  | b :: bs, xs :: cs, k, bb, ys => if nxE N bb ys b xs ≠ 0 then (k + 1, nxE N bb ys b xs) else lkE N bs cs (k + 1) b xs
  | _, _, _, _, _ => (0, 0)
/-- Levels that are right, one above the other. -/
def lkR (N : Int) : List Int → List (List Int) → Int → List Int → Prop
  | b :: bs, xs :: cs, bb, ys => nxE N bb ys b xs = 0 ∧ lkR N bs cs b xs
  | _, _, _, _ => True
theorem lkE_zero (N : Int) : ∀ (bs : List Int) (cs : List (List Int)) (k : Nat) (bb : Int) (ys : List Int), (lkE N bs cs k bb ys).2 = 0 ↔ lkR N bs cs bb ys
  | [], _, _, _, _ => by simp [lkE, lkR]
  | _ :: _, [], _, _, _ => by simp [lkE, lkR]
  | b :: bs, xs :: cs, k, bb, ys => by
    unfold lkE lkR
    by_cases e : nxE N bb ys b xs ≠ 0
    · rw [if_pos e]
      exact ⟨fun h => absurd h e, fun h => absurd h.1 e⟩
    · rw [if_neg e, lkE_zero N bs cs]
      have : nxE N bb ys b xs = 0 := by simpa using e
      exact ⟨fun h => ⟨this, h⟩, fun h => h.2⟩
theorem lkE_at (N : Int) : ∀ (bs : List Int) (cs : List (List Int)) (k : Nat) (bb : Int) (ys : List Int), (lkE N bs cs k bb ys).2 = 0 → (lkE N bs cs k bb ys).1 = 0
  | [], _, _, _, _ => by simp [lkE]
  | _ :: _, [], _, _, _ => by simp [lkE]
  | b :: bs, xs :: cs, k, bb, ys => by
    unfold lkE
    by_cases e : nxE N bb ys b xs ≠ 0
    · rw [if_pos e]
      exact fun h => absurd h e
    · rw [if_neg e]
      exact lkE_at N bs cs _ _ _
/-- What is told of a nest. -/
def nsE (N : Int) (l : List A) (bs : List Int) (cs : List (List Int)) : Int :=
  if chkE N l ≠ 0 then chkE N l else if ¬ (1 ≤ bs.length ∧ bs.length ≤ 5) ∨ cs.length ≠ bs.length then 111 else (lkE N bs cs 0 0 []).2
def nsW (N : Int) (l : List A) (bs : List Int) (cs : List (List Int)) : Nat :=
  if chkE N l ≠ 0 then 0 else if ¬ (1 ≤ bs.length ∧ bs.length ≤ 5) ∨ cs.length ≠ bs.length then 0 else (lkE N bs cs 0 0 []).1
theorem nsW_zero {N : Int} {l : List A} {bs : List Int} {cs : List (List Int)} (h : nsE N l bs cs = 0) : nsW N l bs cs = 0 := by
  unfold nsE at h
  unfold nsW
  split
  · rfl
  · rename_i h1
    rw [if_neg h1] at h
    split
    · rfl
    · rename_i h2
      rw [if_neg h2] at h
      exact lkE_at _ _ _ _ _ _ h
/-- A nest that is right. -/
def NR (N : Int) (l : List A) (bs : List Int) (cs : List (List Int)) : Prop :=
  chkE N l = 0 ∧ 1 ≤ bs.length ∧ bs.length ≤ 5 ∧ cs.length = bs.length ∧ lkR N bs cs 0 []
theorem nsE_zero {N : Int} {l : List A} {bs : List Int} {cs : List (List Int)} : nsE N l bs cs = 0 ↔ NR N l bs cs := by
  unfold nsE NR
  constructor
  · intro h
    split at h
    · rename_i h1; exact absurd h h1
    · rename_i h1
      split at h
      · cases h
      · rename_i h2
        have h3 : (1 ≤ bs.length ∧ bs.length ≤ 5) ∧ cs.length = bs.length := by omega
        exact ⟨by omega, h3.1.1, h3.1.2, h3.2, (lkE_zero _ _ _ _ _ _).1 h⟩
  · rintro ⟨h1, h2, h3, h4, h5⟩
    rw [if_neg (by omega), if_neg (by omega)]
    exact (lkE_zero _ _ _ _ _ _).2 h5
/-- The labels of a level. -/
def lvl (cs : List (List Int)) (k : Nat) : List Int := cs.getD k []
theorem lkR_at {N : Int} : ∀ {bs : List Int} {cs : List (List Int)} {bb : Int} {ys : List Int}, lkR N bs cs bb ys → ∀ k, k < bs.length → k < cs.length → nxE N (if k = 0 then bb else bs.getD (k - 1) 0) (if k = 0 then ys else lvl cs (k - 1)) (bs.getD k 0) (lvl cs k) = 0
  | [], _, _, _, _, k, h, _ => absurd h (by simp)
  | _ :: _, [], _, _, _, k, _, h => absurd h (by simp)
  | b :: bs, xs :: cs, bb, ys, h, k, hk, hc => by
    obtain ⟨h1, h2⟩ := h
    cases k with
    | zero => exact h1
    | succ k =>
      have ih := lkR_at h2 k (by simpa using hk) (by simpa using hc)
      rw [if_neg (by omega), if_neg (by omega)]
      cases k with
      | zero => exact ih
      | succ k =>
        rw [if_neg (by omega), if_neg (by omega)] at ih
        exact ih
theorem lkR_of {N : Int} : ∀ {bs : List Int} {cs : List (List Int)} {bb : Int} {ys : List Int}, (∀ k, k < bs.length → k < cs.length → nxE N (if k = 0 then bb else bs.getD (k - 1) 0) (if k = 0 then ys else lvl cs (k - 1)) (bs.getD k 0) (lvl cs k) = 0) → lkR N bs cs bb ys
  | [], _, _, _, _ => trivial
  | _ :: _, [], _, _, _ => trivial
  | b :: bs, xs :: cs, bb, ys, h => by
    refine ⟨h 0 (by simp) (by simp), lkR_of (fun k hk hc => ?_)⟩
    have := h (k + 1) (by simpa using hk) (by simpa using hc)
    rw [if_neg (by omega), if_neg (by omega)] at this
    cases k with
    | zero => exact this
    | succ k =>
      rw [if_neg (by omega), if_neg (by omega)]
      exact this
/-- What a right nest has at a level. -/
theorem NR.lv {N : Int} {l : List A} {bs : List Int} {cs : List (List Int)} (h : NR N l bs cs) {k : Nat} (hk : k < bs.length) : ((lvl cs k).length : Int) = N ∧ tdy (lvl cs k) 0 = true ∧ wdB (szL (lvl cs k)) (bs.getD k 0) = true ∧ bs.getD k 0 ≤ 1024 := by
  obtain ⟨_, _, _, h4, h5⟩ := h
  have := nxE_zero (lkR_at h5 k hk (by omega))
  exact ⟨this.2.2.1, this.2.2.2.1, this.2.2.2.2.1, this.2.1⟩
theorem NR.nst {N : Int} {l : List A} {bs : List Int} {cs : List (List Int)} (h : NR N l bs cs) {k : Nat} (hk : k + 1 < bs.length) : Nst (lvl cs k) (lvl cs (k + 1)) := by
  obtain ⟨_, _, _, h4, h5⟩ := h
  have := nxE_zero (lkR_at h5 (k + 1) hk (by omega))
  rw [if_neg (by omega), if_neg (by omega)] at this
  exact this.2.2.2.2.2
end Go.Proofs.YtpmjbeiclmllmaaGreat
