/-
  The greatest gain: the mathematics.
-/
import Derived.Test.YtgpaoiddjlpcmaaZAU
import Derived.Test.YtgpaoiddjlpcmaaZAQ
namespace Go.Proofs.Ytgpaoiddjlpcmaa
open Go.RowKit
theorem si_cnt (N : Int) (l : List A) (xs : List Int) : siE N l xs = cntE N l xs := rfl
/-- The greatest gain of the places that were gone through. -/
structure Bt (P : List Pr) (L : List Nat) (B n k : Nat) (D : Nat → Nat → Prop) (b : Int) : Prop where
  nn : 0 ≤ b
  ub : ∀ u y, D u y → u < n → y < k → y ≠ L.getD u 0 → L.count y < B → gaV P L u y ≤ b
  hit : b = 0 ∨ ∃ u y, u < n ∧ y < k ∧ y ≠ L.getD u 0 ∧ L.count y < B ∧ gaV P L u y = b
theorem Bt.start {P : List Pr} {L : List Nat} {B n k : Nat} {D : Nat → Nat → Prop} (h : ∀ u y, ¬ D u y) : Bt P L B n k D 0 := ⟨Int.le_refl _, fun u y hd => absurd hd (h u y), .inl rfl⟩
theorem Bt.take {P : List Pr} {L : List Nat} {B n k u y : Nat} {D D' : Nat → Nat → Prop} {b : Int} (h : Bt P L B n k D b) (hD : ∀ u' y', D' u' y' → D u' y' ∨ (u' = u ∧ y' = y)) (hu : u < n) (hy : y < k) (h1 : y ≠ L.getD u 0) (h2 : L.count y < B) : Bt P L B n k D' (max b (gaV P L u y)) := by
  have := h.nn
  refine ⟨by omega, fun u' y' hd hu' hy' e1 e2 => ?_, ?_⟩
  · rcases hD u' y' hd with q | ⟨rfl, rfl⟩
    · have := h.ub u' y' q hu' hy' e1 e2
      omega
    · omega
  · by_cases c : b ≤ gaV P L u y
    · exact .inr ⟨u, y, hu, hy, h1, h2, by omega⟩
    · rw [show max b (gaV P L u y) = b by omega]; exact h.hit
theorem Bt.leave {P : List Pr} {L : List Nat} {B n k u y : Nat} {D D' : Nat → Nat → Prop} {b : Int} (h : Bt P L B n k D b) (hD : ∀ u' y', D' u' y' → D u' y' ∨ (u' = u ∧ y' = y)) (hn : ¬ (y ≠ L.getD u 0 ∧ L.count y < B)) : Bt P L B n k D' b := by
  refine ⟨h.nn, fun u' y' hd hu' hy' e1 e2 => ?_, h.hit⟩
  rcases hD u' y' hd with q | ⟨rfl, rfl⟩
  · exact h.ub u' y' q hu' hy' e1 e2
  · exact absurd ⟨e1, e2⟩ hn
theorem Bt.same {P : List Pr} {L : List Nat} {B n k : Nat} {D D' : Nat → Nat → Prop} {b : Int} (h : Bt P L B n k D b) (hD : ∀ u' y', D' u' y' → u' < n → y' < k → D u' y') : Bt P L B n k D' b := ⟨h.nn, fun u' y' hd hu' hy' e1 e2 => h.ub u' y' (hD u' y' hd hu' hy') hu' hy' e1 e2, h.hit⟩
theorem ga_open {P : List Pr} {L : List Nat} {B u y : Nat} (hP : PIn P L.length) (hg : 0 < gaV P L u y) (hu : u < L.length) (hc : L.count y < B) : ∃ f, Open P L B u f ∧ gn P L u f = gaV P L u y := by
  have hpos : 0 < cv P L u y := by unfold gaV at hg; omega
  obtain ⟨_, t, ht, rfl⟩ := cv_pos hP hpos
  have a1 := ldI_le (ints L) t
  have hf : ldI (ints L) t < L.length := by omega
  have e : L.getD (ldI (ints L) t) 0 = L.getD t 0 := by
    have q := ldI_at (ints L) t
    rw [ints_at hf, ints_at ht] at q
    omega
  have eg : gn P L u (ldI (ints L) t) = gaV P L u (L.getD t 0) := by unfold gn gaV; rw [e]
  refine ⟨ldI (ints L) t, ⟨hu, hf, ?_, by rw [eg]; exact hg, by rw [e]; exact hc⟩, eg⟩
  refine (lead_iff hf).2 (fun s hs q => ?_)
  have := ldI_min (xs := ints L) (u := s) (v := t) hs
  rw [ints_at (by omega), ints_at ht] at this
  rw [e] at q
  exact this (by rw [q])
theorem lab_lt {L : List Nat} (htd : tdy (ints L) 0 = true) {u : Nat} (hu : u < L.length) : L.getD u 0 < (szL (ints L)).length := by
  have h1 := sz_cnt htd (L.getD u 0)
  have h2 : 0 < L.count (L.getD u 0) := List.count_pos_iff.2 (by rw [getD_in hu]; exact List.getElem_mem hu)
  rcases Nat.lt_or_ge (L.getD u 0) (szL (ints L)).length with c | c
  · exact c
  · have : (szL (ints L)).getD (L.getD u 0) 0 = 0 := by
      generalize L.getD u 0 = z at c
      simp [List.getD, List.getElem?_eq_none c]
    omega
theorem Bt.stop {P : List Pr} {L : List Nat} {B k : Nat} {D : Nat → Nat → Prop} {b : Int} (h : Bt P L B L.length k D b) (hP : PIn P L.length) (hn : ∀ v f, ¬ Open P L B v f) : b = 0 := by
  rcases h.hit with q | ⟨u, y, hu, _, _, hc, q⟩
  · exact q
  · by_cases c : 0 < b
    · obtain ⟨f, ho, _⟩ := ga_open hP (by rw [q]; exact c) hu hc
      exact absurd ho (hn u f)
    · have := h.nn; omega
theorem Bt.next {P : List Pr} {L : List Nat} {B : Nat} {D : Nat → Nat → Prop} {b : Int} {v f : Nat} (h : Bt P L B L.length (szL (ints L)).length D b) (hD : ∀ u y, u < L.length → y < (szL (ints L)).length → D u y) (htd : tdy (ints L) 0 = true) (hP : PIn P L.length) (hn : Nxt P L B v f) : gaV P L v (L.getD f 0) = b := by
  have hg : gn P L v f = gaV P L v (L.getD f 0) := rfl
  obtain ⟨hv, hf, _, hpos, hc⟩ := hn.1
  have hne : L.getD f 0 ≠ L.getD v 0 := fun e => by unfold gn at hpos; rw [e] at hpos; omega
  have hk := lab_lt htd hf
  have h1 := h.ub v (L.getD f 0) (hD v _ hv hk) hv hk hne hc
  rcases h.hit with q | ⟨u, y, hu, _, _, hc2, q⟩
  · omega
  · by_cases c : 0 < b
    · obtain ⟨f', ho, hgg⟩ := ga_open hP (by rw [q]; exact c) hu hc2
      have h2 := hn.2 u f' ho
      unfold noWorse at h2
      omega
    · omega
/-- One move alone. -/
theorem one_move {P : List Pr} {L E : List Nat} {B v f m : Nat} (h : Imp P B 1 L E m) (hn : Nxt P L B v f) : E = L.set v (L.getD f 0) ∧ m = 1 := by
  have q : Imp P B 1 L (L.set v (L.getD f 0)) 1 := Imp.step hn Imp.zero
  exact h.one q
end Go.Proofs.Ytgpaoiddjlpcmaa
