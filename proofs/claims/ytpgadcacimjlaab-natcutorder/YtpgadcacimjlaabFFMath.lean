/-
  Flows and cuts: mathematics.
-/
import Derived.Test.YtpgadcacimjlaabChecked
import Derived.Lib.Hide
namespace Go.Proofs.Ytpgadcacimjlaab.F6
/-- An edge. -/
structure Ed where
  f : Nat
  t : Nat
  c : Int
def Ed.zero : Ed := ⟨0, 0, 0⟩
def ed (E : List Ed) (k : Nat) : Ed := E.getD k Ed.zero
def ite0 (b : Prop) [Decidable b] (x : Int) : Int := if b then x else 0
/-- A sum over the nodes. -/
def sumV (g : Nat → Int) : Nat → Int
  | 0 => 0
  | n + 1 => sumV g n + g n
theorem sumV_congr {g h : Nat → Int} : ∀ n, (∀ v, v < n → g v = h v) → sumV g n = sumV h n := by
  intro n
  induction n with
  | zero => intro _; rfl
  | succ n ih => intro e; simp only [sumV]; rw [ih (fun v hv => e v (by omega)), e n (by omega)]
theorem sumV_zero (n : Nat) : sumV (fun _ => 0) n = 0 := by
  induction n with
  | zero => rfl
  | succ n ih => simp [sumV, ih]
theorem sumV_add (g h : Nat → Int) (n : Nat) : sumV (fun v => g v + h v) n = sumV g n + sumV h n := by
  induction n with
  | zero => rfl
  | succ n ih => simp only [sumV]; rw [ih]; omega
theorem sumV_sub (g h : Nat → Int) (n : Nat) : sumV (fun v => g v - h v) n = sumV g n - sumV h n := by
  induction n with
  | zero => rfl
  | succ n ih => simp only [sumV]; rw [ih]; omega
theorem sumV_only (g : Nat → Int) (s : Nat) : ∀ n, s < n → (∀ v, v < n → v ≠ s → g v = 0) → sumV g n = g s := by
  intro n
  induction n with
  | zero => intro h; omega
  | succ n ih =>
    intro h e
    simp only [sumV]
    by_cases hs : s = n
    · subst hs
      rw [sumV_congr s (h := fun _ => 0) (fun v hv => e v (by omega) (by omega)), sumV_zero]; omega
    · rw [ih (by omega) (fun v hv hne => e v (by omega) hne), e n (by omega) (fun h => hs h.symm)]; omega
/-- What leaves a node, less what comes to it, over the first k edges. -/
def net (E : List Ed) (fl : Nat → Int) (v : Nat) : Nat → Int
  | 0 => 0
  | k + 1 => net E fl v k + (if (ed E k).f = v then fl k else 0) - (if (ed E k).t = v then fl k else 0)
/-- What leaves a set of nodes, less what comes to it. -/
def acr (E : List Ed) (fl : Nat → Int) (R : Nat → Bool) : Nat → Int
  | 0 => 0
  | k + 1 => acr E fl R k + (if R (ed E k).f = true then fl k else 0) - (if R (ed E k).t = true then fl k else 0)
/-- The capacity of a set of nodes. -/
def capK (E : List Ed) (R : Nat → Bool) : Nat → Int
  | 0 => 0
  | k + 1 => capK E R k + (if R (ed E k).f = true ∧ R (ed E k).t = false then (ed E k).c else 0)
theorem sumV_at (R : Nat → Bool) (f : Nat) (x : Int) (n : Nat) (hf : f < n) : sumV (fun v => if R v = true then (if f = v then x else 0) else 0) n = if R f = true then x else 0 := by
  rw [sumV_only _ f n hf (fun v _ hne => by
    by_cases e : R v = true
    · rw [if_pos e, if_neg (fun h => hne h.symm)]
    · rw [if_neg e])]
  simp
theorem sumV_net (E : List Ed) (fl : Nat → Int) (R : Nat → Bool) (n : Nat) : ∀ k, (∀ j, j < k → (ed E j).f < n ∧ (ed E j).t < n) → sumV (fun v => if R v = true then net E fl v k else 0) n = acr E fl R k := by
  intro k
  induction k with
  | zero =>
    intro _
    rw [sumV_congr n (h := fun _ => 0) (fun v _ => by simp [net]), sumV_zero]; rfl
  | succ k ih =>
    intro h
    have h1 := ih (fun j hj => h j (by omega))
    have h2 := h k (by omega)
    have e : ∀ v, v < n → (if R v = true then net E fl v (k + 1) else 0) = ((if R v = true then net E fl v k else 0) + (if R v = true then (if (ed E k).f = v then fl k else 0) else 0)) - (if R v = true then (if (ed E k).t = v then fl k else 0) else 0) := by
      intro v _
      by_cases hv : R v = true
      · simp [hv, net]
      · simp [hv]
    rw [sumV_congr n e, sumV_sub, sumV_add, h1, sumV_at R _ _ n h2.1, sumV_at R _ _ n h2.2]
    rfl
/-- A network that is right. -/
structure RN (n : Nat) (E : List Ed) : Prop where
  n1 : 1 ≤ n
  nb : n ≤ 1024
  lb : E.length ≤ 16384
  ends : ∀ j, j < E.length → (ed E j).f < n ∧ (ed E j).t < n
  cap : ∀ j, j < E.length → 0 ≤ (ed E j).c ∧ (ed E j).c < 4294967296
/-- A flow. -/
structure Flow (n : Nat) (E : List Ed) (s t : Nat) (fl : Nat → Int) : Prop where
  lo : ∀ j, j < E.length → 0 ≤ fl j
  hi : ∀ j, j < E.length → fl j ≤ (ed E j).c
  mid : ∀ v, v < n → v ≠ s → v ≠ t → net E fl v E.length = 0
theorem Flow.across {n : Nat} {E : List Ed} {s t : Nat} {fl : Nat → Int} (h : Flow n E s t fl) (g : RN n E) {R : Nat → Bool} (hs : s < n) (rs : R s = true) (rt : R t = false) : net E fl s E.length = acr E fl R E.length := by
  rw [← sumV_net E fl R n E.length (fun j hj => g.ends j hj), sumV_only _ s n hs (fun v hv hne => ?_)]
  · simp [rs]
  · by_cases e : R v = true
    · rw [if_pos e]
      exact h.mid v hv hne (fun h => by rw [h, rt] at e; cases e)
    · rw [if_neg e]
theorem acr_le {E : List Ed} {fl : Nat → Int} {R : Nat → Bool} : ∀ k, (∀ j, j < k → 0 ≤ fl j ∧ fl j ≤ (ed E j).c) → acr E fl R k ≤ capK E R k := by
  intro k
  induction k with
  | zero => intro _; exact Int.le_refl _
  | succ k ih =>
    intro h
    have h1 := ih (fun j hj => h j (by omega))
    have h2 := h k (by omega)
    simp only [acr, capK]
    cases e1 : R (ed E k).f <;> cases e2 : R (ed E k).t <;> simp <;> omega
/-- The set is full. -/
def Full (E : List Ed) (fl : Nat → Int) (R : Nat → Bool) (k : Nat) : Prop := ∀ j, j < k → (R (ed E j).f = true → R (ed E j).t = false → fl j = (ed E j).c) ∧ (R (ed E j).f = false → R (ed E j).t = true → fl j = 0)
theorem full_eq {E : List Ed} {fl : Nat → Int} {R : Nat → Bool} : ∀ k, Full E fl R k → acr E fl R k = capK E R k := by
  intro k
  induction k with
  | zero => intro _; rfl
  | succ k ih =>
    intro h
    have h1 := ih (fun j hj => h j (by omega))
    have h2 := h k (by omega)
    simp only [acr, capK]
    cases e1 : R (ed E k).f <;> cases e2 : R (ed E k).t <;> simp
    · omega
    · have := h2.2 e1 e2; omega
    · have := h2.1 e1 e2; omega
    · omega
theorem eq_full {E : List Ed} {fl : Nat → Int} {R : Nat → Bool} : ∀ k, (∀ j, j < k → 0 ≤ fl j ∧ fl j ≤ (ed E j).c) → acr E fl R k = capK E R k → Full E fl R k := by
  intro k
  induction k with
  | zero => intro _ _ j hj; omega
  | succ k ih =>
    intro h e
    have h1 := acr_le (E := E) (R := R) k (fun j hj => h j (by omega))
    have h2 := h k (by omega)
    simp only [acr, capK] at e
    have key : acr E fl R k = capK E R k ∧ ((R (ed E k).f = true → R (ed E k).t = false → fl k = (ed E k).c) ∧ (R (ed E k).f = false → R (ed E k).t = true → fl k = 0)) := by
      cases e1 : R (ed E k).f <;> cases e2 : R (ed E k).t <;> simp [e1, e2] at e ⊢ <;> omega
    intro j hj
    by_cases hjk : j = k
    · subst hjk; exact key.2
    · exact ih (fun j hj => h j (by omega)) key.1 j (by omega)
/-- Where a search for more has come to its end: a flow, and the nodes that were reached. -/
structure Ended (n : Nat) (E : List Ed) (s t : Nat) (fl : Nat → Int) (R : Nat → Bool) : Prop where
  fw : Flow n E s t fl
  rs : R s = true
  rt : R t = false
  full : Full E fl R E.length
theorem Ended.value {n : Nat} {E : List Ed} {s t : Nat} {fl : Nat → Int} {R : Nat → Bool} (h : Ended n E s t fl R) (g : RN n E) (hs : s < n) : net E fl s E.length = capK E R E.length :=
  (h.fw.across g hs h.rs h.rt).trans (full_eq _ h.full)
/-- No flow is greater than a cut. -/
theorem Flow.le_cut {n : Nat} {E : List Ed} {s t : Nat} {fl : Nat → Int} (h : Flow n E s t fl) (g : RN n E) (hs : s < n) {R : Nat → Bool} (rs : R s = true) (rt : R t = false) : net E fl s E.length ≤ capK E R E.length := by
  rw [h.across g hs rs rt]
  exact acr_le _ (fun j hj => ⟨h.lo j hj, h.hi j hj⟩)
/-- Two ends have the same value; each one's flow fills the other's set. -/
theorem Ended.same {n : Nat} {E : List Ed} {s t : Nat} {f1 f2 : Nat → Int} {R1 R2 : Nat → Bool} (h1 : Ended n E s t f1 R1) (h2 : Ended n E s t f2 R2) (g : RN n E) (hs : s < n) : net E f1 s E.length = net E f2 s E.length ∧ Full E f1 R2 E.length := by
  have a1 := h1.value g hs
  have a2 := h2.value g hs
  have a3 := h1.fw.le_cut g hs h2.rs h2.rt
  have a4 := h2.fw.le_cut g hs h1.rs h1.rt
  have e : net E f1 s E.length = net E f2 s E.length := by omega
  refine ⟨e, eq_full _ (fun j hj => ⟨h1.fw.lo j hj, h1.fw.hi j hj⟩) ?_⟩
  rw [← h1.fw.across g hs h2.rs h2.rt]
  omega
end Go.Proofs.Ytpgadcacimjlaab.F6
