/-
  Growth as it lies in memory; contracts of chain and across. Labels put together: the mathematics of joins. Links as they are found: the mathematics.
-/
import Derived.Test.YtchfccbneedejaaZAB
import Derived.Test.YtchfccbneedejaaZAA
namespace Go.Proofs.Ytchfccbneedejaa
open Go.RowKit
/-- Does a pair lie between two labels? -/
def hitB (L : List Nat) (a b : Nat) (p : Pr) : Bool := (decide (L.getD p.a 0 = a) && decide (L.getD p.b 0 = b)) || (decide (L.getD p.a 0 = b) && decide (L.getD p.b 0 = a))
/-- How many pairs lie between two labels. -/
def bw (P : List Pr) (L : List Nat) (a b : Nat) : Nat := P.countP (hitB L a b)
theorem bw_snoc (P : List Pr) (L : List Nat) (a b : Nat) (p : Pr) : bw (P ++ [p]) L a b = bw P L a b + if hitB L a b p = true then 1 else 0 := by
  unfold bw
  rw [List.countP_append]
  simp [List.countP_cons]
theorem hit_comm (L : List Nat) (a b : Nat) (p : Pr) : hitB L a b p = hitB L b a p := by unfold hitB; rw [Bool.or_comm]
theorem bw_comm (P : List Pr) (L : List Nat) (a b : Nat) : bw P L a b = bw P L b a := by unfold bw; congr 1; funext p; exact hit_comm L a b p
theorem bw_le (P : List Pr) (L : List Nat) (a b : Nat) : bw P L a b ≤ P.length := List.countP_le_length
theorem bw_pos {P : List Pr} {L : List Nat} {a b : Nat} : 0 < bw P L a b ↔ ∃ p, p ∈ P ∧ hitB L a b p = true := by
  unfold bw
  rw [List.countP_pos_iff]
/-- Two labels that can be joined. -/
def Fit (P : List Pr) (L : List Nat) (B a b : Nat) : Prop := a < b ∧ 0 < bw P L a b ∧ L.count a + L.count b ≤ B
/-- One choice is no worse than another one. -/
def noWorse (n a b m c d : Nat) : Prop := m < n ∨ m = n ∧ (a < c ∨ a = c ∧ b ≤ d)
/-- Those that are joined next. -/
def Bst (P : List Pr) (L : List Nat) (B a b : Nat) : Prop := Fit P L B a b ∧ ∀ c d, Fit P L B c d → noWorse (bw P L a b) a b (bw P L c d) c d
theorem Bst.one {P : List Pr} {L : List Nat} {B a b c d : Nat} (h : Bst P L B a b) (h2 : Bst P L B c d) : a = c ∧ b = d := by
  have h3 := h.2 c d h2.1
  have h4 := h2.2 a b h.1
  unfold noWorse at h3 h4
  omega
/-- One label becomes another one. -/
def mrg (L : List Nat) (a b : Nat) : List Nat := L.map (fun x => if x = b then a else x)
theorem mrg_len (L : List Nat) (a b : Nat) : (mrg L a b).length = L.length := by simp [mrg]
theorem getD_in {L : List Nat} {v : Nat} (h : v < L.length) : L.getD v 0 = L[v] := by simp [List.getD, h]
theorem mrg_getD {L : List Nat} {a b v : Nat} (h : v < L.length) : (mrg L a b).getD v 0 = if L.getD v 0 = b then a else L.getD v 0 := by
  simp [mrg, List.getD, h]
inductive Jn (P : List Pr) (B : Nat) : List Nat → List Nat → Prop
  | stop {L : List Nat} (h : ∀ a b, ¬ Fit P L B a b) : Jn P B L L
  | step {L E : List Nat} {a b : Nat} (h : Bst P L B a b) (r : Jn P B (mrg L a b) E) : Jn P B L E
theorem Jn.one {P : List Pr} {B : Nat} {L E E' : List Nat} (h : Jn P B L E) : Jn P B L E' → E = E' := by
  induction h with
  | stop h =>
    intro h2
    cases h2 with
    | stop _ => rfl
    | step h3 _ => exact absurd h3.1 (h _ _)
  | step h _ ih =>
    intro h2
    cases h2 with
    | stop h3 => exact absurd h.1 (h3 _ _)
    | step h3 r3 =>
      obtain ⟨rfl, rfl⟩ := h.one h3
      exact ih r3
theorem Jn.len {P : List Pr} {B : Nat} {L E : List Nat} (h : Jn P B L E) : E.length = L.length := by
  induction h with
  | stop _ => rfl
  | step _ _ ih => rw [ih, mrg_len]
theorem Jn.none {P : List Pr} {B : Nat} {L E : List Nat} (h : Jn P B L E) : ∀ a b, ¬ Fit P E B a b := by
  induction h with
  | stop h => exact h
  | step _ _ ih => exact ih
/-- Pairs of vertices. -/
def PIn (P : List Pr) (n : Nat) : Prop := ∀ p, p ∈ P → p.a < n ∧ p.b < n
theorem hit_ends {P : List Pr} {L : List Nat} {a b : Nat} (hP : PIn P L.length) (h : 0 < bw P L a b) : ∃ u v, u < L.length ∧ v < L.length ∧ L.getD u 0 = a ∧ L.getD v 0 = b ∧ ((⟨u, v⟩ : Pr) ∈ P ∨ (⟨v, u⟩ : Pr) ∈ P) := by
  obtain ⟨p, hp, h⟩ := bw_pos.1 h
  have h1 := hP p hp
  unfold hitB at h
  simp only [Bool.or_eq_true, Bool.and_eq_true, decide_eq_true_eq] at h
  rcases h with h | h
  · exact ⟨p.a, p.b, h1.1, h1.2, h.1, h.2, .inl hp⟩
  · exact ⟨p.b, p.a, h1.2, h1.1, h.2, h.1, .inr hp⟩
/-- Labels in the order of their first vertices. -/
def Ordl (L : List Nat) : Prop := ∀ u v, u < L.length → v < L.length → L.getD u 0 < L.getD v 0 → ∃ t, t < v ∧ L.getD t 0 = L.getD u 0
theorem Ordl.mrgE {L : List Nat} {a b : Nat} (h : Ordl L) (hab : a < b) (ha : ∃ u, u < L.length ∧ L.getD u 0 = a) : Ordl (mrg L a b) := by
  intro u v hu hv hlt
  rw [mrg_len] at hu hv
  rw [mrg_getD hu, mrg_getD hv] at hlt
  rw [mrg_getD hu]
  obtain ⟨u0, hu0, rfl⟩ := ha
  have key : ∀ t, t < v → (L.getD t 0 = L.getD u 0 ∨ (L.getD u 0 = b ∧ L.getD t 0 = L.getD u0 0)) → ∃ t, t < v ∧ (mrg L (L.getD u0 0) b).getD t 0 = if L.getD u 0 = b then L.getD u0 0 else L.getD u 0 := by
    intro t ht he
    refine ⟨t, ht, ?_⟩
    rw [mrg_getD (by omega)]
    rcases he with he | ⟨he, he2⟩
    · rw [he]
    · rw [if_pos he, he2]; split <;> rfl
  by_cases e1 : L.getD v 0 = b
  · rw [if_pos e1] at hlt
    by_cases e2 : L.getD u 0 = b
    · rw [if_pos e2] at hlt; omega
    · rw [if_neg e2] at hlt
      obtain ⟨t, ht, he⟩ := h u v hu hv (by omega)
      exact key t ht (.inl he)
  · rw [if_neg e1] at hlt
    by_cases e2 : L.getD u 0 = b
    · rw [if_pos e2] at hlt
      obtain ⟨t, ht, he⟩ := h u0 v hu0 hv hlt
      exact key t ht (.inr ⟨e2, he⟩)
    · rw [if_neg e2] at hlt
      obtain ⟨t, ht, he⟩ := h u v hu hv hlt
      exact key t ht (.inl he)
/-- Two labellings of one shape and order. -/
structure Like (L T : List Nat) : Prop where
  len : T.length = L.length
  lt : ∀ u v, u < L.length → v < L.length → (L.getD u 0 < L.getD v 0 ↔ T.getD u 0 < T.getD v 0)
theorem Like.eq {L T : List Nat} (h : Like L T) {u v : Nat} (hu : u < L.length) (hv : v < L.length) : L.getD u 0 = L.getD v 0 ↔ T.getD u 0 = T.getD v 0 := by
  have h1 := h.lt u v hu hv
  have h2 := h.lt v u hv hu
  omega
theorem Like.symm {L T : List Nat} (h : Like L T) : Like T L := ⟨h.len.symm, fun u v hu hv => (h.lt u v (h.len ▸ hu) (h.len ▸ hv)).symm⟩
theorem Like.refl (L : List Nat) : Like L L := ⟨rfl, fun _ _ _ _ => Iff.rfl⟩
theorem Like.trans {L T U : List Nat} (h : Like L T) (h2 : Like T U) : Like L U := ⟨h2.len.trans h.len, fun u v hu hv => (h.lt u v hu hv).trans (h2.lt u v (by rw [h.len]; exact hu) (by rw [h.len]; exact hv))⟩
theorem as_range (L : List Nat) : L = (List.range L.length).map (fun v => L.getD v 0) := by
  refine List.ext_getElem (by simp) (fun i h1 h2 => ?_)
  simp [List.getD, h1]
theorem count_at (L : List Nat) (x : Nat) : L.count x = (List.range L.length).countP (fun v => decide (L.getD v 0 = x)) := by
  have h := congrArg (List.count x) (as_range L)
  rw [h, List.count, List.countP_map]
  congr 1
theorem Like.count {L T : List Nat} (h : Like L T) {u : Nat} (hu : u < L.length) : T.count (T.getD u 0) = L.count (L.getD u 0) := by
  rw [count_at, count_at, h.len]
  refine List.countP_congr (fun v hv => ?_)
  have hv := List.mem_range.1 hv
  simp only [decide_eq_true_eq]
  exact (h.eq hv hu).symm
theorem Like.bwE {L T : List Nat} (h : Like L T) {P : List Pr} (hP : PIn P L.length) {u v : Nat} (hu : u < L.length) (hv : v < L.length) : bw P T (T.getD u 0) (T.getD v 0) = bw P L (L.getD u 0) (L.getD v 0) := by
  unfold bw
  refine List.countP_congr (fun p hp => ?_)
  have h1 := hP p hp
  unfold hitB
  simp only [Bool.or_eq_true, Bool.and_eq_true, decide_eq_true_eq]
  rw [h.eq h1.1 hu, h.eq h1.1 hv, h.eq h1.2 hu, h.eq h1.2 hv]
theorem Like.fit {L T : List Nat} (h : Like L T) {P : List Pr} {B : Nat} (hP : PIn P L.length) {u v : Nat} (hu : u < L.length) (hv : v < L.length) (hf : Fit P L B (L.getD u 0) (L.getD v 0)) : Fit P T B (T.getD u 0) (T.getD v 0) := by
  unfold Fit
  rw [h.bwE hP hu hv, h.count hu, h.count hv, ← h.lt u v hu hv]
  exact hf
theorem Fit.ends {P : List Pr} {L : List Nat} {B a b : Nat} (hP : PIn P L.length) (h : Fit P L B a b) : ∃ u v, u < L.length ∧ v < L.length ∧ L.getD u 0 = a ∧ L.getD v 0 = b := by
  obtain ⟨u, v, hu, hv, ha, hb, _⟩ := hit_ends hP h.2.1
  exact ⟨u, v, hu, hv, ha, hb⟩
theorem Like.bst {L T : List Nat} (h : Like L T) {P : List Pr} {B : Nat} (hP : PIn P L.length) {u v : Nat} (hu : u < L.length) (hv : v < L.length) (hb : Bst P L B (L.getD u 0) (L.getD v 0)) : Bst P T B (T.getD u 0) (T.getD v 0) := by
  refine ⟨h.fit hP hu hv hb.1, fun c d hf => ?_⟩
  obtain ⟨s, t, hs, ht, rfl, rfl⟩ := hf.ends (by rw [h.len]; exact hP)
  rw [h.len] at hs ht
  have hf2 := h.symm.fit (by rw [h.len]; exact hP) (by rw [h.len]; exact hs) (by rw [h.len]; exact ht) hf
  have h2 := hb.2 _ _ hf2
  rw [h.bwE hP hu hv, h.bwE hP hs ht]
  unfold noWorse at h2 ⊢
  have q1 := h.lt u s hu hs
  have q2 := h.eq hu hs
  have q3 := h.lt t v ht hv
  omega
theorem Like.mrgE {L T : List Nat} (h : Like L T) {u v : Nat} (hu : u < L.length) (hv : v < L.length) : Like (mrg L (L.getD u 0) (L.getD v 0)) (mrg T (T.getD u 0) (T.getD v 0)) := by
  refine ⟨by rw [mrg_len, mrg_len, h.len], fun s t hs ht => ?_⟩
  rw [mrg_len] at hs ht
  rw [mrg_getD hs, mrg_getD ht, mrg_getD (h.len ▸ hs), mrg_getD (h.len ▸ ht)]
  have q1 := h.eq hs hv
  have q2 := h.eq ht hv
  by_cases e1 : L.getD s 0 = L.getD v 0
  · by_cases e2 : L.getD t 0 = L.getD v 0
    · rw [if_pos e1, if_pos e2, if_pos (q1.1 e1), if_pos (q2.1 e2)]; exact ⟨fun h => absurd h (by omega), fun h => absurd h (by omega)⟩
    · rw [if_pos e1, if_neg e2, if_pos (q1.1 e1), if_neg (fun h => e2 (q2.2 h))]; exact h.lt u t hu ht
  · by_cases e2 : L.getD t 0 = L.getD v 0
    · rw [if_neg e1, if_pos e2, if_neg (fun h => e1 (q1.2 h)), if_pos (q2.1 e2)]; exact h.lt s u hs hu
    · rw [if_neg e1, if_neg e2, if_neg (fun h => e1 (q1.2 h)), if_neg (fun h => e2 (q2.2 h))]; exact h.lt s t hs ht
/-- The links that are open. -/
structure Opn (P : List Pr) (L : List Nat) (B : Nat) (O : List K) : Prop where
  fit : ∀ x, x ∈ O → Fit P L B x.a x.b ∧ x.n = bw P L x.a x.b
  all : ∀ a b, Fit P L B a b → ∃ x, x ∈ O ∧ x.a = a ∧ x.b = b
  one : O.Pairwise (fun x y => ¬ (x.a = y.a ∧ x.b = y.b))
theorem lexK_lt (x y : K) : lexK x y < 0 ↔ y.n < x.n ∨ y.n = x.n ∧ (x.a < y.a ∨ x.a = y.a ∧ x.b < y.b) := by
  unfold lexK told cmpI
  by_cases h1 : y.n < x.n
  · have : (y.n : Int) < x.n := by omega
    simp [this, h1]
  · by_cases h2 : x.n < y.n
    · have q1 : ¬ (y.n : Int) < x.n := by omega
      have q2 : (x.n : Int) < y.n := by omega
      simp [q1, q2]; omega
    · have q1 : ¬ (y.n : Int) < x.n := by omega
      have q2 : ¬ (x.n : Int) < y.n := by omega
      by_cases h3 : x.a < y.a
      · have q3 : (x.a : Int) < y.a := by omega
        simp [q1, q2, q3]; omega
      · by_cases h4 : y.a < x.a
        · have q3 : ¬ (x.a : Int) < y.a := by omega
          have q4 : (y.a : Int) < x.a := by omega
          simp [q1, q2, q3, q4]; omega
        · have q3 : ¬ (x.a : Int) < y.a := by omega
          have q4 : ¬ (y.a : Int) < x.a := by omega
          by_cases h5 : x.b < y.b
          · have q5 : (x.b : Int) < y.b := by omega
            simp [q1, q2, q3, q4, q5]; omega
          · have q5 : ¬ (x.b : Int) < y.b := by omega
            by_cases h6 : y.b < x.b
            · have q6 : (y.b : Int) < x.b := by omega
              simp [q1, q2, q3, q4, q5, q6]; omega
            · have q6 : ¬ (y.b : Int) < x.b := by omega
              simp [q1, q2, q3, q4, q5, q6]; omega
theorem pickK_best (l : List K) : ∀ i, i < l.length → pickK l i ∈ l ∧ ∀ j, j ≤ i → noWorse (pickK l i).n (pickK l i).a (pickK l i).b (l.getD j K.zero).n (l.getD j K.zero).a (l.getD j K.zero).b
  | 0, h => ⟨by simp [pickK, List.getD, h], fun j hj => by
      obtain rfl : j = 0 := by omega
      exact .inr ⟨rfl, .inr ⟨rfl, Nat.le_refl _⟩⟩⟩
  | i + 1, h => by
    obtain ⟨h1, h2⟩ := pickK_best l i (by omega)
    have h3 := lexK_lt (l.getD (i + 1) K.zero) (pickK l i)
    simp only [pickK]
    split
    · rename_i hc
      have h4 := h3.1 hc
      refine ⟨by simp [List.getD, h], fun j hj => ?_⟩
      by_cases e : j = i + 1
      · subst e; exact .inr ⟨rfl, .inr ⟨rfl, Nat.le_refl _⟩⟩
      · have h5 := h2 j (by omega)
        unfold noWorse at h5 ⊢
        omega
    · rename_i hc
      refine ⟨h1, fun j hj => ?_⟩
      by_cases e : j = i + 1
      · subst e
        have h4 := fun h => hc (h3.2 h)
        unfold noWorse
        omega
      · exact h2 j (by omega)
theorem getD_memK {l : List K} {j : Nat} (h : j < l.length) : l.getD j K.zero ∈ l := by simp [List.getD, h]
theorem mem_getDK {l : List K} {x : K} (h : x ∈ l) : ∃ j, j < l.length ∧ l.getD j K.zero = x := by
  obtain ⟨j, hj, rfl⟩ := List.mem_iff_getElem.1 h
  exact ⟨j, hj, by simp [List.getD, hj]⟩
theorem Opn.pick {P : List Pr} {L : List Nat} {B : Nat} {O : List K} (h : Opn P L B O) (hn : 0 < O.length) : pickK O (O.length - 1) ∈ O ∧ Bst P L B (pickK O (O.length - 1)).a (pickK O (O.length - 1)).b := by
  obtain ⟨h1, h2⟩ := pickK_best O (O.length - 1) (by omega)
  obtain ⟨h3, h4⟩ := h.fit _ h1
  refine ⟨h1, h3, fun c d hf => ?_⟩
  obtain ⟨x, hx, rfl, rfl⟩ := h.all c d hf
  obtain ⟨j, hj, rfl⟩ := mem_getDK hx
  have h5 := h2 j (by omega)
  rw [h4, (h.fit _ hx).2] at h5
  exact h5
theorem Opn.none {P : List Pr} {L : List Nat} {B : Nat} (h : Opn P L B []) : ∀ a b, ¬ Fit P L B a b := fun a b hf => by
  obtain ⟨x, hx, _⟩ := h.all a b hf
  cases hx
theorem has_iff (l : K) (x : Nat) : l.has x = true ↔ x = l.a ∨ x = l.b := by unfold K.has; simp
/-- What one link adds to the pairs beside two labels. -/
def con (l m : K) (o : Nat) : Nat := if l.has m.a = true ∧ l.has m.b = true then 0 else if l.has m.a = true then (if m.b = o then m.n else 0) else if l.has m.b = true then (if m.a = o then m.n else 0) else 0
def bs (l : K) (O : List K) (o : Nat) : Nat := (O.map (fun m => con l m o)).sum
theorem bs_snoc (l : K) (q : List K) (m : K) (o : Nat) : bs l (q ++ [m]) o = bs l q o + con l m o := by simp [bs]
/-- The links that stay. -/
def oth (l : K) (O : List K) : List K := O.filter (fun m => !l.has m.a && !l.has m.b)
theorem oth_snoc (l : K) (q : List K) (m : K) : oth l (q ++ [m]) = if l.has m.a = true ∨ l.has m.b = true then oth l q else oth l q ++ [m] := by
  unfold oth
  rw [List.filter_append]
  by_cases h1 : l.has m.a = true <;> by_cases h2 : l.has m.b = true <;> simp [h1, h2]
theorem oth_le (l : K) (q : List K) : (oth l q).length ≤ q.length := List.length_filter_le _ _
def mat (c d : Nat) (m : K) : Prop := m.a = c ∧ m.b = d ∨ m.a = d ∧ m.b = c
instance (c d : Nat) (m : K) : Decidable (mat c d m) := by unfold mat; exact inferInstance
def lk (O : List K) (c d : Nat) : Nat := (O.map (fun m => if mat c d m then m.n else 0)).sum
theorem lk_none {O : List K} {c d : Nat} (h : ∀ m, m ∈ O → ¬ mat c d m) : lk O c d = 0 := by
  unfold lk
  induction O with
  | nil => rfl
  | cons x r ih =>
    rw [List.map_cons, List.sum_cons, if_neg (h x List.mem_cons_self), ih (fun m hm => h m (List.mem_cons_of_mem _ hm))]
theorem lk_mem {O : List K} {c d : Nat} {m : K} (ho : O.Pairwise (fun x y => ¬ (x.a = y.a ∧ x.b = y.b))) (hl : ∀ x, x ∈ O → x.a < x.b) (hm : m ∈ O) (h : mat c d m) : lk O c d = m.n := by
  induction O with
  | nil => cases hm
  | cons x r ih =>
    rw [List.pairwise_cons] at ho
    have hx := hl x List.mem_cons_self
    have key : ∀ y, y ∈ r → mat c d x → ¬ mat c d y := fun y hy h1 h2 => by
      have h3 := ho.1 y hy
      have h4 := hl y (List.mem_cons_of_mem _ hy)
      unfold mat at h1 h2
      omega
    show (if mat c d x then x.n else 0) + lk r c d = m.n
    rcases List.mem_cons.1 hm with rfl | hm
    · rw [if_pos h, lk_none (fun y hy => key y hy h)]; rfl
    · rw [if_neg (fun h1 => key m hm h1 h), Nat.zero_add]
      exact ih ho.2 (fun y hy => hl y (List.mem_cons_of_mem _ hy)) hm
theorem con_two {l m : K} {o : Nat} (hl : l.a < l.b) (hm : m.a < m.b) (h1 : o ≠ l.a) (h2 : o ≠ l.b) : con l m o = (if mat l.a o m then m.n else 0) + if mat l.b o m then m.n else 0 := by
  unfold con
  simp only [has_iff]
  by_cases p1 : mat l.a o m <;> by_cases p2 : mat l.b o m
  all_goals
    first | rw [if_pos p1] | rw [if_neg p1]
    first | rw [if_pos p2] | rw [if_neg p2]
    unfold mat at p1 p2
    (repeat' split) <;> omega
theorem con_own {l m : K} {o : Nat} (h : o = l.a ∨ o = l.b) : con l m o = 0 := by
  unfold con K.has
  simp only [Bool.or_eq_true, decide_eq_true_eq]
  (repeat' split) <;> omega
theorem bs_two {l : K} {o : Nat} (hl : l.a < l.b) (h1 : o ≠ l.a) (h2 : o ≠ l.b) : ∀ {O : List K}, (∀ x, x ∈ O → x.a < x.b) → bs l O o = lk O l.a o + lk O l.b o
  | [], _ => rfl
  | m :: r, h => by
    have ih := bs_two hl h1 h2 (O := r) (fun x hx => h x (List.mem_cons_of_mem _ hx))
    have e := con_two hl (h m List.mem_cons_self) h1 h2
    show con l m o + bs l r o = ((if mat l.a o m then m.n else 0) + lk r l.a o) + ((if mat l.b o m then m.n else 0) + lk r l.b o)
    omega
theorem bs_own {l : K} {o : Nat} (h : o = l.a ∨ o = l.b) : ∀ O : List K, bs l O o = 0
  | [] => rfl
  | m :: r => by
    have ih := bs_own h r
    show con l m o + bs l r o = 0
    rw [con_own h, ih]
theorem bs_some {l : K} {o : Nat} : ∀ {O : List K}, 0 < bs l O o → ∃ m, m ∈ O ∧ (m.a = o ∨ m.b = o)
  | [], h => absurd h (by simp [bs])
  | m :: r, h => by
    by_cases h1 : 0 < bs l r o
    · obtain ⟨x, hx, h2⟩ := bs_some h1
      exact ⟨x, List.mem_cons_of_mem _ hx, h2⟩
    · refine ⟨m, List.mem_cons_self, ?_⟩
      have h2 : 0 < con l m o + bs l r o := h
      have h3 : 0 < con l m o := by omega
      unfold con at h3
      (repeat' split at h3) <;> first | omega | (exact .inl (by assumption)) | (exact .inr (by assumption))
theorem con_le (l m : K) (o : Nat) : con l m o ≤ m.n := by
  unfold con
  (repeat' split) <;> omega
theorem lk_eq {P : List Pr} {L : List Nat} {B : Nat} {O : List K} (h : Opn P L B O) {c o : Nat} (hne : c ≠ o) (hB : L.count c + L.count o ≤ B) : lk O c o = bw P L c o := by
  by_cases h0 : 0 < bw P L c o
  · rcases Nat.lt_or_ge c o with hl | hl
    · obtain ⟨x, hx, h1, h2⟩ := h.all c o ⟨hl, h0, hB⟩
      rw [lk_mem h.one (fun x hx => (h.fit x hx).1.1) hx (.inl ⟨h1, h2⟩), (h.fit x hx).2, h1, h2]
    · obtain ⟨x, hx, h1, h2⟩ := h.all o c ⟨by omega, by rw [bw_comm]; exact h0, by omega⟩
      rw [lk_mem h.one (fun x hx => (h.fit x hx).1.1) hx (.inr ⟨h1, h2⟩), (h.fit x hx).2, h1, h2, bw_comm]
  · rw [lk_none (fun m hm hmat => ?_)]
    · omega
    · obtain ⟨h1, h2⟩ := h.fit m hm
      have h3 := h1.2.1
      rcases hmat with ⟨e1, e2⟩ | ⟨e1, e2⟩
      · rw [e1, e2] at h3; omega
      · rw [e1, e2, bw_comm] at h3; omega
theorem count_mrg {L : List Nat} {a b : Nat} (hab : a ≠ b) : (mrg L a b).count a = L.count a + L.count b ∧ (mrg L a b).count b = 0 ∧ ∀ o, o ≠ a → o ≠ b → (mrg L a b).count o = L.count o := by
  induction L with
  | nil => exact ⟨rfl, rfl, fun _ _ _ => rfl⟩
  | cons x r ih =>
    obtain ⟨h1, h2, h3⟩ := ih
    have e : mrg (x :: r) a b = (if x = b then a else x) :: mrg r a b := rfl
    rw [e]
    refine ⟨?_, ?_, fun o ho1 ho2 => ?_⟩
    · rw [List.count_cons, List.count_cons, List.count_cons, h1]
      by_cases e1 : x = b
      · subst e1; simp [Ne.symm hab]; omega
      · by_cases e2 : x = a
        · subst e2; simp [e1]; omega
        · simp [e1, e2]
    · rw [List.count_cons, h2]
      by_cases e1 : x = b
      · subst e1; simp [hab]
      · simp [e1]
    · rw [List.count_cons, List.count_cons, h3 o ho1 ho2]
      by_cases e1 : x = b
      · subst e1; simp [Ne.symm ho1, Ne.symm ho2]
      · simp [e1]
theorem bw_mrg {P : List Pr} {L : List Nat} (hP : PIn P L.length) {a b : Nat} (hab : a ≠ b) :
    (∀ o, o ≠ a → o ≠ b → bw P (mrg L a b) a o = bw P L a o + bw P L b o) ∧ (∀ o, bw P (mrg L a b) b o = 0) ∧ ∀ c d, c ≠ a → c ≠ b → d ≠ a → d ≠ b → bw P (mrg L a b) c d = bw P L c d := by
  refine ⟨fun o h1 h2 => ?_, fun o => ?_, fun c d h1 h2 h3 h4 => ?_⟩
  · induction P with
    | nil => rfl
    | cons p r ih =>
      have ih := ih (fun q hq => hP q (List.mem_cons_of_mem _ hq))
      obtain ⟨g1, g2⟩ := hP p List.mem_cons_self
      unfold bw at ih ⊢
      rw [List.countP_cons, List.countP_cons, List.countP_cons, ih]
      have : (if hitB (mrg L a b) a o p = true then 1 else 0) = (if hitB L a o p = true then 1 else 0) + if hitB L b o p = true then 1 else 0 := by
        unfold hitB
        rw [mrg_getD g1, mrg_getD g2]
        generalize L.getD p.a 0 = x
        generalize L.getD p.b 0 = y
        simp only [Bool.or_eq_true, Bool.and_eq_true, decide_eq_true_eq]
        (repeat' split) <;> omega
      omega
  · refine Nat.eq_zero_of_not_pos (fun h => ?_)
    obtain ⟨p, hp, h⟩ := bw_pos.1 h
    obtain ⟨g1, g2⟩ := hP p hp
    unfold hitB at h
    rw [mrg_getD g1, mrg_getD g2] at h
    simp only [Bool.or_eq_true, Bool.and_eq_true, decide_eq_true_eq] at h
    split at h <;> split at h <;> omega
  · unfold bw
    refine List.countP_congr (fun p hp => ?_)
    obtain ⟨g1, g2⟩ := hP p hp
    unfold hitB
    rw [mrg_getD g1, mrg_getD g2]
    generalize L.getD p.a 0 = x
    generalize L.getD p.b 0 = y
    simp only [Bool.or_eq_true, Bool.and_eq_true, decide_eq_true_eq]
    (repeat' split) <;> omega
/-- The links of the two labels that became one, with the first so many others. -/
def nwK (l : K) (B : Nat) (S : List Nat) (O : List K) : Nat → List K
  | 0 => []
  | o + 1 => nwK l B S O o ++ if 0 < bs l O o ∧ S.getD (min l.a o) 0 + S.getD (max l.a o) 0 ≤ B then [⟨min l.a o, max l.a o, bs l O o⟩] else []
theorem nwK_mem {l : K} {B : Nat} {S : List Nat} {O : List K} {x : K} : ∀ k, x ∈ nwK l B S O k ↔ ∃ o, o < k ∧ 0 < bs l O o ∧ S.getD (min l.a o) 0 + S.getD (max l.a o) 0 ≤ B ∧ x = ⟨min l.a o, max l.a o, bs l O o⟩
  | 0 => ⟨fun h => absurd h (by simp [nwK]), fun ⟨o, h, _⟩ => absurd h (by omega)⟩
  | k + 1 => by
    simp only [nwK, List.mem_append]
    rw [nwK_mem k]
    constructor
    · rintro (⟨o, h1, h2⟩ | h)
      · exact ⟨o, by omega, h2⟩
      · split at h
        · rename_i hc
          rw [List.mem_singleton] at h
          exact ⟨k, by omega, hc.1, hc.2, h⟩
        · cases h
    · rintro ⟨o, h1, h2, h3, h4⟩
      by_cases e : o = k
      · subst e
        right
        rw [if_pos ⟨h2, h3⟩, List.mem_singleton]
        exact h4
      · exact .inl ⟨o, by omega, h2, h3, h4⟩
theorem nwK_len (l : K) (B : Nat) (S : List Nat) (O : List K) : ∀ k, (nwK l B S O k).length ≤ k
  | 0 => Nat.le_refl _
  | k + 1 => by
    have := nwK_len l B S O k
    simp only [nwK, List.length_append]
    split <;> simp <;> omega
theorem nwK_one (l : K) (B : Nat) (S : List Nat) (O : List K) : ∀ k, (nwK l B S O k).Pairwise (fun x y => ¬ (x.a = y.a ∧ x.b = y.b))
  | 0 => List.Pairwise.nil
  | k + 1 => by
    simp only [nwK]
    rw [List.pairwise_append]
    refine ⟨nwK_one l B S O k, by split <;> simp, fun x hx y hy => ?_⟩
    obtain ⟨o, h1, _, _, rfl⟩ := (nwK_mem k).1 hx
    split at hy
    · rw [List.mem_singleton] at hy
      subst hy
      show ¬ (min l.a o = min l.a k ∧ max l.a o = max l.a k)
      omega
    · cases hy
/-- The sizes of labels that are there. -/
def SzOk (L S : List Nat) : Prop := ∀ a, a ∈ L → a < S.length ∧ S.getD a 0 = L.count a
theorem SzOk.mrgE {L S : List Nat} (h : SzOk L S) {a b : Nat} (hab : a ≠ b) (ha : a ∈ L) (hb : b ∈ L) : SzOk (mrg L a b) (S.set a (S.getD a 0 + S.getD b 0)) := by
  intro x hx
  obtain ⟨c1, c2, c3⟩ := count_mrg (L := L) hab
  have hx0 : 0 < (mrg L a b).count x := List.count_pos_iff.2 hx
  rw [List.length_set]
  by_cases e1 : x = a
  · subst e1
    refine ⟨(h x ha).1, ?_⟩
    rw [c1, ← (h x ha).2, ← (h b hb).2]
    simp [List.getD, (h x ha).1]
  · by_cases e2 : x = b
    · subst e2; omega
    · rw [c3 x e1 e2] at hx0 ⊢
      have hxL := List.count_pos_iff.1 hx0
      refine ⟨(h x hxL).1, ?_⟩
      rw [← (h x hxL).2]
      simp [List.getD, Ne.symm e1]
theorem Fit.mem {P : List Pr} {L : List Nat} {B a b : Nat} (hP : PIn P L.length) (h : Fit P L B a b) : a ∈ L ∧ b ∈ L := by
  obtain ⟨u, v, hu, hv, rfl, rfl⟩ := h.ends hP
  exact ⟨by rw [getD_in hu]; exact List.getElem_mem hu, by rw [getD_in hv]; exact List.getElem_mem hv⟩
/-- The links behind a join. -/
theorem Opn.next {P : List Pr} {L S : List Nat} {B : Nat} {O : List K} {l : K} (hP : PIn P L.length) (h : Opn P L B O) (hS : SzOk L S) (hl : l ∈ O) :
    Opn P (mrg L l.a l.b) B (oth l O ++ nwK l B (S.set l.a (S.getD l.a 0 + S.getD l.b 0)) O S.length) := by
  obtain ⟨hf, _⟩ := h.fit l hl
  have hab := hf.1
  obtain ⟨ha, hb⟩ := hf.mem hP
  have hne : l.a ≠ l.b := by omega
  have hS' := hS.mrgE hne ha hb
  obtain ⟨c1, c2, c3⟩ := count_mrg (L := L) hne
  obtain ⟨b1, b2, b3⟩ := bw_mrg (L := L) hP hne
  have hPm : PIn P (mrg L l.a l.b).length := by rw [mrg_len]; exact hP
  have hlt : ∀ x, x ∈ O → x.a < x.b := fun x hx => (h.fit x hx).1.1
  have ham : l.a ∈ mrg L l.a l.b := List.count_pos_iff.1 (by rw [c1]; have := List.count_pos_iff.2 ha; omega)
  generalize hT : S.set l.a (S.getD l.a 0 + S.getD l.b 0) = T at *
  have hbs : ∀ o, o ≠ l.a → o ≠ l.b → L.count l.a + L.count l.b + L.count o ≤ B → bs l O o = bw P (mrg L l.a l.b) l.a o := fun o h1 h2 h3 => by
    rw [bs_two hab h1 h2 hlt, b1 o h1 h2, lk_eq h (Ne.symm h1) (by omega), lk_eq h (Ne.symm h2) (by omega)]
  have hmm : ∀ o : Nat, T.getD (min l.a o) 0 + T.getD (max l.a o) 0 = T.getD l.a 0 + T.getD o 0 := fun o => by
    rcases Nat.le_total l.a o with e | e
    · rw [Nat.min_eq_left e, Nat.max_eq_right e]
    · rw [Nat.min_eq_right e, Nat.max_eq_left e, Nat.add_comm]
  have hnew : ∀ o, 0 < bs l O o → T.getD l.a 0 + T.getD o 0 ≤ B → o ≠ l.a ∧ o ≠ l.b ∧ 0 < bw P (mrg L l.a l.b) l.a o ∧ bs l O o = bw P (mrg L l.a l.b) l.a o ∧ (mrg L l.a l.b).count l.a + (mrg L l.a l.b).count o ≤ B := fun o h1 h2 => by
    have e1 : o ≠ l.a := fun e => by rw [bs_own (.inl e)] at h1; omega
    have e2 : o ≠ l.b := fun e => by rw [bs_own (.inr e)] at h1; omega
    obtain ⟨m, hm, hmo⟩ := bs_some h1
    have hoL : o ∈ L := by
      have := (h.fit m hm).1.mem hP
      rcases hmo with e | e
      · rw [← e]; exact this.1
      · rw [← e]; exact this.2
    have hom : o ∈ mrg L l.a l.b := List.count_pos_iff.1 (by rw [c3 o e1 e2]; exact List.count_pos_iff.2 hoL)
    rw [(hS' _ ham).2, (hS' _ hom).2] at h2
    have h3 := hbs o e1 e2 (by rw [c1, c3 o e1 e2] at h2; exact h2)
    exact ⟨e1, e2, by omega, h3, h2⟩
  refine ⟨fun x hx => ?_, fun c d hcd => ?_, ?_⟩
  · rcases List.mem_append.1 hx with hx | hx
    · obtain ⟨hxO, hh⟩ := List.mem_filter.1 hx
      simp only [Bool.and_eq_true, Bool.not_eq_true', Bool.eq_false_iff, ne_eq, has_iff] at hh
      obtain ⟨f1, f2⟩ := h.fit x hxO
      have f3 := b3 x.a x.b (by omega) (by omega) (by omega) (by omega)
      refine ⟨⟨f1.1, by rw [f3]; exact f1.2.1, ?_⟩, by rw [f3]; exact f2⟩
      rw [c3 x.a (by omega) (by omega), c3 x.b (by omega) (by omega)]
      exact f1.2.2
    · obtain ⟨o, _, h2, h3, rfl⟩ := (nwK_mem _).1 hx
      rw [hmm] at h3
      obtain ⟨e1, e2, g1, g2, g3⟩ := hnew o h2 h3
      show Fit P (mrg L l.a l.b) B (min l.a o) (max l.a o) ∧ bs l O o = bw P (mrg L l.a l.b) (min l.a o) (max l.a o)
      rcases Nat.lt_or_ge l.a o with e | e
      · rw [Nat.min_eq_left (by omega), Nat.max_eq_right (by omega)]
        exact ⟨⟨e, g1, g3⟩, g2⟩
      · rw [Nat.min_eq_right (by omega), Nat.max_eq_left (by omega), bw_comm P _ o]
        exact ⟨⟨by omega, by rw [bw_comm]; exact g1, by omega⟩, g2⟩
  · obtain ⟨hc, hd⟩ := hcd.mem hPm
    have nb : ∀ x, x ∈ mrg L l.a l.b → x ≠ l.b := fun x hx e => by
      have := List.count_pos_iff.2 hx
      rw [e, c2] at this
      omega
    have hcb := nb c hc
    have hdb := nb d hd
    have viaA : ∀ o, o ∈ mrg L l.a l.b → o ≠ l.a → 0 < bw P (mrg L l.a l.b) l.a o → (mrg L l.a l.b).count l.a + (mrg L l.a l.b).count o ≤ B → (⟨min l.a o, max l.a o, bs l O o⟩ : K) ∈ nwK l B T O S.length := fun o ho h1 h2 h3 => by
      have hob := nb o ho
      have h4 := hbs o h1 hob (by rw [c1, c3 o h1 hob] at h3; exact h3)
      refine (nwK_mem _).2 ⟨o, ?_, by omega, ?_, rfl⟩
      · have := (hS' o ho).1
        rw [← hT, List.length_set] at this
        exact this
      · rw [hmm, (hS' _ ham).2, (hS' _ ho).2]
        exact h3
    by_cases e1 : c = l.a
    · subst e1
      have := viaA d hd (fun e => by have := hcd.1; omega) hcd.2.1 hcd.2.2
      exact ⟨_, List.mem_append_right _ this, Nat.min_eq_left (Nat.le_of_lt hcd.1), Nat.max_eq_right (Nat.le_of_lt hcd.1)⟩
    · by_cases e2 : d = l.a
      · subst e2
        have := viaA c hc e1 (by rw [bw_comm]; exact hcd.2.1) (by have := hcd.2.2; omega)
        exact ⟨_, List.mem_append_right _ this, Nat.min_eq_right (Nat.le_of_lt hcd.1), Nat.max_eq_left (Nat.le_of_lt hcd.1)⟩
      · have f3 := b3 c d e1 hcb e2 hdb
        obtain ⟨x, hx, rfl, rfl⟩ := h.all c d ⟨hcd.1, by rw [← f3]; exact hcd.2.1, by have := hcd.2.2; rw [c3 c e1 hcb, c3 d e2 hdb] at this; exact this⟩
        refine ⟨x, List.mem_append_left _ (List.mem_filter.2 ⟨hx, ?_⟩), rfl, rfl⟩
        simp only [Bool.and_eq_true, Bool.not_eq_true', Bool.eq_false_iff, ne_eq, has_iff]
        omega
  · rw [List.pairwise_append]
    refine ⟨h.one.sublist List.filter_sublist, nwK_one _ _ _ _ _, fun x hx y hy => ?_⟩
    obtain ⟨_, hh⟩ := List.mem_filter.1 hx
    simp only [Bool.and_eq_true, Bool.not_eq_true', Bool.eq_false_iff, ne_eq, has_iff] at hh
    obtain ⟨o, _, _, _, rfl⟩ := (nwK_mem _).1 hy
    show ¬ (x.a = min l.a o ∧ x.b = max l.a o)
    omega
end Go.Proofs.Ytchfccbneedejaa
namespace Go.Proofs.Ytchfccbneedejaa
open Go.RowKit
/-- All links of some pairs. -/
structure Lks (P : List Pr) (L : List Nat) (l : List K) : Prop where
  fit : ∀ x, x ∈ l → x.a < x.b ∧ x.n = bw P L x.a x.b ∧ 0 < x.n
  all : ∀ a b, a < b → 0 < bw P L a b → ∃ x, x ∈ l ∧ x.a = a ∧ x.b = b
  one : l.Pairwise (fun x y => ¬ (x.a = y.a ∧ x.b = y.b))
theorem Lks.nil (L : List Nat) : Lks [] L [] := ⟨fun x h => absurd h List.not_mem_nil, fun a b _ h => absurd h (by simp [bw]), List.Pairwise.nil⟩
theorem hit_iff (L : List Nat) (c d : Nat) (p : Pr) (h : c < d) : hitB L c d p = true ↔ L.getD p.a 0 ≠ L.getD p.b 0 ∧ c = min (L.getD p.a 0) (L.getD p.b 0) ∧ d = max (L.getD p.a 0) (L.getD p.b 0) := by
  unfold hitB
  simp only [Bool.or_eq_true, Bool.and_eq_true, decide_eq_true_eq]
  omega
theorem bw_next (P : List Pr) (L : List Nat) (c d : Nat) (p : Pr) (h : c < d) : bw (P ++ [p]) L c d = bw P L c d + if L.getD p.a 0 ≠ L.getD p.b 0 ∧ c = min (L.getD p.a 0) (L.getD p.b 0) ∧ d = max (L.getD p.a 0) (L.getD p.b 0) then 1 else 0 := by
  rw [bw_snoc]
  congr 1
  have := hit_iff L c d p h
  by_cases e : hitB L c d p = true
  · rw [if_pos e, if_pos (this.1 e)]
  · rw [if_neg e, if_neg (fun h => e (this.2 h))]
theorem Lks.skip {P : List Pr} {L : List Nat} {l : List K} (h : Lks P L l) {p : Pr} (e : L.getD p.a 0 = L.getD p.b 0) : Lks (P ++ [p]) L l := by
  have hb : ∀ c d, c < d → bw (P ++ [p]) L c d = bw P L c d := fun c d hcd => by rw [bw_next P L c d p hcd, if_neg (fun h => h.1 e), Nat.add_zero]
  refine ⟨fun x hx => ?_, fun a b hab h0 => h.all a b hab (by rw [← hb a b hab]; exact h0), h.one⟩
  have := h.fit x hx
  rw [hb _ _ this.1]
  exact this
theorem Lks.new {P : List Pr} {L : List Nat} {l : List K} (h : Lks P L l) {p : Pr} {x y : Nat} (hne : L.getD p.a 0 ≠ L.getD p.b 0) (hx : x = min (L.getD p.a 0) (L.getD p.b 0)) (hy : y = max (L.getD p.a 0) (L.getD p.b 0)) (hn : ∀ m, m ∈ l → ¬ (m.a = x ∧ m.b = y)) : Lks (P ++ [p]) L (l ++ [⟨x, y, 1⟩]) := by
  have hxy : x < y := by omega
  have h0 : bw P L x y = 0 := Nat.eq_zero_of_not_pos (fun h0 => by
    obtain ⟨m, hm, e1, e2⟩ := h.all x y hxy h0
    exact hn m hm ⟨e1, e2⟩)
  refine ⟨fun m hm => ?_, fun a b hab h1 => ?_, ?_⟩
  · rcases List.mem_append.1 hm with hm | hm
    · have h1 := h.fit m hm
      rw [bw_next P L _ _ p h1.1, if_neg (fun h2 => hn m hm (by omega))]
      exact h1
    · rw [List.mem_singleton] at hm
      subst hm
      refine ⟨hxy, ?_, Nat.one_pos⟩
      show 1 = bw (P ++ [p]) L x y
      rw [bw_next P L x y p hxy, if_pos ⟨hne, hx, hy⟩, h0]
  · by_cases e : a = x ∧ b = y
    · exact ⟨_, List.mem_append_right _ (List.mem_singleton_self _), e.1.symm, e.2.symm⟩
    · rw [bw_next P L a b p hab, if_neg (by omega)] at h1
      obtain ⟨m, hm, h2⟩ := h.all a b hab h1
      exact ⟨m, List.mem_append_left _ hm, h2⟩
  · rw [List.pairwise_append]
    refine ⟨h.one, by simp, fun m hm m' hm' => ?_⟩
    rw [List.mem_singleton] at hm'
    subst hm'
    exact hn m hm
theorem one_get {l : List K} (h : l.Pairwise (fun x y => ¬ (x.a = y.a ∧ x.b = y.b))) {i j : Nat} (hi : i < l.length) (hj : j < l.length) (e : (l.getD i K.zero).a = (l.getD j K.zero).a ∧ (l.getD i K.zero).b = (l.getD j K.zero).b) : i = j := by
  have key : ∀ i j, i < j → j < l.length → ¬ ((l.getD i K.zero).a = (l.getD j K.zero).a ∧ (l.getD i K.zero).b = (l.getD j K.zero).b) := fun i j hij hj => by
    have := List.pairwise_iff_getElem.1 h i j (by omega) hj hij
    simpa [List.getD, hj, show i < l.length by omega] using this
  rcases Nat.lt_trichotomy i j with h1 | h1 | h1
  · exact absurd e (key i j h1 hj)
  · exact h1
  · exact absurd ⟨e.1.symm, e.2.symm⟩ (key j i h1 hi)
theorem getD_setK (l : List K) (i j : Nat) (x : K) (hi : i < l.length) : (l.set i x).getD j K.zero = if j = i then x else l.getD j K.zero := by
  by_cases h : j = i
  · subst h; simp [List.getD, hi]
  · rw [if_neg h]; simp [List.getD, Ne.symm h]
theorem Lks.more {P : List Pr} {L : List Nat} {l : List K} (h : Lks P L l) {p : Pr} {x y i n : Nat} (hne : L.getD p.a 0 ≠ L.getD p.b 0) (hx : x = min (L.getD p.a 0) (L.getD p.b 0)) (hy : y = max (L.getD p.a 0) (L.getD p.b 0)) (hi : i < l.length) (he : l.getD i K.zero = ⟨x, y, n⟩) : Lks (P ++ [p]) L (l.set i ⟨x, y, n + 1⟩) := by
  have hxy : x < y := by omega
  have hfi := h.fit _ (getD_memK hi)
  rw [he] at hfi
  have keep : ∀ j, j < l.length → ((l.set i ⟨x, y, n + 1⟩).getD j K.zero).a = (l.getD j K.zero).a ∧ ((l.set i ⟨x, y, n + 1⟩).getD j K.zero).b = (l.getD j K.zero).b := fun j hj => by
    rw [getD_setK l i j _ hi]
    split
    · rename_i e; subst e; rw [he]; exact ⟨rfl, rfl⟩
    · exact ⟨rfl, rfl⟩
  refine ⟨fun m hm => ?_, fun a b hab h1 => ?_, ?_⟩
  · obtain ⟨j, hj, rfl⟩ := mem_getDK hm
    rw [List.length_set] at hj
    rw [getD_setK l i j _ hi]
    by_cases e : j = i
    · subst e
      rw [if_pos rfl]
      refine ⟨hxy, ?_, Nat.succ_pos _⟩
      show n + 1 = bw (P ++ [p]) L x y
      rw [bw_next P L x y p hxy, if_pos ⟨hne, hx, hy⟩]
      have h4 : n = bw P L x y := hfi.2.1
      omega
    · rw [if_neg e]
      have h2 := h.fit _ (getD_memK hj)
      rw [bw_next P L _ _ p h2.1, if_neg (fun h3 => e (one_get h.one hj hi (by rw [he]; show _ = x ∧ _ = y; omega)))]
      exact h2
  · have hex : ∀ m, m ∈ l → m.a = a ∧ m.b = b → ∃ m', m' ∈ l.set i ⟨x, y, n + 1⟩ ∧ m'.a = a ∧ m'.b = b := fun m hm e => by
      obtain ⟨j, hj, rfl⟩ := mem_getDK hm
      have k := keep j hj
      exact ⟨_, getD_memK (by rw [List.length_set]; exact hj), k.1.trans e.1, k.2.trans e.2⟩
    by_cases e : a = x ∧ b = y
    · exact hex _ (getD_memK hi) (by rw [he]; exact ⟨e.1.symm, e.2.symm⟩)
    · rw [bw_next P L a b p hab, if_neg (by omega)] at h1
      obtain ⟨m, hm, h2⟩ := h.all a b hab h1
      exact hex m hm h2
  · rw [List.pairwise_iff_getElem]
    intro j k hj hk hjk
    have hj' : j < l.length := by rw [List.length_set] at hj; exact hj
    have hk' : k < l.length := by rw [List.length_set] at hk; exact hk
    have e1 : (l.set i ⟨x, y, n + 1⟩)[j] = (l.set i ⟨x, y, n + 1⟩).getD j K.zero := by simp [List.getD, hj']
    have e2 : (l.set i ⟨x, y, n + 1⟩)[k] = (l.set i ⟨x, y, n + 1⟩).getD k K.zero := by simp [List.getD, hk']
    rw [e1, e2, (keep j hj').1, (keep j hj').2, (keep k hk').1, (keep k hk').2]
    intro e
    have := one_get h.one hj' hk' e
    omega
/-- Those of the links whose labels can be joined. -/
def fits (S : List Nat) (B : Nat) (l : List K) : List K := l.filter (fun x => decide (S.getD x.a 0 + S.getD x.b 0 ≤ B))
theorem fits_snoc (S : List Nat) (B : Nat) (l : List K) (x : K) : fits S B (l ++ [x]) = fits S B l ++ if S.getD x.a 0 + S.getD x.b 0 ≤ B then [x] else [] := by
  unfold fits
  rw [List.filter_append]
  congr 1
  by_cases h : S.getD x.a 0 + S.getD x.b 0 ≤ B
  · rw [if_pos h, List.filter_cons, if_pos (decide_eq_true h)]; rfl
  · rw [if_neg h, List.filter_cons, if_neg (by rw [decide_eq_true_eq]; exact h)]; rfl
theorem fits_len (S : List Nat) (B : Nat) (l : List K) : (fits S B l).length ≤ l.length := List.length_filter_le _ _
theorem pair_mem {P : List Pr} {L : List Nat} {a b : Nat} (hP : PIn P L.length) (h : 0 < bw P L a b) : a ∈ L ∧ b ∈ L := by
  obtain ⟨u, v, hu, hv, rfl, rfl, _⟩ := hit_ends hP h
  exact ⟨by rw [getD_in hu]; exact List.getElem_mem hu, by rw [getD_in hv]; exact List.getElem_mem hv⟩
theorem Lks.opn {P : List Pr} {L S : List Nat} {l : List K} (h : Lks P L l) (hP : PIn P L.length) (hS : SzOk L S) (B : Nat) : Opn P L B (fits S B l) := by
  refine ⟨fun x hx => ?_, fun a b hab => ?_, h.one.sublist List.filter_sublist⟩
  · obtain ⟨h1, h2⟩ := List.mem_filter.1 hx
    obtain ⟨h3, h4, h5⟩ := h.fit x h1
    obtain ⟨m1, m2⟩ := pair_mem hP (by rw [← h4]; exact h5)
    rw [decide_eq_true_eq, (hS _ m1).2, (hS _ m2).2] at h2
    exact ⟨⟨h3, by rw [← h4]; exact h5, h2⟩, h4⟩
  · obtain ⟨x, hx, rfl, rfl⟩ := h.all a b hab.1 hab.2.1
    obtain ⟨m1, m2⟩ := pair_mem hP hab.2.1
    refine ⟨x, List.mem_filter.2 ⟨hx, ?_⟩, rfl, rfl⟩
    rw [decide_eq_true_eq, (hS _ m1).2, (hS _ m2).2]
    exact hab.2.2
end Go.Proofs.Ytchfccbneedejaa
namespace Go.Proofs.Ytchfccbneedejaa
open Go.RowKit
/-- The header of growth. -/
structure Gw (w : World) (f b1 b2 bs n m : Nat) (a : Option Addr) (cap : Nat) : Prop where
  hd : w.heap[f]? = some (.cells #[.slice a m cap, .slice (some ⟨b1, 0, none⟩) n n, .slice (some ⟨b2, 0, none⟩) (2 * m) (2 * m), .slice (some ⟨bs, 0, none⟩) n n] 100 (0, 0))
theorem four_cells {w : World} {g : Nat} {a b c d : Value} {t : TypeId} (hh : w.heap[g]? = some (.cells #[a, b, c, d] t)) : w.cell? ⟨g, 0, none⟩ = some a ∧ w.cell? ⟨g, 1, none⟩ = some b ∧ w.cell? ⟨g, 2, none⟩ = some c ∧ w.cell? ⟨g, 3, none⟩ = some d := by
  simp [World.cell?, hh]
theorem Gw.fr {D : Nat → Prop} {w w' : World} {f b1 b2 bs n m : Nat} {a : Option Addr} {cap : Nat} (h : Gw w f b1 b2 bs n m a cap) (hf : Fr D w w') (hn : ¬ D f) : Gw w' f b1 b2 bs n m a cap := ⟨(hf.block f (lt_of_block h.hd) hn).trans h.hd⟩
set_option maxHeartbeats 1600000 in
set_option maxRecDepth 100000 in
theorem chain_any {w : World} {f b1 b2 bs n m : Nat} {a : Option Addr} {cap : Nat} {F G : Nat → Int} (hg : Gw w f b1 b2 bs n m a cap) (h1 : TbV w b1 n 3 (fun v => .int .i64 (F v))) (h2 : TbV w b2 (2 * m) 3 (fun v => .int .i64 (G v))) (hne : b1 ≠ b2) (hf1 : f ≠ b1) (hf2 : f ≠ b2) {v k : Nat} (hv : v < n) (hk : k < 2 * m) :
    Calls Try.prog 91 #[.pointer (some ⟨f, 0, none⟩), .int .i64 v, .int .i64 k] w fun e w' => e = .returned (.tuple #[]) ∧ TbV w' b1 n 3 (fun x => .int .i64 (updI F v k x)) ∧ TbV w' b2 (2 * m) 3 (fun x => .int .i64 (updI G k (F v) x)) ∧ Fr (fun j => j = b1 ∨ j = b2) w w' := by
  obtain ⟨c0, c1, c2, c3⟩ := four_cells hg.hd
  have d1 := h1.cell hv
  have d1f := h1.free v
  have d2 := h2.cell hk
  have d2f := h2.free k
  have hv' : (v : Int) < n := by omega
  have hk' : (k : Int) < ((2 * m : Nat) : Int) := by omega
  have f1 : Fr (fun j => j = b2) w (w.setCell ⟨b2, k, none⟩ (.int .i64 (F v))) := (Fr.refl _ w).setCell ⟨b2, k, none⟩ _ rfl
  have f2 : Fr (fun j => j = b1) (w.setCell ⟨b2, k, none⟩ (.int .i64 (F v))) ((w.setCell ⟨b2, k, none⟩ (.int .i64 (F v))).setCell ⟨b1, v, none⟩ (.int .i64 k)) := (Fr.refl _ _).setCell ⟨b1, v, none⟩ _ rfl
  have t2 := ((h2.set k (.int .i64 (F v))).fr f2 (fun e => hne e.symm)).congr (fun x _ => upd_rank G k (F v) x)
  have t1 := ((h1.fr f1 hne).set v (.int .i64 k)).congr (fun x _ => upd_rank F v k x)
  have f3 := (f1.imp (D2 := fun j => j = b1 ∨ j = b2) (fun _ h => .inr h)).trans (f2.imp (fun _ h => .inl h))
  have HT1 := Lib.hid t1
  have HT2 := Lib.hid t2
  have HF3 := Lib.hid f3
  have hne2 := hne.symm
  have hf1' := hf1.symm
  have hf2' := hf2.symm
  clear h1 h2 f1 f2 f3 t1 t2
  generalize hFv : F v = fv at *
  generalize hGk : G k = gk at *
  go_enter Try.func91, Try.ntmps91
  go_wp2_with fail
  go_region
  all_goals
    go_wp2_with fail
    go_end0
    exact ⟨rfl, HT1.out, HT2.out, ⟨HF3.out.os, HF3.out.tape, HF3.out.output, HF3.out.size, HF3.out.block⟩⟩
set_option maxHeartbeats 800000 in
theorem across_any {w : World} {f b1 b2 bs n : Nat} {a : Option Addr} {l : List A} {cap : Nat} (hg : Gw w f b1 b2 bs n l.length a cap) (hr : Arcs w a l) (hp : ∀ x, x ∈ l → 0 ≤ x.f ∧ 0 ≤ x.t) (hm : l.length ≤ 16384) {k : Nat} (hk : k < 2 * l.length) :
    Calls Try.prog 99 #[.pointer (some ⟨f, 0, none⟩), .int .i64 k] w fun e w' => e = .returned (.int .i64 (tto (edl l) k)) ∧ w' = w := by
  obtain ⟨c0, c1, c2, c3⟩ := four_cells hg.hd
  have hj : k / 2 < l.length := by omega
  obtain ⟨b, o, rfl, hbl, hat⟩ : ∃ b o, a = some ⟨b, o, none⟩ ∧ b < w.heap.size ∧ ∀ j, j < l.length → (l.getD j A.zero).at w b (o + j * 3) := by
    rcases hr with rfl | ⟨b, o, h⟩
    · simp at hj
    · exact ⟨b, o, h⟩
  obtain ⟨x0, x1, x2⟩ := hat (k / 2) hj
  have hpo := hp (l.getD (k / 2) A.zero) (by simp [List.getD, List.getElem?_eq_getElem hj])
  have he := edl_at hj
  have hj' : ((k / 2 : Nat) : Int) < l.length := by omega
  generalize l.getD (k / 2) A.zero = x at *
  obtain ⟨T, HT⟩ := named (tto (edl l) k)
  rw [HT.out]
  have E1 : Hid ((k : Int) / 2 = ((k / 2 : Nat) : Int)) := by show _ = _; omega
  by_cases hp2 : k % 2 = 0
  · have e2 : ((k : Int) % 2 == 0) = true := by simp; omega
    have hT : (T : Int) = x.t := by
      rw [← HT.out]; unfold tto; rw [if_pos hp2, he]; exact Int.toNat_of_nonneg hpo.2
    have HTT := Lib.hid hT
    clear hT
    go_enter Try.func99, Try.ntmps99
    go_wp2_with fail
    go_ret
    exact ⟨by rw [HTT.out]; rfl, rfl⟩
  · have e2 : ((k : Int) % 2 == 0) = false := by simp; omega
    have hT : (T : Int) = x.f := by
      rw [← HT.out]; unfold tto; rw [if_neg hp2, he]; exact Int.toNat_of_nonneg hpo.1
    have HTT := Lib.hid hT
    clear hT
    go_enter Try.func99, Try.ntmps99
    go_wp2_with fail
    go_ret
    exact ⟨by rw [HTT.out]; rfl, rfl⟩
end Go.Proofs.Ytchfccbneedejaa
