/-
  How many letters there are, and how many links.
-/
import Derived.Test.YtfhlfklgngpklaaLns
import Derived.Test.YtfhlfklgngpklaaDue
namespace Go.Proofs.Ytfhlfklgngpklaa
open Go.RowKit
/-- The sum of so many numbers. -/
def sumTo (f : Nat → Nat) : Nat → Nat
  | 0 => 0
  | n + 1 => sumTo f n + f n
theorem sumTo_congr {f g : Nat → Nat} : ∀ {n : Nat}, (∀ i, i < n → f i = g i) → sumTo f n = sumTo g n
  | 0, _ => rfl
  | n + 1, h => by unfold sumTo; rw [sumTo_congr (fun i hi => h i (by omega)), h n (by omega)]
theorem sumTo_turn {f g : Nat → Nat} {i : Nat} : ∀ {n : Nat}, i < n → (∀ j, j < n → j ≠ i → g j = f j) → sumTo g n + f i = sumTo f n + g i
  | 0, h, _ => by omega
  | n + 1, h, hj => by
    unfold sumTo
    by_cases e : i = n
    · subst e
      rw [sumTo_congr (f := g) (g := f) (fun j h' => hj j (by omega) (by omega))]
      omega
    · have := sumTo_turn (n := n) (by omega) (fun j h' h'' => hj j (by omega) h'')
      have := hj n (by omega) (fun e' => e e'.symm)
      omega
theorem sumTo_le {f : Nat → Nat} {i : Nat} : ∀ {n : Nat}, i < n → f i ≤ sumTo f n
  | 0, h => by omega
  | n + 1, h => by
    unfold sumTo
    by_cases e : i = n
    · subst e; omega
    · have := sumTo_le (f := f) (n := n) (i := i) (by omega)
      omega
def pN (a b : Nat) : Pr := ⟨(a : Int), (b : Int)⟩
/-- How many letters lie on a link. -/
def lenAt (S : NS) (a b : Nat) : Nat := if In S.N (pN a b) then (S.bg (pN a b)).length else 0
def hasAt (S : NS) (a b : Nat) : Nat := if 0 < lenAt S a b then 1 else 0
def rowL (S : NS) (a : Nat) : Nat := sumTo (lenAt S a) S.N
def rowH (S : NS) (a : Nat) : Nat := sumTo (hasAt S a) S.N
def tot (S : NS) : Nat := sumTo (rowL S) S.N
def cntL (S : NS) : Nat := sumTo (rowH S) S.N
theorem tot_set {S : NS} {p : Pr} (hp : In S.N p) (l : List ByteArray) : tot (S.set p l) + (S.bg p).length = tot S + l.length := by
  obtain ⟨h1, h2, h3, h4, h5⟩ := hp
  obtain ⟨a, b⟩ := p
  obtain ⟨i, rfl⟩ := Int.eq_ofNat_of_zero_le h1
  obtain ⟨j, rfl⟩ := Int.eq_ofNat_of_zero_le h3
  have hi : i < S.N := by simp only at h2; omega
  have hj : j < S.N := by simp only at h4; omega
  have hI : In S.N (pN i j) := ⟨h1, h2, h3, h4, h5⟩
  have hne : ∀ a b : Nat, (a ≠ i ∨ b ≠ j) → (S.set (pN i j) l).bg (pN a b) = S.bg (pN a b) := fun a b h => by
    show (if pN a b = pN i j then l else S.bg (pN a b)) = _
    rw [if_neg (fun e => by
      have e1 : (a : Int) = i := congrArg Pr.a e
      have e2 : (b : Int) = j := congrArg Pr.b e
      omega)]
  have hat : (S.set (pN i j) l).bg (pN i j) = l := if_pos rfl
  have r1 : ∀ a, a ≠ i → rowL (S.set (pN i j) l) a = rowL S a := fun a ha => sumTo_congr (fun b hb => by unfold lenAt; rw [hne a b (Or.inl ha)]; rfl)
  have r2 : rowL (S.set (pN i j) l) i + lenAt S i j = rowL S i + lenAt (S.set (pN i j) l) i j := sumTo_turn (n := S.N) hj (fun b hb hbj => by unfold lenAt; rw [hne i b (Or.inr hbj)]; rfl)
  have r3 : tot (S.set (pN i j) l) + rowL S i = tot S + rowL (S.set (pN i j) l) i := sumTo_turn (n := S.N) hi (fun a ha hai => r1 a hai)
  have l1 : lenAt S i j = (S.bg (pN i j)).length := by unfold lenAt; rw [if_pos hI]
  have l2 : lenAt (S.set (pN i j) l) i j = l.length := by
    have hI' : In (S.set (pN i j) l).N (pN i j) := hI
    unfold lenAt
    rw [hat, if_pos hI']
  rw [l1, l2] at r2
  show tot (S.set (pN i j) l) + (S.bg (pN i j)).length = _
  omega
theorem tot_has {S : NS} {p : Pr} (hp : In S.N p) : (S.bg p).length ≤ tot S := by
  have := tot_set hp []
  simp only [List.length_nil] at this
  omega
theorem tot_dn (S : NS) (d : List Bool) (t : List Tm) (x : Int) : tot { S with dn := d, tm := t, now := x } = tot S := rfl
/-- All pairs of nodes. -/
def allP (N : Nat) : List Pr := (List.range N).flatMap fun a => (List.range N).map fun b => pN a b
theorem countP_range (q : Nat → Bool) : ∀ n, (List.range n).countP q = sumTo (fun b => if q b = true then 1 else 0) n
  | 0 => rfl
  | n + 1 => by
    rw [List.range_succ, List.countP_append, countP_range q n]
    show _ = sumTo (fun b => if q b = true then 1 else 0) n + (if q n = true then 1 else 0)
    by_cases h : q n = true <;> simp [h]
theorem sum_range (f : Nat → Nat) : ∀ n, ((List.range n).map f).sum = sumTo f n
  | 0 => rfl
  | n + 1 => by
    rw [List.range_succ, List.map_append, List.sum_append, sum_range f n]
    simp [sumTo]
theorem mem_allP {N : Nat} {p : Pr} (h : In N p) : p ∈ allP N := by
  obtain ⟨h1, h2, h3, h4, _⟩ := h
  obtain ⟨a, b⟩ := p
  obtain ⟨i, rfl⟩ := Int.eq_ofNat_of_zero_le h1
  obtain ⟨j, rfl⟩ := Int.eq_ofNat_of_zero_le h3
  unfold allP
  rw [List.mem_flatMap]
  exact ⟨i, List.mem_range.2 (by simp only at h2; omega), List.mem_map.2 ⟨j, List.mem_range.2 (by simp only at h4; omega), rfl⟩⟩
theorem nodup_allP (N : Nat) : (allP N).Nodup := by
  unfold allP
  rw [List.Nodup, List.pairwise_flatMap]
  refine ⟨fun a _ => ?_, ?_⟩
  · rw [List.pairwise_map]
    refine (List.nodup_range (n := N)).imp (fun {x y} h e => h ?_)
    have := congrArg Pr.b e
    simp only [pN] at this
    omega
  · refine (List.nodup_range (n := N)).imp (fun {x y} h p hp q hq e => h ?_)
    obtain ⟨b, _, rfl⟩ := List.mem_map.1 hp
    obtain ⟨c, _, rfl⟩ := List.mem_map.1 hq
    have := congrArg Pr.a e
    simp only [pN] at this
    omega
theorem links_count {S : NS} {l : List Pr} (h : LinksOf S l) : l.length = cntL S := by
  have hq : ∀ p, (decide (In S.N p ∧ S.bg p ≠ []) = true) ↔ (In S.N p ∧ S.bg p ≠ []) := fun p => decide_eq_true_iff
  have hp : l.Perm ((allP S.N).filter fun p => decide (In S.N p ∧ S.bg p ≠ [])) := by
    refine (List.perm_ext_iff_of_nodup h.1 ((nodup_allP S.N).filter _)).2 (fun p => ?_)
    rw [List.mem_filter, hq, h.2.1 p]
    exact ⟨fun e => ⟨mem_allP e.1, e⟩, fun e => e.2⟩
  rw [hp.length_eq, ← List.countP_eq_length_filter]
  unfold allP
  rw [List.countP_flatMap]
  have e : (List.countP (fun p => decide (In S.N p ∧ S.bg p ≠ [])) ∘ fun a => (List.range S.N).map fun b => pN a b) = rowH S := by
    funext a
    show List.countP _ ((List.range S.N).map fun b => pN a b) = _
    rw [List.countP_map, countP_range]
    refine sumTo_congr (fun b _ => ?_)
    unfold hasAt lenAt
    by_cases hI : In S.N (pN a b)
    · by_cases hb : S.bg (pN a b) = []
      · simp [hI, hb]
      · have : 0 < (S.bg (pN a b)).length := List.length_pos_iff.2 hb
        simp [hI, hb]
    · simp [hI]
  rw [e, sum_range]
  rfl
end Go.Proofs.Ytfhlfklgngpklaa
