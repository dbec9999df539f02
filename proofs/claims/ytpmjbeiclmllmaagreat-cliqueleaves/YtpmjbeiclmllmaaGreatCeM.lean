/-
  Cells: boundary vertices, arcs inside, between, outside; the cells that arcs touch.
-/
import Derived.Test.YtpmjbeiclmllmaaGreatNsM
namespace Go.Proofs.YtpmjbeiclmllmaaGreat
open Go.RowKit
/-- The label of a vertex. -/
def lb (L : List Int) (v : Int) : Int := L.getD v.toNat 0
/-- The ends of an arc have unlike labels. -/
def prt (L : List Int) (x : A) : Bool := decide (lb L x.f ≠ lb L x.t)
/-- Both ends of an arc have a label. -/
def hld (L : List Int) (q : Int) (x : A) : Bool := decide (lb L x.f = q ∧ lb L x.t = q)
/-- Numbers below a bound that are wanted. -/
def cho (p : Nat → Bool) (k : Nat) : List Nat := (List.range k).filter p
theorem cho_t {p : Nat → Bool} {k : Nat} (h : p k = true) : cho p (k + 1) = cho p k ++ [k] := by
  simp [cho, List.range_succ, List.filter_append, h]
theorem cho_f {p : Nat → Bool} {k : Nat} (h : p k = false) : cho p (k + 1) = cho p k := by
  simp [cho, List.range_succ, List.filter_append, h]
theorem cho_len (p : Nat → Bool) (k : Nat) : (cho p k).length ≤ k := by
  have := List.length_filter_le p (List.range k)
  simpa [cho] using this
theorem cho_mem {p : Nat → Bool} {k v : Nat} : v ∈ cho p k ↔ v < k ∧ p v = true := by simp [cho]
theorem cho_congr {p q : Nat → Bool} {k : Nat} (h : ∀ v, v < k → p v = q v) : cho p k = cho q k := by
  unfold cho
  exact List.filter_congr (fun v hv => h v (by simpa using hv))
/-- A vertex is an end of an arc between labels: among the first arcs. -/
def crs (L : List Int) (l : List A) (k v : Nat) : Bool := (l.take k).any (fun x => prt L x && (decide (x.f.toNat = v) || decide (x.t.toNat = v)))
theorem take_snocA {l : List A} {k : Nat} (h : k < l.length) : l.take (k + 1) = l.take k ++ [l.getD k A.zero] := by
  rw [List.take_add_one]
  simp [List.getD, List.getElem?_eq_getElem h]
theorem crs_zero (L : List Int) (l : List A) (v : Nat) : crs L l 0 v = false := by simp [crs]
theorem crs_f {L : List Int} {l : List A} {k : Nat} (hk : k < l.length) (h : prt L (l.getD k A.zero) = false) (v : Nat) : crs L l (k + 1) v = crs L l k v := by
  unfold crs
  rw [take_snocA hk, List.any_append]
  simp only [List.any_cons, List.any_nil, Bool.or_false, h, Bool.false_and]
theorem crs_t {L : List Int} {l : List A} {k : Nat} (hk : k < l.length) (h : prt L (l.getD k A.zero) = true) (v : Nat) : crs L l (k + 1) v = if v = (l.getD k A.zero).t.toNat then true else if v = (l.getD k A.zero).f.toNat then true else crs L l k v := by
  unfold crs
  rw [take_snocA hk, List.any_append]
  by_cases h1 : v = (l.getD k A.zero).t.toNat
  · rw [if_pos h1]; simp only [List.any_cons, List.any_nil, Bool.or_false, h, Bool.true_and]; rw [h1]; simp
  · rw [if_neg h1]
    by_cases h2 : v = (l.getD k A.zero).f.toNat
    · rw [if_pos h2]; simp only [List.any_cons, List.any_nil, Bool.or_false, h, Bool.true_and]; rw [h2]; simp
    · rw [if_neg h2]
      have e1 : decide ((l.getD k A.zero).t.toNat = v) = false := decide_eq_false (fun e => h1 e.symm)
      have e2 : decide ((l.getD k A.zero).f.toNat = v) = false := decide_eq_false (fun e => h2 e.symm)
      simp only [List.any_cons, List.any_nil, Bool.or_false, h, Bool.true_and, e1, e2]
/-- A boundary vertex of a cell. -/
def bdP (L : List Int) (l : List A) (q : Int) (v : Nat) : Bool := decide (L.getD v 0 = q) && crs L l l.length v
def bdL (n : Nat) (L : List Int) (l : List A) (q : Int) : List Nat := cho (bdP L l q) n
def arP (l : List A) (p : A → Bool) (i : Nat) : Bool := p (l.getD i A.zero)
/-- The arcs that are wanted. -/
def arL (l : List A) (p : A → Bool) : List Nat := cho (arP l p) l.length
def btP (L M : List Int) (q : Int) (x : A) : Bool := hld L q x && prt M x
/-- A label is touched by some of the first arcs that are given. -/
def tcP (L : List Int) (l : List A) (ids : List Int) (k c : Nat) : Bool := (ids.take k).any (fun i => !prt L (l.getD i.toNat A.zero) && decide ((lb L (l.getD i.toNat A.zero).f).toNat = c))
theorem tcP_f {L : List Int} {l : List A} {ids : List Int} {k : Nat} (hk : k < ids.length) (h : prt L (l.getD (ids.getD k 0).toNat A.zero) = true) (c : Nat) : tcP L l ids (k + 1) c = tcP L l ids k c := by
  unfold tcP
  rw [take_snocI hk, List.any_append]
  simp only [List.any_cons, List.any_nil, Bool.or_false, h, Bool.not_true, Bool.false_and]
theorem tcP_t {L : List Int} {l : List A} {ids : List Int} {k : Nat} (hk : k < ids.length) (h : prt L (l.getD (ids.getD k 0).toNat A.zero) = false) (c : Nat) : tcP L l ids (k + 1) c = if c = (lb L (l.getD (ids.getD k 0).toNat A.zero).f).toNat then true else tcP L l ids k c := by
  unfold tcP
  rw [take_snocI hk, List.any_append]
  simp only [List.any_cons, List.any_nil, Bool.or_false, h, Bool.not_false, Bool.true_and]
  by_cases h1 : c = (lb L (l.getD (ids.getD k 0).toNat A.zero).f).toNat
  · rw [if_pos h1, h1]; simp
  · rw [if_neg h1, decide_eq_false (fun e => h1 e.symm)]; simp
def tcL (n : Nat) (L : List Int) (l : List A) (ids : List Int) : List Nat := cho (tcP L l ids ids.length) n
end Go.Proofs.YtpmjbeiclmllmaaGreat
