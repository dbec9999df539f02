/-
  More flows along a way: mathematics.
-/
import Derived.Test.YtpgadcacimjlaabFFMath
namespace Go.Proofs.Ytpgadcacimjlaab.F6
/-- A step is one direction of an edge: where it begins and ends, and how much more may flow. -/
def frm (E : List Ed) (k : Nat) : Nat := if k % 2 = 0 then (ed E (k / 2)).f else (ed E (k / 2)).t
def tto (E : List Ed) (k : Nat) : Nat := if k % 2 = 0 then (ed E (k / 2)).t else (ed E (k / 2)).f
def rm (E : List Ed) (fl : Nat → Int) (k : Nat) : Int := if k % 2 = 0 then (ed E (k / 2)).c - fl (k / 2) else fl (k / 2)
/-- So much more along one step. -/
def push1 (fl : Nat → Int) (k : Nat) (x : Int) : Nat → Int := fun j => if j = k / 2 then (if k % 2 = 0 then fl j + x else fl j - x) else fl j
theorem net_ne (E : List Ed) (fl : Nat → Int) (k : Nat) (x : Int) (v : Nat) : ∀ m, m ≤ k / 2 → net E (push1 fl k x) v m = net E fl v m := by
  intro m
  induction m with
  | zero => intro _; rfl
  | succ m ih =>
    intro h
    have e : push1 fl k x m = fl m := by unfold push1; rw [if_neg (by omega)]
    simp only [net]
    rw [ih (by omega), e]
theorem net_push1 (E : List Ed) (fl : Nat → Int) (k : Nat) (x : Int) (v : Nat) : ∀ m, k / 2 < m → net E (push1 fl k x) v m = net E fl v m + (if frm E k = v then x else 0) - (if tto E k = v then x else 0) := by
  intro m
  induction m with
  | zero => intro h; omega
  | succ m ih =>
    intro h
    simp only [net]
    by_cases e : m = k / 2
    · rw [net_ne E fl k x v m (by omega)]
      subst e
      unfold push1 frm tto
      by_cases hk : k % 2 = 0
      · simp only [hk, if_true]
        split <;> split <;> omega
      · simp only [hk, if_false]
        simp only [if_true]
        split <;> split <;> omega
    · have e2 : push1 fl k x m = fl m := by unfold push1; rw [if_neg e]
      rw [ih (by omega), e2]
      omega
/-- So much more along a way; its last step first. -/
def pushAll (fl : Nat → Int) (x : Int) : List Nat → Nat → Int
  | [] => fl
  | k :: p => push1 (pushAll fl x p) k x
/-- Steps that follow one another from s to v. -/
inductive Chn (E : List Ed) (s : Nat) : List Nat → Nat → Prop
  | nil : Chn E s [] s
  | snoc {p : List Nat} {k : Nat} : Chn E s p (frm E k) → Chn E s (p ++ [k]) (tto E k)
/-- The rest of a way. -/
inductive Tail (E : List Ed) : Nat → List Nat → Nat → Prop
  | nil {v : Nat} : Tail E v [] v
  | cons {k : Nat} {p : List Nat} {v : Nat} : Tail E (tto E k) p v → Tail E (frm E k) (k :: p) v
theorem Tail.snoc {E : List Ed} {u k : Nat} {p : List Nat} : Tail E u p (frm E k) → Tail E u (p ++ [k]) (tto E k) := by
  intro h
  generalize hv : frm E k = v at h
  induction h with
  | nil => rw [← hv]; exact Tail.cons Tail.nil
  | cons _ ih => exact Tail.cons (ih hv)
theorem Chn.tail {E : List Ed} {s v : Nat} {p : List Nat} (h : Chn E s p v) : Tail E s p v := by
  induction h with
  | nil => exact Tail.nil
  | snoc _ ih => exact ih.snoc
theorem net_tail {E : List Ed} {fl : Nat → Int} {x : Int} {u v : Nat} {p : List Nat} (h : Tail E u p v) (m y : Nat) (hm : ∀ k ∈ p, k / 2 < m) : net E (pushAll fl x p) y m = net E fl y m + (if u = y then x else 0) - (if v = y then x else 0) := by
  induction h with
  | nil => simp only [pushAll]; omega
  | @cons k p v _ ih =>
    simp only [pushAll]
    rw [net_push1 _ _ _ _ _ m (hm k (by simp)), ih (fun j hj => hm j (by simp [hj]))]
    omega
/-- No edge stands twice in a way. -/
def Once : List Nat → Prop
  | [] => True
  | k :: p => (∀ j ∈ p, j / 2 ≠ k / 2) ∧ Once p
theorem pushAll_other {fl : Nat → Int} {x : Int} {j : Nat} : ∀ {p : List Nat}, (∀ k ∈ p, k / 2 ≠ j) → pushAll fl x p j = fl j := by
  intro p
  induction p with
  | nil => intro _; rfl
  | cons k p ih =>
    intro h
    have h1 := h k (by simp)
    simp only [pushAll, push1]
    rw [if_neg (fun e => h1 e.symm)]
    exact ih (fun i hi => h i (by simp [hi]))
/-- What stays within its bounds. -/
theorem pushAll_rng {E : List Ed} {fl : Nat → Int} {x : Int} (hx : 0 ≤ x) {j : Nat} (h0 : 0 ≤ fl j ∧ fl j ≤ (ed E j).c) : ∀ {p : List Nat}, Once p → (∀ k ∈ p, x ≤ rm E fl k) → 0 ≤ pushAll fl x p j ∧ pushAll fl x p j ≤ (ed E j).c := by
  intro p
  induction p with
  | nil => intro _ _; exact h0
  | cons k p ih =>
    intro ho hr
    by_cases e : j = k / 2
    · have h1 : pushAll fl x p j = fl j := pushAll_other (fun i hi => by rw [e]; exact ho.1 i hi)
      have h2 := hr k (by simp)
      simp only [pushAll, push1]
      rw [if_pos e, h1]
      subst e
      unfold rm at h2
      by_cases hk : k % 2 = 0
      · rw [if_pos hk] at h2 ⊢; omega
      · rw [if_neg hk] at h2 ⊢; omega
    · simp only [pushAll, push1]
      rw [if_neg e]
      exact ih ho.2 (fun i hi => hr i (by simp [hi]))
/-- The flow along a way from s to t is one again, and so much greater. -/
theorem Flow.push {n : Nat} {E : List Ed} {s t : Nat} {fl : Nat → Int} (h : Flow n E s t fl) {x : Int} (hx : 0 ≤ x) {p : List Nat} (hp : Chn E s p t) (hst : s ≠ t) (ho : Once p) (hm : ∀ k ∈ p, k / 2 < E.length) (hr : ∀ k ∈ p, x ≤ rm E fl k) :
    Flow n E s t (pushAll fl x p) ∧ net E (pushAll fl x p) s E.length = net E fl s E.length + x := by
  refine ⟨⟨fun j hj => (pushAll_rng hx ⟨h.lo j hj, h.hi j hj⟩ ho hr).1, fun j hj => (pushAll_rng hx ⟨h.lo j hj, h.hi j hj⟩ ho hr).2, fun v hv h1 h2 => ?_⟩, ?_⟩
  · rw [net_tail hp.tail E.length v hm, h.mid v hv h1 h2, if_neg (fun e => h1 e.symm), if_neg (fun e => h2 e.symm)]; omega
  · rw [net_tail hp.tail E.length s hm, if_pos rfl, if_neg (fun e => hst e.symm)]; omega
end Go.Proofs.Ytpgadcacimjlaab.F6
