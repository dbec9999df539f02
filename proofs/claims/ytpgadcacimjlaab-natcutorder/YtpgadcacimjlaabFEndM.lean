/-
  Where the last search ended: the flow is a greatest one, and what was reached is a least cut.
-/
import Derived.Test.YtpgadcacimjlaabFSrMath
namespace Go.Proofs.Ytpgadcacimjlaab.F6
open Go.RowKit
/-- The nodes that were reached. -/
def side (rk : Nat → Int) (v : Nat) : Bool := rk v != -1
theorem side_true {rk : Nat → Int} {v : Nat} : side rk v = true ↔ rk v ≠ -1 := by simp [side]
theorem side_false {rk : Nat → Int} {v : Nat} : side rk v = false ↔ rk v = -1 := by simp [side]
theorem Rk.stop {n m : Nat} {E : List Ed} {fl : Nat → Int} {s t : Nat} {rk : Nat → Int} (h : Rk n m E fl 1 s t rk) (hf : Flow n E s t fl) (hm : E.length = m) (ht : rk t = -1) : Ended n E s t fl (side rk) := by
  have key : ∀ k, k < 2 * m → side rk (frm E k) = true → side rk (tto E k) = false → rm E fl k < 1 := fun k hk h1 h2 => by
    by_cases e : 1 ≤ rm E fl k
    · exact absurd (side_false.1 h2) (h.closed ht k hk (side_true.1 h1) e)
    · omega
  refine ⟨hf, side_true.2 (by rw [h.s0]; decide), side_false.2 ht, fun j hj => ⟨fun h1 h2 => ?_, fun h1 h2 => ?_⟩⟩
  · have e1 : frm E (2 * j) = (ed E j).f := by unfold frm; rw [if_pos (by omega), show 2 * j / 2 = j by omega]
    have e2 : tto E (2 * j) = (ed E j).t := by unfold tto; rw [if_pos (by omega), show 2 * j / 2 = j by omega]
    have e3 : rm E fl (2 * j) = (ed E j).c - fl j := by unfold rm; rw [if_pos (by omega), show 2 * j / 2 = j by omega]
    have := key (2 * j) (by omega) (by rw [e1]; exact h1) (by rw [e2]; exact h2)
    have := hf.hi j hj
    omega
  · have e1 : frm E (2 * j + 1) = (ed E j).t := by unfold frm; rw [if_neg (by omega), show (2 * j + 1) / 2 = j by omega]
    have e2 : tto E (2 * j + 1) = (ed E j).f := by unfold tto; rw [if_neg (by omega), show (2 * j + 1) / 2 = j by omega]
    have e3 : rm E fl (2 * j + 1) = fl j := by unfold rm; rw [if_neg (by omega), show (2 * j + 1) / 2 = j by omega]
    have := key (2 * j + 1) (by omega) (by rw [e1]; exact h2) (by rw [e2]; exact h1)
    have := hf.lo j hj
    omega
/-- What was reached lies in every set that the flow fills: it is the least of the least cuts. -/
theorem Rk.inside {n m : Nat} {E : List Ed} {fl : Nat → Int} {s t : Nat} {rk : Nat → Int} (h : Rk n m E fl 1 s t rk) (hm : E.length = m) (hE : ∀ k, k < 2 * m → frm E k < n ∧ tto E k < n) {R : Nat → Bool} (rs : R s = true) (hF : Full E fl R E.length) : ∀ (d v : Nat), v < n → rk v ≠ -1 → rk v ≤ d → R v = true := by
  have key : ∀ k, k < 2 * m → 1 ≤ rm E fl k → R (frm E k) = true → R (tto E k) = true := fun k hk hr h1 => by
    cases h2 : R (tto E k) with
    | true => rfl
    | false =>
      have hj := hF (k / 2) (by omega)
      unfold frm at h1
      unfold tto at h2
      unfold rm at hr
      by_cases e : k % 2 = 0
      · rw [if_pos e] at h1 h2 hr
        have := hj.1 h1 h2
        omega
      · rw [if_neg e] at h1 h2 hr
        have := hj.2 h2 h1
        omega
  intro d
  induction d with
  | zero =>
    intro v hv hr hd
    rcases h.par v hv hr with rfl | ⟨k, _, _, _, h4, h5⟩
    · exact rs
    · omega
  | succ d ih =>
    intro v hv hr hd
    rcases h.par v hv hr with rfl | ⟨k, h1, h2, h3, h4, h5⟩
    · exact rs
    · have := key k h1 h3 (ih (frm E k) (hE k h1).1 (by omega) (by omega))
      rw [h2] at this
      exact this
/-- Two runs reach the same nodes. -/
theorem Rk.both {n m : Nat} {E : List Ed} {f1 f2 : Nat → Int} {s t : Nat} {r1 r2 : Nat → Int} (g : RN n E) (hs : s < n) (hm : E.length = m) (hE : ∀ k, k < 2 * m → frm E k < n ∧ tto E k < n)
    (h1 : Rk n m E f1 1 s t r1) (h2 : Rk n m E f2 1 s t r2) (hf1 : Flow n E s t f1) (hf2 : Flow n E s t f2) (t1 : r1 t = -1) (t2 : r2 t = -1) : ∀ v, v < n → side r1 v = side r2 v := by
  have e1 := h1.stop hf1 hm t1
  have e2 := h2.stop hf2 hm t2
  have w1 : ∀ v, v < n → side r1 v = true → side r2 v = true := fun v hv h => h1.inside hm hE e2.rs (e1.same e2 g hs).2 (r1 v).toNat v hv (side_true.1 h) (by omega)
  have w2 : ∀ v, v < n → side r2 v = true → side r1 v = true := fun v hv h => h2.inside hm hE e1.rs (e2.same e1 g hs).2 (r2 v).toNat v hv (side_true.1 h) (by omega)
  intro v hv
  cases a : side r1 v with
  | true => exact (w1 v hv a).symm
  | false =>
    cases b : side r2 v with
    | true => rw [w2 v hv b] at a; cases a
    | false => rfl
end Go.Proofs.Ytpgadcacimjlaab.F6
