/-
  Contract of the reference's Size: how many bytes an item has, counted as far as there may be bytes.
-/
import Derived.Test.YtgcnpmjpdhgikaaDoorRefCheck
import Derived.Deep.RegionWith
namespace Go.Proofs.YtgcnpmjpdhgikaaDoor
open Go.RowKit
/-- Members' sizes added, as long as there may be bytes. -/
def loopS (Z : Nat → Nat) : Nat → Nat → Nat
  | 0, x => x
  | j + 1, x => if 262144 < loopS Z j x then loopS Z j x else loopS Z j x + Z j
theorem loopS_succ (Z : Nat → Nat) (j x : Nat) : loopS Z (j + 1) x = if 262144 < loopS Z j x then loopS Z j x else loopS Z j x + Z j := rfl
theorem loopS_stop (Z : Nat → Nat) (x : Nat) {j m : Nat} (h : 262144 < loopS Z j x) (hm : j ≤ m) : loopS Z m x = loopS Z j x := by
  induction m with
  | zero => have : j = 0 := by omega
            subst this; rfl
  | succ m ih =>
    by_cases e : j = m + 1
    · subst e; rfl
    · have e1 := ih (by omega)
      rw [loopS_succ, e1, if_pos h]
theorem loopS_le {Z : Nat → Nat} {m B : Nat} (hZ : ∀ j, j < m → Z j ≤ B) {x : Nat} (hx : x ≤ B + 262144) : loopS Z m x ≤ B + 262144 := by
  induction m with
  | zero => exact hx
  | succ m ih =>
    rw [loopS_succ]
    split
    · exact ih (fun j hj => hZ j (by omega))
    · have := hZ m (by omega); omega
/-- An item's size. -/
def sizeF : Nat → T → Nat
  | 0, _ => 0
  | f + 1, t => if t.k = 1 then 1 + (numD t.n.toNat).length else if t.k = 2 then 1 + ((numD t.s.size).length + t.s.size) else loopS (fun j => sizeF f (t.m j)) t.l.length (1 + (numD t.l.length).length)
set_option maxHeartbeats 1000000 in
theorem size_num (n : Nat) (hn : n < 18446744073709551616) (s : ByteArray) (a : Option Addr) (cap : Nat) (w : World) :
    Calls Tryd.prog 29 #[.agg #[.int .i64 1, .int .u64 n, .string s, .slice a 0 cap]] w fun e w' => e = .returned (.int .i64 ((1 + (numD n).length : Nat) : Int)) ∧ Below w.heap.size w w' := by
  have hl := (numD_len n).2
  go_enter Tryd.func29, Tryd.ntmps29
  go_wp2_with fail
  refine (rnum (w.heap.size + 1) (.slice none 0 0) [] n hn _ (OwnB.nil _ _) (by simp) (by simp)).mono ?_
  rintro e w1 ⟨v1, rfl, hown1, hfr1⟩
  obtain ⟨p, c, rfl⟩ := hown1.shape
  rw [List.nil_append]
  clear hown1
  obtain ⟨q0, q1, q2, q3⟩ := bcell4 hfr1.below (by omega)
  have hb := hfr1.below
  have hbw : Below w.heap.size w w1 := ((Below.refl _ _).alloc (Nat.le_refl _) _).trans (hb.mono (by omega))
  clear hfr1 hb
  go_wp2_with fail
  refine wp_loop_rounds 1 ?_
  rw [rounds_succ]
  go_wp2_with fail
  go_ret
  exact ⟨ret_int (by omega), hbw⟩
theorem box_drew {B : Nat} {w w1 : World} {a b c d : Value} (h : Fr B (w.alloc (.cells #[a, b, c, d] 25)).drew w1) (hB : w.heap.size + 1 ≤ B) : (w1.cell? ⟨w.heap.size, 0, none⟩ = some a ∧ w1.cell? ⟨w.heap.size, 1, none⟩ = some b ∧ w1.cell? ⟨w.heap.size, 2, none⟩ = some c ∧ w1.cell? ⟨w.heap.size, 3, none⟩ = some d) ∧ Below w.heap.size w w1 := by
  have h1 : Below (w.heap.size + 1) (w.alloc (.cells #[a, b, c, d] 25)) w1 := ((Below.refl _ _).drew).trans (h.below.mono hB)
  exact ⟨bcell4 h1 (by omega), ((Below.refl _ _).alloc (Nat.le_refl _) _).trans (h1.mono (by omega))⟩
end Go.Proofs.YtgcnpmjpdhgikaaDoor
