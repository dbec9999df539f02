/-
  Items as they lie in memory; what may be wrong with one; contract of code.keepsToKind.
-/
import Derived.Test.YtgcnpmjpdhgikabDoorNumber
namespace Go.Proofs.YtgcnpmjpdhgikabDoor
open Go.RowKit
/-- An item, with where its list lies. -/
inductive T where
  | mk (k n : Int) (s : ByteArray) (a : Option Addr) (cap : Nat) (l : List T)
def T.k : T → Int | .mk k _ _ _ _ _ => k
def T.n : T → Int | .mk _ n _ _ _ _ => n
def T.s : T → ByteArray | .mk _ _ s _ _ _ => s
def T.a : T → Option Addr | .mk _ _ _ a _ _ => a
def T.cap : T → Nat | .mk _ _ _ _ c _ => c
def T.l : T → List T | .mk _ _ _ _ _ l => l
/-- The item's value. -/
def T.val (t : T) : Value := .agg #[.int .i64 t.k, .int .u64 t.n, .string t.s, .slice t.a t.l.length t.cap]
/-- Its four cells lie at an address. -/
def T.at (t : T) (w : World) (b o : Nat) : Prop :=
  w.cell? ⟨b, o, none⟩ = some (.int .i64 t.k) ∧ w.cell? ⟨b, o + 1, none⟩ = some (.int .u64 t.n) ∧ w.cell? ⟨b, o + 2, none⟩ = some (.string t.s) ∧ w.cell? ⟨b, o + 3, none⟩ = some (.slice t.a t.l.length t.cap)
/-- Its members lie in memory, so many levels down. -/
def InF (w : World) : Nat → T → Prop
  | 0, _ => True
  | f + 1, t => (0 ≤ t.n ∧ t.n ≤ 18446744073709551615 ∧ t.s.size ≤ 140737488355328 ∧ t.l.length ≤ 140737488355328) ∧ (0 < t.l.length → ∃ b o, t.a = some ⟨b, o, none⟩ ∧ ∀ j, (h : j < t.l.length) → t.l[j].at w b (o + j * 4)) ∧ ∀ j, (h : j < t.l.length) → InF w f t.l[j]
theorem T.at.on {t : T} {w w' : World} {b o : Nat} (h : t.at w b o) (hb : Below w.heap.size w w') : t.at w' b o := by
  have hl := World.block_lt_of_cell? w _ h.1
  exact ⟨(hb.cell hl).trans h.1, (hb.cell (p := ⟨b, o + 1, none⟩) hl).trans h.2.1, (hb.cell (p := ⟨b, o + 2, none⟩) hl).trans h.2.2.1, (hb.cell (p := ⟨b, o + 3, none⟩) hl).trans h.2.2.2⟩
theorem InF.on {w w' : World} (hb : Below w.heap.size w w') : ∀ {f : Nat} {t : T}, InF w f t → InF w' f t := by
  intro f
  induction f with
  | zero => intro t _; exact trivial
  | succ f ih =>
    intro t h
    refine ⟨h.1, fun h0 => ?_, fun j hj => ih (h.2.2 j hj)⟩
    obtain ⟨b, o, ha, hat⟩ := h.2.1 h0
    exact ⟨b, o, ha, fun j hj => (hat j hj).on hb⟩
/-- The item has what its kind has, and nothing else. -/
def keepsB (k n : Int) (s : ByteArray) (m : Nat) : Bool :=
  if k = 1 then s.toList.isEmpty && decide (m = 0)
  else if k = 2 then decide (n = 0) && decide (m = 0)
  else if k = 3 then decide (n = 0) && s.toList.isEmpty
  else false
def T.keeps (t : T) : Bool := keepsB t.k t.n t.s t.l.length
theorem len_zero (m : Nat) : ((m : Int) == 0) = decide (m = 0) := by rw [Bool.eq_iff_iff]; simp
theorem ret_bool {a b : Bool} (h : a = b) : Ending.returned (.bool a) = .returned (.bool b) := by rw [h]
set_option maxHeartbeats 400000 in
theorem keeps_at (k n : Int) (s : ByteArray) (a : Option Addr) (m cap : Nat) (w : World) :
    Calls Tryd.prog 13 #[.agg #[.int .i64 k, .int .u64 n, .string s, .slice a m cap]] w fun e w' => e = .returned (.bool (keepsB k n s m)) ∧ Below w.heap.size w w' := by
  unfold keepsB
  by_cases h1 : k = 1
  · subst h1
    rw [if_pos rfl]
    by_cases h2 : s.toList = []
    · have h2' : s.toList.isEmpty = true := by rw [h2]; rfl
      rw [h2']
      go_enter Tryd.func13, Tryd.ntmps13
      go_wp2_with fail
      go_ret
      exact ⟨ret_bool (len_zero m), (Below.refl _ _).alloc (Nat.le_refl _) _⟩
    · have h2' : s.toList.isEmpty = false := by simp [h2]
      rw [h2']
      go_enter Tryd.func13, Tryd.ntmps13
      go_wp2_with fail
      go_ret
      exact ⟨rfl, (Below.refl _ _).alloc (Nat.le_refl _) _⟩
  · rw [if_neg h1]
    have h1' : (k == 1) = false := beq_eq_false_iff_ne.2 h1
    by_cases h2 : k = 2
    · subst h2
      rw [if_pos rfl]
      by_cases h0 : n = 0
      · rw [decide_eq_true h0]
        go_enter Tryd.func13, Tryd.ntmps13
        go_wp2_with fail
        go_ret
        exact ⟨ret_bool (len_zero m), (Below.refl _ _).alloc (Nat.le_refl _) _⟩
      · rw [decide_eq_false h0]
        go_enter Tryd.func13, Tryd.ntmps13
        go_wp2_with fail
        go_ret
        exact ⟨rfl, (Below.refl _ _).alloc (Nat.le_refl _) _⟩
    · rw [if_neg h2]
      have h2' : (k == 2) = false := beq_eq_false_iff_ne.2 h2
      by_cases h3 : k = 3
      · subst h3
        rw [if_pos rfl]
        by_cases h0 : n = 0
        · rw [decide_eq_true h0]
          go_enter Tryd.func13, Tryd.ntmps13
          go_wp2_with fail
          go_ret
          exact ⟨rfl, (Below.refl _ _).alloc (Nat.le_refl _) _⟩
        · rw [decide_eq_false h0]
          go_enter Tryd.func13, Tryd.ntmps13
          go_wp2_with fail
          go_ret
          exact ⟨rfl, (Below.refl _ _).alloc (Nat.le_refl _) _⟩
      · rw [if_neg h3]
        have h3' : (k == 3) = false := beq_eq_false_iff_ne.2 h3
        go_enter Tryd.func13, Tryd.ntmps13
        go_wp2_with fail
        go_ret
        exact ⟨rfl, (Below.refl _ _).alloc (Nat.le_refl _) _⟩
theorem keeps_any (t : T) (w : World) : Calls Tryd.prog 13 #[t.val] w fun e w' => e = .returned (.bool t.keeps) ∧ Below w.heap.size w w' := keeps_at _ _ _ _ _ _ w
/-- An item of no kind. -/
def T.zero : T := .mk 0 0 ⟨#[]⟩ none 0 []
/-- The member at a place. -/
def T.m (t : T) (j : Nat) : T := t.l.getD j T.zero
theorem T.m_eq (t : T) (j : Nat) (h : j < t.l.length) : t.l[j] = t.m j := by
  unfold T.m
  simp [List.getD, List.getElem?_eq_getElem h]
end Go.Proofs.YtgcnpmjpdhgikabDoor
