/-
  Items that were read, as they lie in memory; what number answers, and whether there is one.
-/
import Derived.Test.YtchmiiclogmheaaDoorCBackT
import Derived.Test.YtchmiiclogmheaaDoorCItemN
namespace Go.Proofs.YtchmiiclogmheaaDoor.C2
open Go.RowKit
/-- Its members lie in blocks of a set, so many levels down. -/
def InS (S : Nat → Prop) (w : World) : Nat → T → Prop
  | 0, _ => True
  | f + 1, t => (0 ≤ t.n ∧ t.n ≤ 18446744073709551615 ∧ t.s.size ≤ 140737488355328 ∧ t.l.length ≤ 140737488355328) ∧ (0 < t.l.length → ∃ b o, t.a = some ⟨b, o, none⟩ ∧ S b ∧ ∀ j, (h : j < t.l.length) → t.l[j].at w b (o + j * 4)) ∧ ∀ j, (h : j < t.l.length) → InS S w f t.l[j]
set_option maxRecDepth 100000 in
theorem InS.inF {S : Nat → Prop} {w : World} : ∀ {f : Nat} {t : T}, InS S w f t → InF w f t := by
  intro f
  induction f with
  | zero => intro t _; exact trivial
  | succ f ih =>
    intro t h
    exact ⟨h.1, fun h0 => by obtain ⟨b, o, ha, _, hat⟩ := h.2.1 h0; exact ⟨b, o, ha, hat⟩, fun j hj => ih (h.2.2 j hj)⟩
set_option maxRecDepth 100000 in
theorem T.at.same {t : T} {w w' : World} {b o : Nat} (h : t.at w b o) (hb : w'.heap[b]? = w.heap[b]?) : t.at w' b o :=
  ⟨(World.cell?_of_block (w := w) (a := ⟨b, o, none⟩) hb).trans h.1, (World.cell?_of_block (w := w) (a := ⟨b, o + 1, none⟩) hb).trans h.2.1, (World.cell?_of_block (w := w) (a := ⟨b, o + 2, none⟩) hb).trans h.2.2.1, (World.cell?_of_block (w := w) (a := ⟨b, o + 3, none⟩) hb).trans h.2.2.2⟩
theorem InS.same {S S' : Nat → Prop} {w w' : World} (hS : ∀ b, S b → S' b ∧ w'.heap[b]? = w.heap[b]?) : ∀ {f : Nat} {t : T}, InS S w f t → InS S' w' f t := by
  intro f
  induction f with
  | zero => intro t _; exact trivial
  | succ f ih =>
    intro t h
    exact ⟨h.1, fun h0 => by obtain ⟨b, o, ha, hs, hat⟩ := h.2.1 h0; exact ⟨b, o, ha, (hS b hs).1, fun j hj => (hat j hj).same (hS b hs).2⟩, fun j hj => ih (h.2.2 j hj)⟩
/-- What number answers: the number, or that there is none. -/
def NumP (s : ByteArray) (k : Nat) (n a c : Int) (k' : Nat) : Prop :=
  0 ≤ n ∧ n ≤ 18446744073709551615 ∧ k' ≤ s.size ∧ 0 ≤ a ∧ a ≤ s.size ∧
  ((c = 0 ∧ a = 0 ∧ k ≤ k' ∧ s.data.toList.drop k = numD n.toNat ++ s.data.toList.drop k') ∨ (c ≠ 0 ∧ NoNum (s.data.toList.drop k)))
set_option maxRecDepth 100000 in
theorem num_back (s : ByteArray) (hs : s.size ≤ 262144) (rb k : Nat) (hk : k ≤ s.size) (w : World) (hr : RS w rb s k) :
    Calls Tryd.prog 75 #[.pointer (some ⟨rb, 0, none⟩)] w (NumOut s rb (NumP s k) w) := by
  refine (number_any s hs rb k hk w hr).mono ?_
  rintro e w' ⟨hrd, h⟩
  have hlen : s.data.toList.length = s.size := by simp
  rcases h with ⟨HA, rfl, hrs⟩ | ⟨j, hj, hjs, HA, hc, rfl, hrs⟩
  · refine ⟨0, k, 23, s.size, rfl, ⟨by omega, by omega, by omega, by omega, by omega, Or.inr ⟨by omega, noNum_all ?_⟩⟩, hrd, hrs⟩
    intro b hb
    obtain ⟨i, hi, e⟩ := List.getElem_of_mem hb
    rw [List.length_drop, hlen] at hi
    have := HA.out (k + i) (by omega) (by omega)
    rw [← e, List.getElem_drop]
    exact this
  · have hsplit : s.data.toList.drop k = ((s.data.toList.drop k).take (j - k) ++ [s[j]]) ++ s.data.toList.drop (j + 1) := by
      have e1 : s.data.toList.drop k = (s.data.toList.drop k).take (j - k) ++ (s.data.toList.drop k).drop (j - k) := (List.take_append_drop _ _).symm
      rw [List.drop_drop, show k + (j - k) = j by omega, List.drop_eq_getElem_cons (show j < s.data.toList.length by omega)] at e1
      rw [List.append_assoc]
      exact e1
    have hg : ((s.data.toList.drop k).take (j + 1 - k)) = (s.data.toList.drop k).take (j - k) ++ [s[j]] := by
      rw [show j + 1 - k = (j - k) + 1 by omega, List.take_succ_eq_append_getElem (by rw [List.length_drop]; omega), List.getElem_drop]
      congr 2
      show s.data.toList[k + (j - k)] = s.data[j]
      simp only [show k + (j - k) = j by omega]
      rfl
    have hall : ∀ b ∈ (s.data.toList.drop k).take (j - k), 128 ≤ b.toNat := by
      intro b hb
      obtain ⟨i, hi, e⟩ := List.getElem_of_mem hb
      rw [List.length_take, List.length_drop, hlen] at hi
      have := HA.out (k + i) (by omega) (by omega) (by omega)
      rw [← e, List.getElem_take, List.getElem_drop]
      exact this
    unfold numV
    rw [hg]
    by_cases hE : numD (orV ((s.data.toList.drop k).take (j - k) ++ [s[j]]) ((s.data.toList.drop k).take (j - k) ++ [s[j]]).length) = (s.data.toList.drop k).take (j - k) ++ [s[j]]
    · rw [if_pos hE]
      have hlt := orV_lt ((s.data.toList.drop k).take (j - k) ++ [s[j]]) ((s.data.toList.drop k).take (j - k) ++ [s[j]]).length
      refine ⟨_, 0, 0, j + 1, rfl, ⟨by omega, by omega, by omega, by omega, by omega, Or.inl ⟨rfl, rfl, by omega, ?_⟩⟩, hrd, hrs⟩
      rw [Int.toNat_natCast, hE]
      exact hsplit
    · rw [if_neg hE]
      exact ⟨0, k, 22, j + 1, rfl, ⟨by omega, by omega, by omega, by omega, by omega, Or.inr ⟨by omega, noNum_bad hsplit hall hc hE⟩⟩, hrd, hrs⟩
/-- What item answers. -/
def ItOut (s : ByteArray) (rb f k : Nat) (w : World) (e : Ending) (w' : World) : Prop :=
  ∃ (t : T) (a c : Int) (k' : Nat), e = .returned (.tuple #[t.val, .agg #[.int .i64 a, .int .i64 c]]) ∧ Rd rb w w' ∧ RS w' rb s k' ∧ k' ≤ s.size ∧ 0 ≤ a ∧ a ≤ s.size ∧
    ((c = 0 ∧ a = 0 ∧ k ≤ k' ∧ InS (fun b => w.heap.size ≤ b ∧ b < w'.heap.size) w' f t ∧ Okk f t ∧ s.data.toList.drop k = encF f t ++ s.data.toList.drop k') ∨ (c ≠ 0 ∧ NoItem f (s.data.toList.drop k)))
/-- There are no members at these bytes. -/
def NoList (f : Nat) (l : List UInt8) : Prop := ∀ n (u : Nat → T) r, n ≤ 16384 → (∀ j, j < n → Okk f (u j)) → l = (numD n ++ catE (fun j => encF f (u j)) n) ++ r → False
/-- What list answers. -/
def LsOut (s : ByteArray) (rb f k : Nat) (w : World) (e : Ending) (w' : World) : Prop :=
  ∃ (p : Option Addr) (cap : Nat) (l : List T) (a c : Int) (k' : Nat), e = .returned (.tuple #[.slice p l.length cap, .agg #[.int .i64 a, .int .i64 c]]) ∧ Rd rb w w' ∧ RS w' rb s k' ∧ k' ≤ s.size ∧ 0 ≤ a ∧ a ≤ s.size ∧
    ((c = 0 ∧ a = 0 ∧ k ≤ k' ∧ l.length ≤ 16384 ∧ (0 < l.length → ∃ b, p = some ⟨b, 0, none⟩ ∧ (w.heap.size ≤ b ∧ b < w'.heap.size) ∧ ∀ j, (h : j < l.length) → l[j].at w' b (j * 4))
      ∧ (∀ j, (h : j < l.length) → InS (fun b => w.heap.size ≤ b ∧ b < w'.heap.size) w' f l[j] ∧ Okk f l[j]) ∧ s.data.toList.drop k = (numD l.length ++ catE (fun j => encF f (l.getD j T.zero)) l.length) ++ s.data.toList.drop k')
    ∨ (c ≠ 0 ∧ NoList f (s.data.toList.drop k)))
end Go.Proofs.YtchmiiclogmheaaDoor.C2
