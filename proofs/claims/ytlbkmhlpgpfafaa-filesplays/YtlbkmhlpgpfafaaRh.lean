/-
  The reference's disk: contract of Crash, ahead of the walk.
-/
import Derived.Test.YtlbkmhlpgpfafaaRg
namespace Go.Proofs.Ytlbkmhlpgpfafaa
open Go.RowKit Go.Maps Go.Joins
/-- The list of draws, in a block that is not the disk's. -/
def IntD (w : World) (D : Nat → Prop) (a : Option Addr) (xs : List Int) : Prop :=
  0 < xs.length → ∃ b o, a = some ⟨b, o, none⟩ ∧ b < w.heap.size ∧ ¬ D b ∧ ∀ i (hi : i < xs.length), w.cell? ⟨b, o + i, none⟩ = some (.int .i64 xs[i])
theorem hd_in {xs : List Int} {c : Nat} (h : c < xs.length) : (xs.drop c).headD 0 = xs[c] := by
  rw [List.drop_eq_getElem_cons h]
  rfl
theorem hd_out {xs : List Int} {c : Nat} (h : xs.length ≤ c) : (xs.drop c).headD 0 = 0 := by
  rw [List.drop_of_length_le h]
  rfl
theorem sB_take (l : List UInt8) (k : Nat) : sB (l.take k) = (sB l).extract 0 k := by
  apply ByteArray.ext
  simp [sB]
/-- How far a crash is through. -/
def CrQ (P : List PF) (xs : List Int) (j c : Nat) (Q : List PF) : Prop := crL P xs = Q ++ crL (P.drop j) (xs.drop c) ∧ Q.length ≤ j ∧ c ≤ j
theorem CrQ.safe {P : List PF} {xs : List Int} {j c : Nat} {Q : List PF} {F : PF} (h : CrQ P xs j c Q) (hj : j < P.length) (hF : P[j] = F) (hs : isSafe F = true) : CrQ P xs (j + 1) c (Q ++ [F]) := by
  subst hF
  refine ⟨?_, by have := h.2.1; simp; omega, by have := h.2.2; omega⟩
  rw [h.1, List.drop_eq_getElem_cons hj, crL, if_pos hs, List.append_assoc]
  rfl
theorem CrQ.gone {P : List PF} {xs : List Int} {j c : Nat} {Q : List PF} {F : PF} {x : Int} (h : CrQ P xs j c Q) (hj : j < P.length) (hF : P[j] = F) (hs : isSafe F = false) (hx : (xs.drop c).headD 0 = x) (h0 : x < 0) (hk : F.kept = false) : CrQ P xs (j + 1) (c + 1) Q := by
  subst hF hx
  refine ⟨?_, by have := h.2.1; omega, by have := h.2.2; omega⟩
  rw [h.1, List.drop_eq_getElem_cons hj, crL, hs, if_neg (by decide), if_pos ⟨h0, hk⟩, List.tail_drop]
theorem CrQ.torn {P : List PF} {xs : List Int} {j c : Nat} {Q : List PF} {F : PF} {x : Int} (h : CrQ P xs j c Q) (hj : j < P.length) (hF : P[j] = F) (hs : isSafe F = false) (hx : (xs.drop c).headD 0 = x) (h0 : ¬ (x < 0 ∧ F.kept = false)) : CrQ P xs (j + 1) (c + 1) (Q ++ [tearF F x]) := by
  subst hF hx
  refine ⟨?_, by have := h.2.1; simp; omega, by have := h.2.2; omega⟩
  rw [h.1, List.drop_eq_getElem_cons hj, crL, hs, if_neg (by decide), if_neg h0, List.tail_drop, List.append_assoc]
  rfl
/-- The way that the names of the bytes are compared. -/
theorem safe_cmp (F : PF) : ((sB F.has).toList == (sB F.safe).toList) = decide (F.has = F.safe) := by
  rw [same_eq, sB_list, sB_list]
theorem pre_cmp (F : PF) : (((sB F.has).extract 0 (sB F.safe).size).toList == (sB F.safe).toList) = F.safe.isPrefixOf F.has := by
  rw [← sB_take, same_eq, sB_list, sB_list, sB_size, Bool.eq_iff_iff, decide_eq_true_iff, List.isPrefixOf_iff_prefix, List.prefix_iff_eq_take]
  exact eq_comm
theorem pre_len (F : PF) (h : ¬ F.safe.length ≤ F.has.length) : F.safe.isPrefixOf F.has = false := by
  cases hq : F.safe.isPrefixOf F.has with
  | false => rfl
  | true => exact absurd (List.isPrefixOf_iff_prefix.1 hq).length_le h
end Go.Proofs.Ytlbkmhlpgpfafaa
