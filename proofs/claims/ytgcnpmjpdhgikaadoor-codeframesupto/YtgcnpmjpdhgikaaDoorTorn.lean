/-
  Plain mathematics of frames: what a frame's bytes say, whole, cut, or with one byte changed.
-/
import Derived.Test.YtgcnpmjpdhgikaaDoorUnframe
namespace Go.Proofs.YtgcnpmjpdhgikaaDoor
open Go.RowKit
theorem wordL_cons (a b c d : UInt8) (r : List UInt8) : wordL (a :: b :: c :: d :: r) = word4 a.toNat b.toNat c.toNat d.toNat := rfl
theorem wordL_le4 (x : Nat) (hx : x < 4294967296) (r : List UInt8) : wordL (le4 x ++ r) = x := by
  unfold le4
  show wordL (_ :: _ :: _ :: _ :: ([] ++ r)) = x
  rw [wordL_cons, toNat_of _ (by omega), toNat_of _ (by omega), toNat_of _ (by omega), toNat_of _ (by omega)]
  unfold word4
  omega
theorem frame_parts (s : List UInt8) : frameD s = le4 s.length ++ (le4 (crcD s) ++ s) := by unfold frameD; rw [List.append_assoc]
theorem drop4 (x : Nat) (r : List UInt8) : (le4 x ++ r).drop 4 = r := rfl
theorem drop8 (x y : Nat) (r : List UInt8) : (le4 x ++ (le4 y ++ r)).drop 8 = r := rfl
/-- A frame is read as its body, whatever stands behind. -/
theorem body_frame (s r : List UInt8) (hs : s.length ≤ 262144) : bodyD (frameD s ++ r) = (s, 0) := by
  have hl : (frameD s ++ r).length = s.length + 8 + r.length := by rw [List.length_append, frameD_len]
  have e0 : frameD s ++ r = le4 s.length ++ (le4 (crcD s) ++ (s ++ r)) := by rw [frame_parts, List.append_assoc, List.append_assoc]
  rw [bodyD_eq _ (by omega) s.length (crcD s) (by rw [e0]; exact wordL_le4 _ (by omega) _) (by rw [e0, drop4]; exact wordL_le4 _ (crcD_lt s) _)]
  rw [if_neg (by omega), if_neg (by omega), e0, drop8, List.take_left, if_pos rfl]
/-- A frame that ends early is none. -/
theorem body_cut (s : List UInt8) (hs : s.length ≤ 262144) : bodyD ((frameD s).take (s.length + 7)) = ([], 23) := by
  have hl : ((frameD s).take (s.length + 7)).length = s.length + 7 := by rw [List.length_take, frameD_len]; omega
  by_cases h : s.length + 7 < 8
  · unfold bodyD; rw [if_pos (by omega)]
  · have e0 : (frameD s).take (s.length + 7) = le4 s.length ++ (le4 (crcD s) ++ s).take (s.length + 3) := by
      rw [frame_parts, List.take_append, le4_len, show s.length + 7 - 4 = s.length + 3 by omega, List.take_of_length_le (by rw [le4_len]; omega)]
    obtain ⟨y, hy⟩ : ∃ y, wordL (((frameD s).take (s.length + 7)).drop 4) = y := ⟨_, rfl⟩
    rw [bodyD_eq _ (by omega) s.length y (by rw [e0]; exact wordL_le4 _ (by omega) _) hy, if_neg (by omega), if_pos (by omega)]
theorem word4_ne {a b c d a' b' c' d' : Nat} (ha : a < 256) (hb : b < 256) (hc : c < 256) (ha' : a' < 256) (hb' : b' < 256) (hc' : c' < 256) (h : word4 a b c d = word4 a' b' c' d') : a = a' ∧ b = b' ∧ c = c' ∧ d = d' := by
  unfold word4 at h; omega
/-- Where one byte behind the length is another one, the sum is wrong. -/
theorem body_torn (s : List UInt8) (hs : s.length ≤ 262144) (p : Nat) (h4 : 4 ≤ p) (hp : p < s.length + 8) (c : UInt8) (hc : (frameD s).getD p 0 ≠ c) : bodyD ((frameD s).set p c) = ([], 25) := by
  have hl : ((frameD s).set p c).length = s.length + 8 := by rw [List.length_set, frameD_len]
  have e0 : (frameD s).set p c = le4 s.length ++ (le4 (crcD s) ++ s).set (p - 4) c := by
    rw [frame_parts, List.set_append, if_neg (by rw [le4_len]; omega), le4_len]
  have hC := crcD_lt s
  have hc2 : (le4 (crcD s) ++ s).getD (p - 4) 0 ≠ c := by
    intro e; apply hc; rw [frame_parts]; unfold List.getD at e ⊢; rw [List.getElem?_append_right (by rw [le4_len]; omega), le4_len]; exact e
  by_cases h8 : p < 8
  · have e1 : (le4 (crcD s) ++ s).set (p - 4) c = (le4 (crcD s)).set (p - 4) c ++ s := by rw [List.set_append, if_pos (by rw [le4_len]; omega)]
    have hne : wordL ((le4 (crcD s)).set (p - 4) c ++ s) ≠ crcD s := by
      intro e
      have e5 := wordL_le4 (crcD s) hC s
      rw [← e5] at e
      have hq : p - 4 = 0 ∨ p - 4 = 1 ∨ p - 4 = 2 ∨ p - 4 = 3 := by omega
      unfold le4 at e hc2
      rcases hq with q | q | q | q <;> rw [q] at e hc2
      · exact hc2 (UInt8.toNat_inj.1 (word4_ne (UInt8.toNat_lt _) (UInt8.toNat_lt _) (UInt8.toNat_lt _) (UInt8.toNat_lt _) (UInt8.toNat_lt _) (UInt8.toNat_lt _) e).1.symm)
      · exact hc2 (UInt8.toNat_inj.1 (word4_ne (UInt8.toNat_lt _) (UInt8.toNat_lt _) (UInt8.toNat_lt _) (UInt8.toNat_lt _) (UInt8.toNat_lt _) (UInt8.toNat_lt _) e).2.1.symm)
      · exact hc2 (UInt8.toNat_inj.1 (word4_ne (UInt8.toNat_lt _) (UInt8.toNat_lt _) (UInt8.toNat_lt _) (UInt8.toNat_lt _) (UInt8.toNat_lt _) (UInt8.toNat_lt _) e).2.2.1.symm)
      · exact hc2 (UInt8.toNat_inj.1 (word4_ne (UInt8.toNat_lt _) (UInt8.toNat_lt _) (UInt8.toNat_lt _) (UInt8.toNat_lt _) (UInt8.toNat_lt _) (UInt8.toNat_lt _) e).2.2.2.symm)
    have e8 : ((frameD s).set p c).drop 8 = s := by
      have d1 : ((le4 (crcD s)).set (p - 4) c).drop 4 = [] := List.drop_eq_nil_of_le (by rw [List.length_set, le4_len]; omega)
      have d2 : (le4 s.length ++ ((le4 (crcD s)).set (p - 4) c ++ s)).drop 8 = ((le4 (crcD s)).set (p - 4) c ++ s).drop 4 := rfl
      rw [e0, e1, d2, List.drop_append, List.length_set, le4_len, d1]; rfl
    rw [bodyD_eq _ (by omega) s.length (wordL ((le4 (crcD s)).set (p - 4) c ++ s)) (by rw [e0]; exact wordL_le4 _ (by omega) _) (by rw [e0, drop4, e1]), if_neg (by omega), if_neg (by omega), e8, List.take_length, if_neg (fun e => hne e.symm)]
  · have e1 : (le4 (crcD s) ++ s).set (p - 4) c = le4 (crcD s) ++ s.set (p - 8) c := by rw [List.set_append, if_neg (by rw [le4_len]; omega), le4_len, show p - 4 - 4 = p - 8 by omega]
    have hpl : p - 8 < s.length := by omega
    have hsc : s[p - 8] ≠ c := by
      intro e; apply hc2
      unfold List.getD
      rw [List.getElem?_append_right (by rw [le4_len]; omega), le4_len, show p - 4 - 4 = p - 8 by omega, List.getElem?_eq_getElem hpl]
      exact e
    have hne : crcD (s.set (p - 8) c) ≠ crcD s := by
      have d1 : s = s.take (p - 8) ++ s[p - 8] :: s.drop (p - 8 + 1) := by rw [← List.drop_eq_getElem_cons hpl, List.take_append_drop]
      have d2 : s.set (p - 8) c = s.take (p - 8) ++ c :: s.drop (p - 8 + 1) := List.set_eq_take_append_cons_drop .. ▸ (by rw [if_pos hpl])
      rw [d2]
      intro e
      have := crcD_torn (s.take (p - 8)) (s.drop (p - 8 + 1)) c s[p - 8] (fun h => hsc h.symm)
      rw [← d1] at this
      exact this e
    rw [bodyD_eq _ (by omega) s.length (crcD s) (by rw [e0]; exact wordL_le4 _ (by omega) _) (by rw [e0, drop4, e1]; exact wordL_le4 _ hC _), if_neg (by omega), if_neg (by omega), e0, e1, drop8, List.take_of_length_le (by simp), if_neg hne]
end Go.Proofs.YtgcnpmjpdhgikaaDoor
