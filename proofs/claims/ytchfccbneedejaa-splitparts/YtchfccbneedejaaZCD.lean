/-
  In the end no two labels can be joined: the mathematics.
-/
import Derived.Test.YtchfccbneedejaaZCC
import Derived.Test.YtchfccbneedejaaZAN
namespace Go.Proofs.Ytchfccbneedejaa
open Go.RowKit
theorem jn_und {N : Int} {l : List A} {L : List Nat} {B : Nat} (h : jnE N l (ints L) B = 0) : Und B L := by
  obtain ⟨h1, h2⟩ := jnE_zero h
  obtain ⟨_, _, hT, _, _⟩ := ckE_zero h1
  refine und_mx hT (fun j hj => ?_)
  have := mxL_le (szL (ints L)) ((szL (ints L)).length - 1) j (by omega)
  omega
theorem jn_ok {n : Nat} {l : List A} {L : List Nat} {B : Nat} (hC : chkE n l = 0) (hL : L.length = n) (hT : tdy (ints L) 0 = true) (hU : Und B L) (hB1 : 1 ≤ B) (hB2 : B ≤ 1024) : jnE n l (ints L) B = 0 := by
  have hck : ckE n l (ints L) B = 0 := by
    unfold ckE
    rw [if_neg (by rw [siE_ok hC hL hT]; simp), if_neg (by omega)]
  unfold jnE
  rw [if_neg (by rw [hck]; simp), if_neg ?_]
  obtain ⟨j, _, e⟩ := mxL_at (szL (ints L)) ((szL (ints L)).length - 1)
  have := sz_bound hT hU j
  omega
theorem toNat_ints (L : List Nat) : (ints L).map Int.toNat = L := by simp [ints, Function.comp_def]
theorem JnR.get {n : Nat} {l : List A} {L E : List Nat} {B : Nat} (h : JnR n l (ints L) B E) (h0 : jnE n l (ints L) B = 0) : ∃ F, Jn (prl l) B L F ∧ E = tdL F := by
  obtain ⟨F, hF, he⟩ := h.1 h0
  rw [toNat_ints, Int.toNat_natCast] at hF
  exact ⟨F, hF, he⟩
theorem hit_pair {L : List Nat} (p : Pr) : hitB L (L.getD p.a 0) (L.getD p.b 0) p = true := by unfold hitB; simp
/-- What holds in the end. -/
theorem ends_hold {n : Nat} {l : List A} {L E : List Nat} {B : Nat} (hC : chkE n l = 0) (hL : L.length = n) (h0 : jnE n l (ints L) B = 0) (h : JnR n l (ints L) B E) :
    E.length = n ∧ tdy (ints E) 0 = true ∧ Und B E ∧ (∀ p, p ∈ prl l → E.getD p.a 0 ≠ E.getD p.b 0 → B < (szL (ints E)).getD (E.getD p.a 0) 0 + (szL (ints E)).getD (E.getD p.b 0) 0) ∧ (∀ E2, JnR n l (ints E) B E2 → E2 = E) ∧ jnE n l (ints E) B = 0 ∧ cntB (ints E) (prl l) ≤ cntB (ints L) (prl l) := by
  obtain ⟨h1, _⟩ := jnE_zero h0
  obtain ⟨_, _, hT, hB1, hB2⟩ := ckE_zero h1
  obtain ⟨F, hF, rfl⟩ := h.get h0
  have hU := jn_und h0
  have hPI := prl_in hC
  have hFl : F.length = n := hF.len.trans hL
  have hEl : (tdL F).length = n := (tdL_len F).trans hFl
  have hUE := tdL_und (hF.und hU)
  have hno : ∀ p, p ∈ prl l → (tdL F).getD p.a 0 ≠ (tdL F).getD p.b 0 → B < (tdL F).count ((tdL F).getD p.a 0) + (tdL F).count ((tdL F).getD p.b 0) := fun p hp hne => by
    obtain ⟨q1, q2⟩ := hPI p hp
    have hneF : F.getD p.a 0 ≠ F.getD p.b 0 := fun e => hne ((tdL_eq (by omega) (by omega)).2 e)
    rw [tdL_count (by omega), tdL_count (by omega)]
    have hb : 0 < bw (prl l) F (F.getD p.a 0) (F.getD p.b 0) := bw_pos.2 ⟨p, hp, hit_pair p⟩
    refine Nat.lt_of_not_le (fun hle => ?_)
    rcases Nat.lt_or_ge (F.getD p.a 0) (F.getD p.b 0) with e | e
    · exact hF.none _ _ ⟨e, hb, hle⟩
    · exact hF.none (F.getD p.b 0) (F.getD p.a 0) ⟨by omega, by rw [bw_comm]; exact hb, by omega⟩
  have hjE := jn_ok hC hEl (tdL_right F) hUE (by omega) (by omega)
  refine ⟨hEl, tdL_right F, hUE, fun p hp hne => ?_, fun E2 h2 => ?_, hjE, ?_⟩
  · rw [sz_cnt (tdL_right F), sz_cnt (tdL_right F)]
    exact hno p hp hne
  · obtain ⟨F2, hF2, rfl⟩ := h2.get hjE
    have hst : Jn (prl l) B (tdL F) (tdL F) := .stop (fun a b hf => by
      obtain ⟨p, hp, hh⟩ := bw_pos.1 hf.2.1
      have hlt := hf.1
      have hle := hf.2.2
      unfold hitB at hh
      simp only [Bool.or_eq_true, Bool.and_eq_true, decide_eq_true_eq] at hh
      rcases hh with ⟨e1, e2⟩ | ⟨e1, e2⟩
      · have := hno p hp (by rw [e1, e2]; omega)
        rw [e1, e2] at this
        omega
      · have := hno p hp (by rw [e1, e2]; omega)
        rw [e1, e2] at this
        omega)
    rw [← hst.one hF2]
    exact tdL_self (tdL_right F)
  · unfold cntB
    rw [← List.countP_eq_length_filter, ← List.countP_eq_length_filter]
    refine List.countP_mono_left (fun p hp hh => ?_)
    obtain ⟨q1, q2⟩ := hPI p hp
    rw [ints_getD (by omega), ints_getD (by omega)] at hh
    rw [ints_getD (by omega), ints_getD (by omega)]
    simp only [Bool.not_eq_true', beq_eq_false_iff_ne, ne_eq] at hh ⊢
    intro e
    refine hh ?_
    have e : L.getD p.a 0 = L.getD p.b 0 := by omega
    have := hF.same p.a p.b (by omega) (by omega) e
    rw [(tdL_eq (by omega) (by omega)).2 this]
end Go.Proofs.Ytchfccbneedejaa
