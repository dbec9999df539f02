/-
  The function of near.Walk: it keeps the last arc of each vertex besides.
-/
import Derived.Test.YtomlmphdnoempabFromC
import Derived.Test.YtomlmphdnoempabWMath
namespace Go.Proofs.Ytomlmphdnoempab
open Go.RowKit
open Hp (HR HRto Fr upd upd_self upd_ne TopIs)
/-- The lengths in bf (its variable c, the function's cs), the last arcs in bl (their variable cl). -/
def R2 (n c bf cs cl bl : Nat) (w : World) (F : Nat → Int) (L : Nat → Int) : Prop :=
  R1 n c bf w F () ∧ w.heap[cs]? = some (.cells #[.func (.func 26) #[] #[.pointer (some ⟨c, 0, none⟩)]] 48) ∧ w.heap[cl]? = some (.cells #[.slice (some ⟨bl, 0, none⟩) n n] 31) ∧ Tb w bl n 3 .i64 L
def Q2 (c bf cs cl bl : Nat) (k : Nat) : Prop := k = c ∨ k = bf ∨ k = cs ∨ k = cl ∨ k = bl
set_option maxHeartbeats 800000 in
theorem walkf_any (n c bf cs cl bl : Nat) (h3 : cl ≠ bf) (h4 : bl ≠ bf) (w : World) (F L : Nat → Int) (v : Nat) (d y : Int) (r : R2 n c bf cs cl bl w F L) (hv : v < n) :
    Calls Try.prog 20 #[.int .i64 v, .int .u64 d, .int .i64 y, .pointer (some ⟨cs, 0, none⟩), .pointer (some ⟨cl, 0, none⟩)] w fun e w' => e = .returned (.bool (decide (d < F v))) ∧ w' = if d < F v then (w.setCell ⟨bf, v, none⟩ (.int .u64 d)).setCell ⟨bl, v, none⟩ (.int .i64 y) else w := by
  obtain ⟨⟨r1, r2⟩, r3, r4, r5⟩ := r
  have HS := Lib.hid (short_any w c bf n v d y F hv r1 r2)
  obtain ⟨a0, -⟩ := one_cell r3
  have hv' : (v : Int) < n := by omega
  by_cases h : d < F v
  · rw [if_pos h]
    have HD : Hid (decide (d < F v) = true) := by show _ = _; simpa using h
    rw [HD.out]
    rw [HD.out, if_pos h] at HS
    obtain ⟨b0, -⟩ := one_cell ((Below.heap_setCell w ⟨bf, v, none⟩ (.int .u64 d) cl h3).trans r4)
    have t5 := r5.same (Below.heap_setCell w ⟨bf, v, none⟩ (.int .u64 d) bl h4)
    have b1 := t5.cell hv
    have b2 := t5.free v
    generalize w.setCell ⟨bf, v, none⟩ (.int .u64 d) = W at *
    clear r1 r2 r3 r4 r5 t5 h HD
    go_enter Try.func20, Try.ntmps20
    go_wp2_with fail
    refine HS.out.mono ?_
    rintro e w1 ⟨rfl, rfl⟩
    go_wp2_with fail
    go_ret
    exact ⟨rfl, rfl⟩
  · rw [if_neg h]
    have HD : Hid (decide (d < F v) = false) := by show _ = _; simpa using h
    rw [HD.out]
    rw [HD.out, if_neg h] at HS
    clear r1 r2 r3 r4 r5 h HD
    go_enter Try.func20, Try.ntmps20
    go_wp2_with fail
    refine HS.out.mono ?_
    rintro e w1 ⟨rfl, rfl⟩
    go_wp2_with fail
    go_ret
    exact ⟨rfl, rfl⟩
theorem fun2 (n c bf cs cl bl : Nat) (h1 : c ≠ bf) (h2 : cs ≠ bf) (h3 : cl ≠ bf) (h4 : bl ≠ bf) (h5 : bl ≠ c) (h6 : bl ≠ cs) (h7 : bl ≠ cl) :
    Fun n 20 #[.pointer (some ⟨cs, 0, none⟩), .pointer (some ⟨cl, 0, none⟩)] (fun _ => true) (X := Nat → Int) (fun _ L v _ y L' => L' = updI L v y) (R2 n c bf cs cl bl) (Q2 c bf cs cl bl) := by
  refine ⟨?_, ?_, ?_⟩
  · rintro w F x k ⟨⟨r1, r2⟩, r3, r4, r5⟩ (rfl | rfl | rfl | rfl | rfl)
    · exact lt_of_block r1
    · exact r2.lt
    · exact lt_of_block r3
    · exact lt_of_block r4
    · exact r5.lt
  · rintro w w' F x ⟨⟨r1, r2⟩, r3, r4, r5⟩ hs
    exact ⟨⟨(hs _ (Or.inl rfl)).trans r1, r2.same (hs _ (Or.inr (Or.inl rfl)))⟩, (hs _ (Or.inr (Or.inr (Or.inl rfl)))).trans r3, (hs _ (Or.inr (Or.inr (Or.inr (Or.inl rfl))))).trans r4, r5.same (hs _ (Or.inr (Or.inr (Or.inr (Or.inr rfl)))))⟩
  · intro w F L v d y r hv hd0 hd1
    refine (walkf_any n c bf cs cl bl h3 h4 w F L v d y r hv).mono ?_
    rintro e w1 ⟨rfl, rfl⟩
    obtain ⟨⟨r1, r2⟩, r3, r4, r5⟩ := r
    refine ⟨_, rfl, ?_, ?_⟩
    · split
      · exact (Fr.set1 (Or.inr (Or.inl rfl))).setCell _ _ (Or.inl (Or.inr (Or.inr (Or.inr (Or.inr rfl)))))
      · exact Hp.Fr.refl _ _
    · by_cases h : d < F v
      · rw [if_pos h]
        refine Or.inl ⟨by simpa using h, rfl, h, _, ⟨⟨?_, ?_⟩, ?_, ?_, ?_⟩, rfl⟩
        · exact (Below.heap_setCell _ _ _ _ (fun e => h5 e.symm)).trans ((Below.heap_setCell _ _ _ _ h1).trans r1)
        · exact (r2.set v d).same (Below.heap_setCell _ _ _ _ (fun e => h4 e.symm))
        · exact (Below.heap_setCell _ _ _ _ (fun e => h6 e.symm)).trans ((Below.heap_setCell _ _ _ _ h2).trans r3)
        · exact (Below.heap_setCell _ _ _ _ (fun e => h7 e.symm)).trans ((Below.heap_setCell _ _ _ _ h3).trans r4)
        · exact (r5.same (Below.heap_setCell _ _ _ _ h4)).set v y
      · rw [if_neg h]
        exact Or.inr ⟨by simpa using h, fun e => h e.2, ⟨r1, r2⟩, r3, r4, r5⟩
end Go.Proofs.Ytomlmphdnoempab
