/-
  The function of near.Between: it keeps the best walk that was found besides.
-/
import Derived.Test.YtomlmphdnoempabTwo
import Derived.Test.YtomlmphdnoempabWalkF
namespace Go.Proofs.Ytomlmphdnoempab
open Go.RowKit
open Hp (HR HRto Fr upd upd_self upd_ne TopIs)
/-- The lengths in bf (its variable c, the function's cs), the other search's in bo (their variable co), the best in bb. -/
def R3 (n c bf cs co bo bb : Nat) (w : World) (F : Nat → Int) (x : Int × (Nat → Int)) : Prop :=
  R1 n c bf w F () ∧ w.heap[cs]? = some (.cells #[.func (.func 26) #[] #[.pointer (some ⟨c, 0, none⟩)]] 48) ∧ w.heap[co]? = some (.cells #[.slice (some ⟨bo, 0, none⟩) n n] 34) ∧ Tb w bo n 27 .u64 x.2 ∧ w.heap[bb]? = some (.cells #[.int .u64 x.1] 27) ∧ (0 ≤ x.1 ∧ x.1 ≤ Inf) ∧ (∀ v, 0 ≤ x.2 v ∧ x.2 v ≤ Inf) ∧ ∀ v, 0 ≤ F v ∧ F v ≤ Inf
def Q3 (c bf cs co bo bb : Nat) (k : Nat) : Prop := k = c ∨ k = bf ∨ k = cs ∨ k = co ∨ k = bo ∨ k = bb
def minI (a b : Int) : Int := if b < a then b else a
theorem minI_rng {a b : Int} (ha : 0 ≤ a ∧ a ≤ Inf) (hb : 0 ≤ b ∧ b ≤ Inf) : 0 ≤ minI a b ∧ minI a b ≤ Inf := by unfold minI; split <;> omega
set_option maxHeartbeats 1600000 in
theorem meetf_any (n c bf cs co bo bb : Nat) (h1 : co ≠ bf) (h2 : bo ≠ bf) (h3 : bb ≠ bf) (w : World) (F : Nat → Int) (x : Int × (Nat → Int)) (v : Nat) (d y : Int) (r : R3 n c bf cs co bo bb w F x) (hv : v < n) (hd : 0 ≤ d ∧ d ≤ Inf) :
    Calls Try.prog 15 #[.int .i64 v, .int .u64 d, .int .i64 y, .pointer (some ⟨cs, 0, none⟩), .pointer (some ⟨bb, 0, none⟩), .pointer (some ⟨co, 0, none⟩)] w fun e w' => e = .returned (.bool (decide (d < F v))) ∧ ∃ w1, (∀ k : Nat, w'.heap[k]? = w1.heap[k]?) ∧ w'.heap.size = w1.heap.size ∧ Fr (fun k => k = bf ∨ k = bb) w w' ∧ w1 = if d < F v then (w.setCell ⟨bf, v, none⟩ (.int .u64 d)).setCell ⟨bb, 0, none⟩ (.int .u64 (minI x.1 (sat d (x.2 v)))) else w := by
  obtain ⟨⟨r1, r2⟩, r3, r4, r5, r6, r7, r8, -⟩ := r
  have HS := Lib.hid (short_any w c bf n v d y F hv r1 r2)
  obtain ⟨a0, -⟩ := one_cell r3
  have hv' : (v : Int) < n := by omega
  by_cases h : d < F v
  · rw [if_pos h]
    have HD : Hid (decide (d < F v) = true) := by show _ = _; simpa using h
    rw [HD.out]
    rw [HD.out, if_pos h] at HS
    have hfr : Fr (fun k => k = bf ∨ k = bb) w (w.setCell ⟨bf, v, none⟩ (.int .u64 d)) := Fr.set1 (Or.inl rfl)
    obtain ⟨b0, -⟩ := one_cell ((Below.heap_setCell w ⟨bf, v, none⟩ (.int .u64 d) co h1).trans r4)
    have t5 := r5.same (Below.heap_setCell w ⟨bf, v, none⟩ (.int .u64 d) bo h2)
    have b1 := t5.cell hv
    obtain ⟨b2, b3⟩ := one_cell ((Below.heap_setCell w ⟨bf, v, none⟩ (.int .u64 d) bb h3).trans r6)
    have HA := Lib.hid (fun w' : World => add_any d (x.2 v) hd (r8 v) w')
    have hfr2 : ∀ u, Fr (fun k => k = bf ∨ k = bb) w ((w.setCell ⟨bf, v, none⟩ (.int .u64 d)).setCell ⟨bb, 0, none⟩ u) := fun u => hfr.setCell _ _ (Or.inl (Or.inr rfl))
    generalize w.setCell ⟨bf, v, none⟩ (.int .u64 d) = W at *
    obtain ⟨q, HQ⟩ := named (sat d (x.2 v))
    rw [HQ.out] at HA
    rw [HQ.out]
    obtain ⟨z, HZ⟩ := named (x.2 v)
    rw [HZ.out] at b1 HA
    obtain ⟨be, HB⟩ := named x.1
    rw [HB.out] at b2 ⊢
    obtain ⟨m, HM⟩ := named (minI be q)
    rw [HM.out]
    have hm : (if q < be then q else be) = m := HM.out
    clear r1 r2 r3 r4 r5 r6 r7 r8 t5 h HD hfr
    have B0 := Lib.hid b0
    have B1 := Lib.hid b1
    have B2 := Lib.hid b2
    go_enter Try.func15, Try.ntmps15
    go_wp2_with fail
    refine HS.out.mono ?_
    rintro e w1 ⟨rfl, rfl⟩
    go_wp2_with fail
    go_region_with (go_at_call 16; refine (HA.out _).mono ?_; rintro e w' ⟨rfl, rfl⟩)
    all_goals (go_wp2_with fail; go_ret; exact ⟨rfl, w1.setCell ⟨bb, 0, none⟩ (.int .u64 m), fun _ => rfl, rfl, ⟨(hfr2 (.int .u64 m)).os, (hfr2 (.int .u64 m)).tape, (hfr2 (.int .u64 m)).output, (hfr2 (.int .u64 m)).size, (hfr2 (.int .u64 m)).block⟩, rfl⟩)
  · rw [if_neg h]
    have HD : Hid (decide (d < F v) = false) := by show _ = _; simpa using h
    rw [HD.out]
    rw [HD.out, if_neg h] at HS
    clear r1 r2 r3 r4 r5 r6 r7 r8 h HD
    go_enter Try.func15, Try.ntmps15
    go_wp2_with fail
    refine HS.out.mono ?_
    rintro e w1 ⟨rfl, rfl⟩
    go_wp2_with fail
    go_ret
    exact ⟨rfl, _, fun _ => rfl, rfl, Hp.Fr.refl _ _, rfl⟩
theorem fun3 (n c bf cs co bo bb : Nat) (h1 : c ≠ bf) (h2 : cs ≠ bf) (h3 : co ≠ bf) (h4 : bo ≠ bf) (h5 : bb ≠ bf) (h6 : c ≠ bb) (h7 : cs ≠ bb) (h8 : co ≠ bb) (h9 : bo ≠ bb) :
    Fun n 15 #[.pointer (some ⟨cs, 0, none⟩), .pointer (some ⟨bb, 0, none⟩), .pointer (some ⟨co, 0, none⟩)] Al (X := Int × (Nat → Int)) (fun _ x v d _ x' => x' = (minI x.1 (sat d (x.2 v)), x.2)) (R3 n c bf cs co bo bb) (Q3 c bf cs co bo bb) := by
  refine ⟨?_, ?_, ?_⟩
  · rintro w F x k ⟨⟨r1, r2⟩, r3, r4, r5, r6, r7⟩ (rfl | rfl | rfl | rfl | rfl | rfl)
    · exact lt_of_block r1
    · exact r2.lt
    · exact lt_of_block r3
    · exact lt_of_block r4
    · exact r5.lt
    · exact lt_of_block r6
  · rintro w w' F x ⟨⟨r1, r2⟩, r3, r4, r5, r6, r7⟩ hs
    exact ⟨⟨(hs _ (Or.inl rfl)).trans r1, r2.same (hs _ (Or.inr (Or.inl rfl)))⟩, (hs _ (Or.inr (Or.inr (Or.inl rfl)))).trans r3, (hs _ (Or.inr (Or.inr (Or.inr (Or.inl rfl))))).trans r4, r5.same (hs _ (Or.inr (Or.inr (Or.inr (Or.inr (Or.inl rfl)))))), (hs _ (Or.inr (Or.inr (Or.inr (Or.inr (Or.inr rfl)))))).trans r6, r7⟩
  · intro w F x v d y r hv hd0 hd1
    refine (meetf_any n c bf cs co bo bb h3 h4 h5 w F x v d y r hv ⟨hd0, hd1⟩).mono ?_
    rintro e w' ⟨rfl, w1, he, hsz, hf, hw1⟩
    obtain ⟨⟨r1, r2⟩, r3, r4, r5, r6, r7, r8, r9⟩ := r
    refine ⟨_, rfl, hf.mono (fun k hk => ?_), ?_⟩
    · rcases hk with rfl | rfl
      · exact Or.inr (Or.inl rfl)
      · exact Or.inr (Or.inr (Or.inr (Or.inr (Or.inr rfl))))
    · by_cases h : d < F v
      · rw [if_pos h] at hw1
        subst hw1
        have hs0 : 0 ≤ sat d (x.2 v) ∧ sat d (x.2 v) ≤ Inf := ⟨sat_ge (by have := r8 v; omega) (by unfold Inf; omega), sat_inf _ _⟩
        refine Or.inl ⟨by simpa using h, rfl, h, (minI x.1 (sat d (x.2 v)), x.2), ⟨⟨?_, ?_⟩, ?_, ?_, ?_, ?_, minI_rng r7 hs0, r8, fun u => ?_⟩, rfl⟩
        · exact (he _).trans ((Below.heap_setCell _ _ _ _ h6).trans ((Below.heap_setCell _ _ _ _ h1).trans r1))
        · exact ((r2.set v d).same (Below.heap_setCell _ _ _ _ (fun e => h5 e.symm))).same (he _)
        · exact (he _).trans ((Below.heap_setCell _ _ _ _ h7).trans ((Below.heap_setCell _ _ _ _ h2).trans r3))
        · exact (he _).trans ((Below.heap_setCell _ _ _ _ h8).trans ((Below.heap_setCell _ _ _ _ h3).trans r4))
        · exact ((r5.same (Below.heap_setCell _ _ _ _ h4)).same (Below.heap_setCell _ _ _ _ h9)).same (he _)
        · rw [he, heap_setCell_same _ bb 0 _ _ _ ((Below.heap_setCell _ _ _ _ h5).trans r6)]; simp
        · unfold updI; split
          · exact ⟨hd0, hd1⟩
          · exact r9 u
      · rw [if_neg h] at hw1
        subst hw1
        exact Or.inr ⟨by simpa using h, fun e => h e.2, ⟨(he _).trans r1, r2.same (he _)⟩, (he _).trans r3, (he _).trans r4, r5.same (he _), (he _).trans r6, r7, r8, r9⟩
end Go.Proofs.Ytomlmphdnoempab
