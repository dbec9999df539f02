/-
  Contracts of nest's labels: of, many, has, within; someLevels and isBound.
-/
import Derived.Test.YtpmjbeiclmllmaaGreatRgtM
namespace Go.Proofs.YtpmjbeiclmllmaaGreat
open Go.RowKit
set_option maxRecDepth 100000 in
theorem nsOf_any (a : Option Addr) (xs : List Int) (c : Nat) (s : Value) (v : Nat) (w : World) (hv : v < xs.length) (hx : xs.length ≤ 9223372036854775807) (hi : Ints w a xs) :
    Calls Tryz.prog 62 #[.agg #[.slice a xs.length c, s], .int .i64 v] w fun e w' => e = .returned (.int .i64 (xs.getD v 0)) ∧ Below w.heap.size w w' := by
  have hb0 : Below w.heap.size w (w.alloc (.cells #[.slice a xs.length c, s] 101)) := (Below.refl _ _).alloc (Nat.le_refl _) _
  have hg := heap_top w (.cells #[.slice a xs.length c, s] 101)
  obtain ⟨ix, ox, hix⟩ := (hi.on hb0).get
  obtain ⟨rfl, _, hat⟩ := hix (by omega)
  have d1 := hat v hv
  obtain ⟨⟨c0, c1⟩, _⟩ := two_cells hg
  have HB0 := Lib.hid hb0
  have hv' : (v : Int) < xs.length := by omega
  generalize xs.getD v 0 = y at *
  clear hix hat hi hg hb0
  generalize hp : w.heap.size = p at *
  go_enter Tryz.func62, Tryz.ntmps62
  go_wp2_with fail
  go_ret
  exact ⟨rfl, HB0.out⟩
set_option maxRecDepth 100000 in
theorem nsMany_any (s : Value) (b : Option Addr) (m c : Nat) (w : World) :
    Calls Tryz.prog 97 #[.agg #[s, .slice b m c]] w fun e w' => e = .returned (.int .i64 (m : Int)) ∧ Below w.heap.size w w' := by
  have hb0 : Below w.heap.size w (w.alloc (.cells #[s, .slice b m c] 101)) := (Below.refl _ _).alloc (Nat.le_refl _) _
  have hg := heap_top w (.cells #[s, .slice b m c] 101)
  obtain ⟨⟨c0, c1⟩, _⟩ := two_cells hg
  have HB0 := Lib.hid hb0
  clear hg hb0
  generalize hp : w.heap.size = p at *
  go_enter Tryz.func97, Tryz.ntmps97
  go_wp2_with fail
  go_ret
  exact ⟨rfl, HB0.out⟩
set_option maxRecDepth 100000 in
theorem nsSome_any (b : Option Addr) (m c : Nat) (w : World) (hm : m ≤ 9223372036854775807) :
    Calls Tryz.prog 94 #[.slice b m c] w fun e w' => e = .returned (.bool (decide (1 ≤ m ∧ m ≤ 5))) ∧ w' = w := by
  by_cases h1 : (1 : Int) ≤ m
  · by_cases h2 : (m : Int) ≤ 5
    · rw [decide_eq_true (by omega)]
      go_enter Tryz.func94, Tryz.ntmps94
      go_wp2_with fail
      go_ret
      exact ⟨rfl, rfl⟩
    · rw [decide_eq_false (by omega)]
      go_enter Tryz.func94, Tryz.ntmps94
      go_wp2_with fail
      go_ret
      exact ⟨rfl, rfl⟩
  · rw [decide_eq_false (by omega)]
    go_enter Tryz.func94, Tryz.ntmps94
    go_wp2_with fail
    go_ret
    exact ⟨rfl, rfl⟩
set_option maxRecDepth 100000 in
theorem nsBound_any (x y : Int) (w : World) :
    Calls Tryz.prog 117 #[.int .i64 x, .int .i64 y] w fun e w' => e = .returned (.bool (decide (y < x ∧ x ≤ 1024))) ∧ w' = w := by
  by_cases h1 : y < x
  · by_cases h2 : x ≤ 1024
    · rw [decide_eq_true (by omega)]
      go_enter Tryz.func117, Tryz.ntmps117
      go_wp2_with fail
      go_ret
      exact ⟨rfl, rfl⟩
    · rw [decide_eq_false (by omega)]
      go_enter Tryz.func117, Tryz.ntmps117
      go_wp2_with fail
      go_ret
      exact ⟨rfl, rfl⟩
  · rw [decide_eq_false (by omega)]
    go_enter Tryz.func117, Tryz.ntmps117
    go_wp2_with fail
    go_ret
    exact ⟨rfl, rfl⟩
set_option maxRecDepth 100000 in
theorem nsHas_any (s : Value) (b : Option Addr) (m c : Nat) (x : Int) (w : World) :
    Calls Tryz.prog 102 #[.agg #[s, .slice b m c], .int .i64 x] w fun e w' => e = .returned (.bool (decide (0 ≤ x ∧ x < (m : Int)))) ∧ Below w.heap.size w w' := by
  have hb0 : Below w.heap.size w (w.alloc (.cells #[s, .slice b m c] 101)) := (Below.refl _ _).alloc (Nat.le_refl _) _
  have hg := heap_top w (.cells #[s, .slice b m c] 101)
  obtain ⟨⟨c0, c1⟩, _⟩ := two_cells hg
  have HB0 := Lib.hid hb0
  have hwz := hb0.size
  have HMA := Lib.hid (nsMany_any s b m c (w.alloc (.cells #[s, .slice b m c] 101)))
  clear hg hb0
  by_cases h1 : 0 ≤ x
  · by_cases h2 : x < (m : Int)
    · rw [decide_eq_true ⟨h1, h2⟩]
      generalize hp : w.heap.size = p at *
      go_enter Tryz.func102, Tryz.ntmps102
      go_wp2_with fail
      refine HMA.out.mono ?_
      rintro e w1 ⟨rfl, hb1⟩
      have HB1 : Hid (Below p w w1) := HB0.out.trans (hb1.mono hwz)
      clear hb1
      go_wp2_with fail
      go_ret
      exact ⟨rfl, HB1.out⟩
    · rw [decide_eq_false (by omega)]
      have f2 : decide (x < (m : Int)) = false := decide_eq_false h2
      generalize hp : w.heap.size = p at *
      go_enter Tryz.func102, Tryz.ntmps102
      go_wp2_with fail
      refine HMA.out.mono ?_
      rintro e w1 ⟨rfl, hb1⟩
      have HB1 : Hid (Below p w w1) := HB0.out.trans (hb1.mono hwz)
      clear hb1
      go_wp2_with fail
      go_ret
      exact ⟨rfl, HB1.out⟩
  · rw [decide_eq_false (by omega)]
    generalize hp : w.heap.size = p at *
    go_enter Tryz.func102, Tryz.ntmps102
    go_wp2_with fail
    go_ret
    exact ⟨rfl, HB0.out⟩
/-- No size is above a bound. -/
def wdB (S : List Nat) (bd : Int) : Bool := decide (∀ j, j < S.length → ((S.getD j 0 : Nat) : Int) ≤ bd)
set_option maxRecDepth 100000 in
set_option maxHeartbeats 800000 in
theorem nsWithin_any (s : Value) (b : Option Addr) (S : List Nat) (c : Nat) (bd : Int) (w : World) (hS : S.length ≤ 1024) (hi : Ints w b (ints S)) :
    Calls Tryz.prog 119 #[.agg #[s, .slice b S.length c], .int .i64 bd] w fun e w' => e = .returned (.bool (wdB S bd)) ∧ Below w.heap.size w w' := by
  have hb0 : Below w.heap.size w (w.alloc (.cells #[s, .slice b S.length c] 101)) := (Below.refl _ _).alloc (Nat.le_refl _) _
  have hg := heap_top w (.cells #[s, .slice b S.length c] 101)
  obtain ⟨⟨c0, c1⟩, _⟩ := two_cells hg
  have HB0 := Lib.hid hb0
  obtain ⟨ix, ox, hix⟩ := (hi.on hb0).get
  have HIX := Lib.hid hix
  obtain ⟨V, HV⟩ := named (wdB S bd)
  rw [HV.out]
  clear hg hb0 hi hix
  generalize hp : w.heap.size = p at *
  go_enter Tryz.func119, Tryz.ntmps119
  go_wp2_with fail
  generalize hW : w.alloc (.cells #[s, .slice b S.length c] 101) = W at *
  clear hW c0 c1
  go_loopw [10] (fun i wr => ∃ j : Nat, j ≤ S.length ∧ i = .int .i64 (j : Int) ∧ Hid (∀ t, t < j → ((S.getD t 0 : Nat) : Int) ≤ bd) ∧ wr = W) (fun i _ => S.length - (intOf i).toNat)
  case atStart => exact ⟨0, Nat.zero_le _, rfl, fun t ht => absurd ht (Nat.not_lt_zero _), rfl⟩
  case round =>
    obtain ⟨j, hj, rfl, HA, rfl⟩ := hrel
    by_cases hlk : j < S.length
    · have hlk' : (j : Int) < S.length := by omega
      obtain ⟨rfl, _, hat⟩ := HIX.out (by rw [ints_len]; omega)
      have d1 := hat j (by rw [ints_len]; exact hlk)
      rw [ints_getD hlk] at d1
      clear hat
      obtain ⟨y, HY⟩ := named (S.getD j 0)
      rw [HY.out] at d1
      by_cases c : bd < (y : Int)
      · obtain rfl : V = false := by
          rw [← HV.out]
          unfold wdB
          refine decide_eq_false (fun h => ?_)
          have := h j hlk
          rw [HY.out] at this
          omega
        go_wp2_with fail
        refine bodyPost_ret (results_tmp rfl _ _ _) rfl ?_
        exact ⟨rfl, HB0.out⟩
      · have HA2 : Hid (∀ t, t < j + 1 → ((S.getD t 0 : Nat) : Int) ≤ bd) := fun t ht => by
          by_cases e : t = j
          · rw [e, HY.out]; omega
          · exact HA.out t (by omega)
        go_wp2_with fail
        exact ⟨⟨j + 1, hlk, by simp, HA2, trivial⟩, by simp [intOf]; omega⟩
    · have hlk' : ¬ (j : Int) < S.length := by omega
      obtain rfl : V = true := by
        rw [← HV.out]
        exact decide_eq_true (fun t ht => HA.out t (by omega))
      go_wp2_with fail
      refine bodyPost_ret (results_tmp rfl _ _ _) rfl ?_
      exact ⟨rfl, HB0.out⟩
end Go.Proofs.YtpmjbeiclmllmaaGreat
