/-
  The contract of large.
-/
import Derived.Test.YtpmjbeiclmllmaaRChk
namespace Go.Proofs.Ytpmjbeiclmllmaa
open Go.RowKit
/-- A right graph that is large. -/
def lgB (N : Int) (l : List A) : Bool := decide (chkE N l = 0) && (decide (40 < N) || decide (200 < l.length))
theorem lgB_true {N : Int} {l : List A} (h : lgB N l = true) : chkE N l = 0 := by
  unfold lgB at h
  rw [Bool.and_eq_true, decide_eq_true_eq] at h
  exact h.1
set_option maxRecDepth 100000 in
theorem large_any (N : Int) (a : Option Addr) (l : List A) (cap : Nat) (w : World) (hl : l.length ≤ 9223372036854775807) (hr : Arcs w a l) :
    Calls Try.prog 11 #[.agg #[.int .i64 N, .slice a l.length cap]] w fun e w' => e = .returned (.bool (lgB N l)) ∧ Below w.heap.size w w' := by
  have hb0 : Below w.heap.size w (w.alloc (.cells #[.int .i64 N, .slice a l.length cap] 24)) := (Below.refl _ _).alloc (Nat.le_refl _) _
  have hg := heap_top w (.cells #[.int .i64 N, .slice a l.length cap] 24)
  have HCH := Lib.hid (rcheck_any N a l cap (w.alloc (.cells #[.int .i64 N, .slice a l.length cap] 24)) hl (hr.on hb0))
  have HB0 := Lib.hid hb0
  have HG := Lib.hid hg
  obtain ⟨⟨c0, c1⟩, _⟩ := two_cells hg
  obtain ⟨V, HV⟩ := named (lgB N l)
  rw [HV.out]
  have HVV : Hid (V = (decide (chkE N l = 0) && (decide (40 < N) || decide (200 < l.length)))) := HV.out.symm
  obtain ⟨E, HE⟩ := named (chkE N l)
  obtain ⟨AT, HAT⟩ := named (chkAt N l)
  rw [HE.out] at HVV HCH
  rw [HAT.out] at HCH
  have hwz : w.heap.size ≤ (w.alloc (.cells #[.int .i64 N, .slice a l.length cap] 24)).heap.size := hb0.size
  have hpW : w.heap.size < (w.alloc (.cells #[.int .i64 N, .slice a l.length cap] 24)).heap.size := by simp
  clear hg hr hb0
  generalize hp : w.heap.size = p at *
  go_enter Try.func11, Try.ntmps11
  go_wp2_with fail
  generalize hW : w.alloc (.cells #[.int .i64 N, .slice a l.length cap] 24) = W at *
  clear hW
  refine HCH.out.mono ?_
  rintro e w1 ⟨rfl, hb1⟩
  have HB1 : Hid (Below p w w1) := HB0.out.trans (hb1.mono hwz)
  obtain ⟨⟨d0, d1⟩, _⟩ := two_cells ((hb1.block p hpW).trans HG.out)
  clear hb1 HCH c0 c1 HG HB0
  by_cases hE : E = 0
  · subst hE
    by_cases h1 : 40 < N
    · obtain rfl : V = true := by rw [HVV.out]; simp [h1]
      go_wp2_with fail
      go_ret
      exact ⟨rfl, HB1.out⟩
    · by_cases h2 : 200 < l.length
      · obtain rfl : V = true := by rw [HVV.out]; simp [h2]
        have h2' : (200 : Int) < l.length := by omega
        go_wp2_with fail
        go_ret
        exact ⟨rfl, HB1.out⟩
      · obtain rfl : V = false := by rw [HVV.out]; simp [h1]; omega
        have h2' : ¬ (200 : Int) < l.length := by omega
        go_wp2_with fail
        go_ret
        refine ⟨?_, HB1.out⟩
        show Ending.returned (Value.bool (decide (40 < N) || decide (200 < (l.length : Int)))) = _
        rw [decide_eq_false (show ¬ 40 < N by omega), decide_eq_false (show ¬ (200 : Int) < (l.length : Int) by omega)]
        rfl
  · obtain rfl : V = false := by rw [HVV.out]; simp [hE]
    have hE' : (E == 0) = false := by simpa using hE
    clear hE
    go_wp2_with fail
    go_ret
    exact ⟨rfl, HB1.out⟩
set_option maxRecDepth 100000 in
theorem large3_any (N : Int) (a : Option Addr) (l : List A) (cap : Nat) (w : World) (hl : l.length ≤ 9223372036854775807) (hr : Arcs w a l) :
    Calls Try.prog 40 #[.agg #[.int .i64 N, .slice a l.length cap]] w fun e w' => e = .returned (.bool (lgB N l)) ∧ Below w.heap.size w w' := by
  have hb0 : Below w.heap.size w (w.alloc (.cells #[.int .i64 N, .slice a l.length cap] 24)) := (Below.refl _ _).alloc (Nat.le_refl _) _
  have hg := heap_top w (.cells #[.int .i64 N, .slice a l.length cap] 24)
  have HCH := Lib.hid (rcheck_any N a l cap (w.alloc (.cells #[.int .i64 N, .slice a l.length cap] 24)) hl (hr.on hb0))
  have HB0 := Lib.hid hb0
  have HG := Lib.hid hg
  obtain ⟨⟨c0, c1⟩, _⟩ := two_cells hg
  obtain ⟨V, HV⟩ := named (lgB N l)
  rw [HV.out]
  have HVV : Hid (V = (decide (chkE N l = 0) && (decide (40 < N) || decide (200 < l.length)))) := HV.out.symm
  obtain ⟨E, HE⟩ := named (chkE N l)
  obtain ⟨AT, HAT⟩ := named (chkAt N l)
  rw [HE.out] at HVV HCH
  rw [HAT.out] at HCH
  have hwz : w.heap.size ≤ (w.alloc (.cells #[.int .i64 N, .slice a l.length cap] 24)).heap.size := hb0.size
  have hpW : w.heap.size < (w.alloc (.cells #[.int .i64 N, .slice a l.length cap] 24)).heap.size := by simp
  clear hg hr hb0
  generalize hp : w.heap.size = p at *
  go_enter Try.func40, Try.ntmps40
  go_wp2_with fail
  generalize hW : w.alloc (.cells #[.int .i64 N, .slice a l.length cap] 24) = W at *
  clear hW
  refine HCH.out.mono ?_
  rintro e w1 ⟨rfl, hb1⟩
  have HB1 : Hid (Below p w w1) := HB0.out.trans (hb1.mono hwz)
  obtain ⟨⟨d0, d1⟩, _⟩ := two_cells ((hb1.block p hpW).trans HG.out)
  clear hb1 HCH c0 c1 HG HB0
  by_cases hE : E = 0
  · subst hE
    by_cases h1 : 40 < N
    · obtain rfl : V = true := by rw [HVV.out]; simp [h1]
      go_wp2_with fail
      go_ret
      exact ⟨rfl, HB1.out⟩
    · by_cases h2 : 200 < l.length
      · obtain rfl : V = true := by rw [HVV.out]; simp [h2]
        have h2' : (200 : Int) < l.length := by omega
        go_wp2_with fail
        go_ret
        exact ⟨rfl, HB1.out⟩
      · obtain rfl : V = false := by rw [HVV.out]; simp [h1]; omega
        have h2' : ¬ (200 : Int) < l.length := by omega
        go_wp2_with fail
        go_ret
        refine ⟨?_, HB1.out⟩
        show Ending.returned (Value.bool (decide (40 < N) || decide (200 < (l.length : Int)))) = _
        rw [decide_eq_false (show ¬ 40 < N by omega), decide_eq_false (show ¬ (200 : Int) < (l.length : Int) by omega)]
        rfl
  · obtain rfl : V = false := by rw [HVV.out]; simp [hE]
    have hE' : (E == 0) = false := by simpa using hE
    clear hE
    go_wp2_with fail
    go_ret
    exact ⟨rfl, HB1.out⟩
end Go.Proofs.Ytpmjbeiclmllmaa
