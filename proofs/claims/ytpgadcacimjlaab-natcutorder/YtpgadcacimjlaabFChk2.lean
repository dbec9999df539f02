/-
  The contract of flow.check.
-/
import Derived.Test.YtpgadcacimjlaabFChk
namespace Go.Proofs.Ytpgadcacimjlaab.F6
open Go.RowKit
/-- What both searches refuse. -/
def flE (N : Int) (l : List A) (s t : Int) : Int := if chkE N l = 0 then (if okV N s then (if okV N t then (if s = t then 4 else 0) else 5) else 5) else chkE N l
set_option maxRecDepth 100000 in
set_option maxHeartbeats 800000 in
theorem fcheck_any (N : Int) (a : Option Addr) (l : List A) (cap : Nat) (w : World) (hl : l.length ≤ 9223372036854775807) (hr : Arcs w a l) (s t : Int) :
    Calls Try.prog 40 #[.agg #[.int .i64 N, .slice a l.length cap], .int .i64 s, .int .i64 t] w fun e w' => e = .returned (.int .i64 (flE N l s t)) ∧ Below w.heap.size w w' := by
  have hb0 : Below w.heap.size w (w.alloc (.cells #[.int .i64 N, .slice a l.length cap] 68)) := (Below.refl _ _).alloc (Nat.le_refl _) _
  have HC := Lib.hid (check_any N a l cap _ hl (hr.on hb0))
  have hg := heap_top w (.cells #[.int .i64 N, .slice a l.length cap] 68)
  obtain ⟨R, HR⟩ := named (flE N l s t)
  rw [HR.out]
  have HFE := HR
  unfold flE at HFE
  obtain ⟨E, HE⟩ := named (chkE N l)
  obtain ⟨T, HT⟩ := named (chkAt N l)
  rw [HE.out, HT.out] at HC
  rw [HE.out] at HFE
  have HB0 := Lib.hid hb0
  have HG := Lib.hid hg
  clear hb0 hg HR
  go_enter Try.func40, Try.ntmps40
  go_wp2_with fail
  refine HC.out.mono ?_
  rintro e w1 ⟨rfl, hb1⟩
  have hg1 := (hb1.block w.heap.size (by simp)).trans HG.out
  have hb2 : Below w.heap.size w w1 := HB0.out.trans (hb1.mono (by simp))
  obtain ⟨⟨g0, g1⟩, gf0, gf1⟩ := two_cells hg1
  have hsz := lt_of_block hg1
  have HB2 := Lib.hid hb2
  clear hb1 hb2
  by_cases hE : E = 0
  · have hE' : (E == 0) = true := by rw [hE]; rfl
    have hE2 : (E != 0) = false := by rw [hE]; rfl
    have hR1 := HFE.out
    rw [if_pos hE] at hR1
    have HR1 := Lib.hid hR1
    clear hE hR1 HFE
    go_wp2_with fail
    refine (vert_any N s _ _ _ _).mono ?_
    rintro e w2 ⟨rfl, hb3⟩
    have hg2 := (hb3.block w.heap.size hsz).trans hg1
    have hb4 : Below w.heap.size w w2 := bthen HB2.out hb3 (by omega)
    obtain ⟨⟨p0, p1⟩, pf0, pf1⟩ := two_cells hg2
    have hsz2 := lt_of_block hg2
    have HB4 := Lib.hid hb4
    clear hb3 hb4 g0 g1 gf0 gf1 hg1
    have hR2 := HR1.out
    by_cases h5 : okV N s = true
    · rw [if_pos h5] at hR2
      rw [h5]
      have HR2 := Lib.hid hR2
      clear hR2 h5
      go_wp2_with fail
      refine (vert_any N t _ _ _ _).mono ?_
      rintro e w3 ⟨rfl, hb5⟩
      have hb6 : Below w.heap.size w w3 := bthen HB4.out hb5 (by omega)
      have HB6 := Lib.hid hb6
      clear hb5 hb6
      have hR3 := HR2.out
      by_cases h6 : okV N t = true
      · rw [if_pos h6] at hR3
        rw [h6]
        by_cases h7 : s = t
        · rw [if_pos h7] at hR3
          have h7' : (s == t) = true := by rw [h7]; simp
          subst hR3
          clear h7 h6
          go_wp2_with fail
          go_ret
          exact ⟨rfl, HB6.out⟩
        · rw [if_neg h7] at hR3
          have h7' : (s == t) = false := by rw [beq_eq_false_iff_ne]; exact h7
          subst hR3
          clear h6
          go_wp2_with fail
          go_ret
          exact ⟨rfl, HB6.out⟩
      · rw [if_neg h6] at hR3
        have h6' : okV N t = false := by simpa using h6
        rw [h6']
        subst hR3
        clear h6 h6'
        go_wp2_with fail
        go_ret
        exact ⟨rfl, HB6.out⟩
    · rw [if_neg h5] at hR2
      have h5' : okV N s = false := by simpa using h5
      rw [h5']
      subst hR2
      clear h5 h5'
      go_wp2_with fail
      go_ret
      exact ⟨rfl, HB4.out⟩
  · have hE' : (E == 0) = false := by rw [beq_eq_false_iff_ne]; exact hE
    have hE2 : (E != 0) = true := by simpa using hE
    have hR1 := HFE.out
    rw [if_neg hE] at hR1
    subst hR1
    go_wp2_with fail
    go_ret
    exact ⟨rfl, HB2.out⟩
end Go.Proofs.Ytpgadcacimjlaab.F6
