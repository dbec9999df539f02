/-
  FlowMost: the walk.
-/
import Derived.Test.YtcomkdjngchmkaaRMost
import Derived.Test.YtcomkdjngchmkaaRValue
import Derived.Test.YtcomkdjngchmkaaRChk
import Derived.Test.YtcomkdjngchmkaaSame
namespace Go.Proofs.Ytcomkdjngchmkaa
open Go.RowKit
set_option maxHeartbeats 3200000 in
set_option maxRecDepth 100000 in
theorem law_most (N : Int) (a : Option Addr) (l : List A) (cap : Nat) (s t : Int) (w : World) (sz : l.length * 24 ≤ 140737488351232) (hn0 : a = none → l = [] ∧ cap = 0) (hr : Arcs w a l) (hw : ∀ x, x ∈ l → 0 ≤ x.w ∧ x.w < 4294967296) :
    Calls Try.prog 4 #[.agg #[.int .i64 N, .slice a l.length cap], .int .i64 s, .int .i64 t] w fun e w' => e = .returned (.bool true) ∧ Below w.heap.size w w' := by
  have hb0 : Below w.heap.size w (w.alloc (.cells #[.int .i64 N, .slice a l.length cap] 24)) := (Below.refl _ _).alloc (Nat.le_refl _) _
  have hg := heap_top w (.cells #[.int .i64 N, .slice a l.length cap] 24)
  have hsz : (w.alloc (.cells #[.int .i64 N, .slice a l.length cap] 24)).heap.size = w.heap.size + 1 := by simp
  go_enter Try.func4, Try.ntmps4
  go_wp2_with fail
  generalize w.alloc (.cells #[.int .i64 N, .slice a l.length cap] 24) = W at *
  refine (large_any N a l.length cap W).mono ?_
  rintro e w1 ⟨rfl, hb1⟩
  have hbw1 : Below w.heap.size w w1 := hb0.trans (hb1.mono (by omega))
  have hg1 := (hb1.block w.heap.size (by omega)).trans hg
  obtain ⟨⟨g0, g1⟩, gf0, gf1⟩ := two_cells hg1
  have hw1 := lt_of_block hg1
  cases hlg : decide (400 < l.length ∧ 60 < N) with
  | true =>
    clear hlg
    go_wp2_with fail
    refine (works_any w1).mono ?_
    rintro e w2 ⟨rfl, hb2⟩
    go_wp2_with fail
    go_ret
    exact ⟨rfl, hbw1.trans (hb2.mono (by omega))⟩
  | false =>
    clear hlg hb0 hb1 hg hsz
    go_wp2_with fail
    refine (lent_any N a l cap w1 sz hn0 (hr.on hbw1)).mono ?_
    rintro e w2 ⟨a2, c2, rfl, hOw, hb2⟩
    have hbw2 : Below w.heap.size w w2 := hbw1.trans (hb2.mono (by omega))
    have hg2 := (hb2.block w.heap.size hw1).trans hg1
    have hw2 := lt_of_block hg2
    clear g0 g1 gf0 gf1
    have hbx := heap_top w2 (.cells #[.int .i64 N, .slice a2 l.length c2] 24)
    have hgx := (Below.heap_alloc w2 (.cells #[.int .i64 N, .slice a2 l.length c2] 24) w.heap.size hw2).trans hg2
    have hbw3 : Below w.heap.size w (w2.alloc (.cells #[.int .i64 N, .slice a2 l.length c2] 24)) := hbw2.alloc (by omega) _
    have hA2 := (hOw.alloc (.cells #[.int .i64 N, .slice a2 l.length c2] 24)).arcs
    obtain ⟨⟨bx0, bx1⟩, -⟩ := two_cells hbx
    obtain ⟨⟨g0, g1⟩, -⟩ := two_cells hgx
    go_wp2_with fail
    generalize w2.alloc (.cells #[.int .i64 N, .slice a2 l.length c2] 24) = w3 at *
    generalize hbxe : w2.heap.size = bx at *
    have hgw3 := hgx
    have hxw3 := hbx
    have hbww3 := hbw3
    have hltw3 := lt_of_block hbx
    have HA2 := Lib.hid hA2
    clear hg1 hg2 hgx hbx hbw1 hbw2 hbw3 hb2 hA2 hOw
    by_cases hE : flE N l s t = 0
    · obtain ⟨n, u, v, hO⟩ := flE_ok hE hw
      obtain rfl := hO.hn
      obtain rfl := hO.hs
      obtain rfl := hO.ht
      have HO := Lib.hid hO
      have HE := Lib.hid hE
      clear hO hE
      refine (max_ok n a2 l c2 w3 u v HA2.out HE.out HO.out).mono ?_
      rintro e w4 ⟨fl, rk, bf, rfl, hFl, hRk, hrt, hT, hbf, hbw4⟩
      have hbww4 : Below w.heap.size w w4 := hbww3.trans (hbw4.mono (by omega))
      have hgw4 := (hbw4.block w.heap.size (by omega)).trans hgw3
      have hxw4 := (hbw4.block bx (by omega)).trans hxw3
      have hltw4 := lt_of_block hxw4
      clear g0 g1 bx0 bx1
      obtain ⟨⟨g0, g1⟩, -⟩ := two_cells hgw4
      obtain ⟨⟨bx0, bx1⟩, -⟩ := two_cells hxw4
      obtain ⟨V, HV⟩ := named (net (edl l) fl u (edl l).length)
      have HE1 := Lib.hid (hRk.stop hFl (edl_len l) hrt)
      have HFL := Lib.hid hFl
      have HF : Hid (Fl w4 (.slice (some ⟨bf, 0, none⟩) l.length l.length) l.length fl) := ⟨bf, l.length, rfl, Nat.le_refl _, hT.lt, fun j hj => hT.cell hj⟩
      have HNN : Hid (0 ≤ net (edl l) fl u (edl l).length) := by
        show _ ≤ _
        rw [HE1.out.value HO.out.g HO.out.un]
        exact (capK_nonneg HO.out.g _ _ (Nat.le_refl _)).1
      rw [HV.out]
      have hV1 : (V == V) = true := by simp
      clear hFl hRk hrt hT hbf
      go_wp2_with fail
      refine (rwrong_any n a l cap w4 (by omega) (hr.on hbww4) u v).mono ?_
      rintro e w5 ⟨rfl, hbw5⟩
      have hbww5 : Below w.heap.size w w5 := hbww4.trans (hbw5.mono (by omega))
      have hgw5 := (hbw5.block w.heap.size (by omega)).trans hgw4
      have hxw5 := (hbw5.block bx (by omega)).trans hxw4
      have hltw5 := lt_of_block hxw5
      clear g0 g1 bx0 bx1
      obtain ⟨⟨g0, g1⟩, -⟩ := two_cells hgw5
      obtain ⟨⟨bx0, bx1⟩, -⟩ := two_cells hxw5
      rw [HE.out]
      go_wp2_with fail
      refine (sameNet_any n a a2 l cap c2 w5 (by omega) (hr.on hbww5) ((HA2.out.on hbw4).on hbw5)).mono ?_
      rintro e w6 ⟨rfl, hbw6⟩
      have hbww6 : Below w.heap.size w w6 := hbww5.trans (hbw6.mono (by omega))
      have hgw6 := (hbw6.block w.heap.size (by omega)).trans hgw5
      have hxw6 := (hbw6.block bx (by omega)).trans hxw5
      have hltw6 := lt_of_block hxw6
      clear g0 g1 bx0 bx1
      obtain ⟨⟨g0, g1⟩, -⟩ := two_cells hgw6
      obtain ⟨⟨bx0, bx1⟩, -⟩ := two_cells hxw6
      go_wp2_with fail
      refine (works_any w6).mono ?_
      rintro e w7 ⟨rfl, hbw7⟩
      have hbww7 : Below w.heap.size w w7 := hbww6.trans (hbw7.mono (by omega))
      have hgw7 := (hbw7.block w.heap.size (by omega)).trans hgw6
      have hxw7 := (hbw7.block bx (by omega)).trans hxw6
      have hltw7 := lt_of_block hxw7
      clear g0 g1 bx0 bx1
      obtain ⟨⟨g0, g1⟩, -⟩ := two_cells hgw7
      obtain ⟨⟨bx0, bx1⟩, -⟩ := two_cells hxw7
      go_wp2_with fail
      refine (rmost_any n a l cap w7 u v (hr.on hbww7) HO.out).mono ?_
      rintro e w8 ⟨fl2, rk2, bS2, vf2, rfl, hFl2, hRk2, hrt2, hT2, hbS2, hbw8⟩
      have hbww8 : Below w.heap.size w w8 := hbww7.trans (hbw8.mono (by omega))
      have hgw8 := (hbw8.block w.heap.size (by omega)).trans hgw7
      have hxw8 := (hbw8.block bx (by omega)).trans hxw7
      have hltw8 := lt_of_block hxw8
      clear g0 g1 bx0 bx1
      obtain ⟨⟨g0, g1⟩, -⟩ := two_cells hgw8
      obtain ⟨⟨bx0, bx1⟩, -⟩ := two_cells hxw8
      have hsame := (HE1.out.same (hRk2.stop hFl2 (edl_len l) hrt2) HO.out.g HO.out.un).1
      rw [show net (edl l) fl2 u (edl l).length = V from hsame.symm.trans HV.out]
      clear hFl2 hRk2 hrt2 hT2 hbS2 hsame
      go_wp2_with fail
      refine (rvalue_any n a l cap w8 u v _ fl (hr.on hbww8) HO.out ((((HF.out.on hbw5).on hbw6).on hbw7).on hbw8) HFL.out HNN.out).mono ?_
      rintro e w9 ⟨rfl, hbw9⟩
      have hbww9 : Below w.heap.size w w9 := hbww8.trans (hbw9.mono (by omega))
      have hgw9 := (hbw9.block w.heap.size (by omega)).trans hgw8
      have hxw9 := (hbw9.block bx (by omega)).trans hxw8
      have hltw9 := lt_of_block hxw9
      clear g0 g1 bx0 bx1
      obtain ⟨⟨g0, g1⟩, -⟩ := two_cells hgw9
      obtain ⟨⟨bx0, bx1⟩, -⟩ := two_cells hxw9
      rw [HV.out]
      go_wp2_with fail
      go_ret
      exact ⟨rfl, hbww9⟩
    · refine (max_bad N a2 l c2 w3 s t (by omega) HA2.out hE).mono ?_
      rintro e w4 ⟨rfl, hbw4⟩
      have hbww4 : Below w.heap.size w w4 := hbww3.trans (hbw4.mono (by omega))
      have hgw4 := (hbw4.block w.heap.size (by omega)).trans hgw3
      have hxw4 := (hbw4.block bx (by omega)).trans hxw3
      have hltw4 := lt_of_block hxw4
      clear g0 g1 bx0 bx1
      obtain ⟨⟨g0, g1⟩, -⟩ := two_cells hgw4
      obtain ⟨⟨bx0, bx1⟩, -⟩ := two_cells hxw4
      generalize hEE : flE N l s t = E at *
      have HEE := Lib.hid hEE
      have e1 : (E != E) = false := by simp
      have e2 : (E != 0) = true := by simpa using hE
      have e3 : (E == 0) = false := by rw [beq_eq_false_iff_ne]; exact hE
      clear hE hEE
      go_wp2_with fail
      refine (rwrong_any N a l cap w4 (by omega) (hr.on hbww4) s t).mono ?_
      rintro e w5 ⟨rfl, hbw5⟩
      have hbww5 : Below w.heap.size w w5 := hbww4.trans (hbw5.mono (by omega))
      have hgw5 := (hbw5.block w.heap.size (by omega)).trans hgw4
      have hxw5 := (hbw5.block bx (by omega)).trans hxw4
      have hltw5 := lt_of_block hxw5
      clear g0 g1 bx0 bx1
      obtain ⟨⟨g0, g1⟩, -⟩ := two_cells hgw5
      obtain ⟨⟨bx0, bx1⟩, -⟩ := two_cells hxw5
      rw [HEE.out]
      go_wp2_with fail
      refine (sameNet_any N a a2 l cap c2 w5 (by omega) (hr.on hbww5) ((HA2.out.on hbw4).on hbw5)).mono ?_
      rintro e w6 ⟨rfl, hbw6⟩
      have hbww6 : Below w.heap.size w w6 := hbww5.trans (hbw6.mono (by omega))
      have hgw6 := (hbw6.block w.heap.size (by omega)).trans hgw5
      have hxw6 := (hbw6.block bx (by omega)).trans hxw5
      have hltw6 := lt_of_block hxw6
      clear g0 g1 bx0 bx1
      obtain ⟨⟨g0, g1⟩, -⟩ := two_cells hgw6
      obtain ⟨⟨bx0, bx1⟩, -⟩ := two_cells hxw6
      go_wp2_with fail
      refine (works_any w6).mono ?_
      rintro e w7 ⟨rfl, hbw7⟩
      have hbww7 : Below w.heap.size w w7 := hbww6.trans (hbw7.mono (by omega))
      have hgw7 := (hbw7.block w.heap.size (by omega)).trans hgw6
      have hxw7 := (hbw7.block bx (by omega)).trans hxw6
      have hltw7 := lt_of_block hxw7
      clear g0 g1 bx0 bx1
      obtain ⟨⟨g0, g1⟩, -⟩ := two_cells hgw7
      obtain ⟨⟨bx0, bx1⟩, -⟩ := two_cells hxw7
      go_wp2_with fail
      go_ret
      exact ⟨rfl, hbww7⟩
end Go.Proofs.Ytcomkdjngchmkaa
