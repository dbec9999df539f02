/-
  FlowCuts: the walk.
-/
import Derived.Test.YtcomkdjngchmkaaRCut
import Derived.Test.YtcomkdjngchmkaaSame
import Derived.Test.YtcomkdjngchmkaaEndM
namespace Go.Proofs.Ytcomkdjngchmkaa
open Go.RowKit
theorem hits_congr {q q' : Nat → Bool} : ∀ k, (∀ j, j < k → q' j = q j) → hits q' k = hits q k
  | 0, _ => rfl
  | k + 1, h => by simp only [hits]; rw [hits_congr k (fun j hj => h j (by omega)), h k (by omega)]
theorem own_on2 {w w' : World} {base : Nat} {e : TypeId} {size : Nat} {v : Value} {k : Nat} {xs : List Value} (h : w.ownsRow base e size v k xs) (hb : Below w.heap.size w w') : w'.ownsRow base e size v k xs := by
  refine ⟨h.1, ?_⟩
  rcases h.2 with h' | ⟨g, c, cur, h1, h2, h3, h4⟩
  · exact Or.inl h'
  · exact Or.inr ⟨g, c, cur, h1, h2, (hb.block g (lt_of_block h3)).trans h3, h4⟩
theorem own_fr {w w' : World} {b : Nat} {e : TypeId} {size : Nat} {v : Value} {k : Nat} {xs : List Value} (h : w.ownsRow (b + 1) e size v k xs) (hf : Fr (fun j => j = b) w w') : w'.ownsRow (b + 1) e size v k xs := by
  refine ⟨h.1, ?_⟩
  rcases h.2 with h' | ⟨g, c, cur, h1, h2, h3, h4⟩
  · exact Or.inl h'
  · exact Or.inr ⟨g, c, cur, h1, h2, (hf.block g (lt_of_block h3) (by show ¬ g = b; omega)).trans h3, h4⟩
theorem arcs_base {w w1 w2 : World} {a : Option Addr} {l : List A} (h : Arcs w a l) (hb : Below w.heap.size w1 w2) (hb1 : Below w.heap.size w w1) : Arcs w2 a l := h.on (hb1.trans hb)
set_option maxHeartbeats 3200000 in
set_option maxRecDepth 100000 in
theorem law_cuts (N : Int) (a : Option Addr) (l : List A) (cap : Nat) (s t : Int) (w : World) (sz : l.length * 24 ≤ 140737488351232) (hn0 : a = none → l = [] ∧ cap = 0) (hr : Arcs w a l) (hw : ∀ x, x ∈ l → 0 ≤ x.w ∧ x.w < 4294967296) :
    Calls Try.prog 3 #[.agg #[.int .i64 N, .slice a l.length cap], .int .i64 s, .int .i64 t] w fun e w' => e = .returned (.bool true) ∧ Below w.heap.size w w' := by
  have hb0 : Below w.heap.size w (w.alloc (.cells #[.int .i64 N, .slice a l.length cap] 24)) := (Below.refl _ _).alloc (Nat.le_refl _) _
  have hg := heap_top w (.cells #[.int .i64 N, .slice a l.length cap] 24)
  have hsz : (w.alloc (.cells #[.int .i64 N, .slice a l.length cap] 24)).heap.size = w.heap.size + 1 := by simp
  go_enter Try.func3, Try.ntmps3
  go_wp2_with fail
  generalize w.alloc (.cells #[.int .i64 N, .slice a l.length cap] 24) = W at *
  refine (large_any N a l.length cap W).mono ?_
  rintro e w1 ⟨rfl, hb1⟩
  have hbw1 : Below w.heap.size w w1 := hb0.trans (hb1.mono (by omega))
  have hg1 := (hb1.block w.heap.size (by omega)).trans hg
  obtain ⟨⟨g0, g1⟩, gf0, gf1⟩ := two_cells hg1
  have hw1 := lt_of_block hg1
  cases hlg : decide (400 < l.length ∧ 60 < N) with
  | true =>
    clear hlg
    go_wp2_with fail
    refine (works_any w1).mono ?_
    rintro e w2 ⟨rfl, hb2⟩
    go_wp2_with fail
    go_ret
    exact ⟨rfl, hbw1.trans (hb2.mono (by omega))⟩
  | false =>
    clear hlg hb0 hb1 hg hsz
    go_wp2_with fail
    refine (lent_any N a l cap w1 sz hn0 (hr.on hbw1)).mono ?_
    rintro e w2 ⟨a2, c2, rfl, hOw, hb2⟩
    have hbw2 : Below w.heap.size w w2 := hbw1.trans (hb2.mono (by omega))
    have hg2 := (hb2.block w.heap.size hw1).trans hg1
    have hw2 := lt_of_block hg2
    clear g0 g1 gf0 gf1
    have hbx := heap_top w2 (.cells #[.int .i64 N, .slice a2 l.length c2] 24)
    have hgx := (Below.heap_alloc w2 (.cells #[.int .i64 N, .slice a2 l.length c2] 24) w.heap.size hw2).trans hg2
    have hbw3 : Below w.heap.size w (w2.alloc (.cells #[.int .i64 N, .slice a2 l.length c2] 24)) := hbw2.alloc (by omega) _
    have hA2 := (hOw.alloc (.cells #[.int .i64 N, .slice a2 l.length c2] 24)).arcs
    obtain ⟨⟨bx0, bx1⟩, -⟩ := two_cells hbx
    obtain ⟨⟨g0, g1⟩, -⟩ := two_cells hgx
    go_wp2_with fail
    generalize w2.alloc (.cells #[.int .i64 N, .slice a2 l.length c2] 24) = w3 at *
    generalize hbxe : w2.heap.size = bx at *
    have hgw3 := hgx
    have hxw3 := hbx
    have hbww3 := hbw3
    have hltw3 := lt_of_block hbx
    have HA2 := Lib.hid hA2
    clear hg1 hg2 hgx hbx hbw1 hbw2 hbw3 hb2 hA2 hOw
    obtain ⟨C, HC⟩ := named (chkE N l)
    obtain ⟨T, HT⟩ := named (chkAt N l)
    have hCC : (C != C) = false := by simp
    have hTT : (T != T) = false := by simp
    refine (check_any N a2 l c2 w3 (by omega) HA2.out).mono ?_
    rintro e w4 ⟨rfl, hbw4⟩
    have hbww4 : Below w.heap.size w w4 := hbww3.trans (hbw4.mono (by omega))
    have hgw4 := (hbw4.block w.heap.size (by omega)).trans hgw3
    have hxw4 := (hbw4.block bx (by omega)).trans hxw3
    have hltw4 := lt_of_block hxw4
    clear g0 g1 bx0 bx1
    obtain ⟨⟨g0, g1⟩, -⟩ := two_cells hgw4
    obtain ⟨⟨bx0, bx1⟩, -⟩ := two_cells hxw4
    rw [HC.out, HT.out]
    go_wp2_with fail
    refine (rcheck_any N a l cap w4 (by omega) (hr.on hbww4)).mono ?_
    rintro e w5 ⟨rfl, hbw5⟩
    have hbww5 : Below w.heap.size w w5 := hbww4.trans (hbw5.mono (by omega))
    have hgw5 := (hbw5.block w.heap.size (by omega)).trans hgw4
    have hxw5 := (hbw5.block bx (by omega)).trans hxw4
    have hltw5 := lt_of_block hxw5
    clear g0 g1 bx0 bx1
    obtain ⟨⟨g0, g1⟩, -⟩ := two_cells hgw5
    obtain ⟨⟨bx0, bx1⟩, -⟩ := two_cells hxw5
    rw [HC.out, HT.out]
    have HA5 := Lib.hid ((HA2.out.on hbw4).on hbw5)
    go_wp2_with fail
    by_cases hE : flE N l s t = 0
    · obtain ⟨n, u, v, hO⟩ := flE_ok hE hw
      obtain rfl := hO.hn
      obtain rfl := hO.hs
      obtain rfl := hO.ht
      have HO := Lib.hid hO
      have HE := Lib.hid hE
      have hlen : l.length ≤ 16384 := by have := hO.g.lb; rwa [edl_len] at this
      have hnb : n ≤ 1024 := hO.g.nb
      clear hO hE
      refine (cut_ok n a2 l c2 w5 u v HA5.out HE.out HO.out).mono ?_
      rintro e w6 ⟨fl, rk, bs, ve, rfl, hFl, hRk, hrt, hT, hown, hnil, hbs, hbw6⟩
      have hbww6 : Below w.heap.size w w6 := hbww5.trans (hbw6.mono (by omega))
      have hgw6 := (hbw6.block w.heap.size (by omega)).trans hgw5
      have hxw6 := (hbw6.block bx (by omega)).trans hxw5
      have hltw6 := lt_of_block hxw6
      clear g0 g1 bx0 bx1
      obtain ⟨⟨g0, g1⟩, -⟩ := two_cells hgw6
      obtain ⟨⟨bx0, bx1⟩, -⟩ := two_cells hxw6
      have HA6 := Lib.hid (HA5.out.on hbw6)
      have HRC := Lib.hid (rcut_ok n a l cap w6 u v (hr.on hbww6) HE.out HO.out)
      obtain ⟨V, HV⟩ := named (net (edl l) fl u (edl l).length)
      have hV2 : (V != V) = false := by simp
      rw [HV.out]
      have HFL := Lib.hid hFl
      have HRK := Lib.hid hRk
      have HRT := Lib.hid hrt
      have HTS := Lib.hid hT
      have HOW := Lib.hid hown
      have HHL := Lib.hid (hits_len (outQ (edl l) (side rk)) l.length)
      obtain ⟨ys, HYS⟩ := named (hits (outQ (edl l) (side rk)) l.length)
      rw [HYS.out] at HOW HHL
      clear hFl hRk hrt hT hown hnil
      go_wp2_with fail
      refine (HRC.out).mono ?_
      rintro e w7 ⟨fl2, rk2, bs2, ve2, rfl, hFl2, hRk2, hrt2, hT2, hri2, hbw7⟩
      have hbww7 : Below w.heap.size w w7 := hbww6.trans (hbw7.mono (by omega))
      have hgw7 := (hbw7.block w.heap.size (by omega)).trans hgw6
      have hxw7 := (hbw7.block bx (by omega)).trans hxw6
      have hltw7 := lt_of_block hxw7
      clear g0 g1 bx0 bx1
      obtain ⟨⟨g0, g1⟩, -⟩ := two_cells hgw7
      obtain ⟨⟨bx0, bx1⟩, -⟩ := two_cells hxw7
      have HA7 := Lib.hid (HA6.out.on hbw7)
      have hsame := ((HRK.out.stop HFL.out (edl_len l) HRT.out).same (hRk2.stop hFl2 (edl_len l) hrt2) HO.out.g HO.out.un).1
      rw [show net (edl l) fl2 u (edl l).length = V from hsame.symm.trans HV.out]
      have hside := Rk.both HO.out.g HO.out.un (edl_len l) (by have := HO.out.g.steps; rwa [edl_len] at this) HRK.out hRk2 HFL.out hFl2 HRT.out hrt2
      have hhit : hits (outQ (edl l) (side rk2)) l.length = hits (outQ (edl l) (side rk)) l.length := hits_congr l.length (fun j hj => by
        have h1 := HO.out.g.ends j (by rw [edl_len]; exact hj)
        unfold outQ
        rw [hside _ h1.1, hside _ h1.2])
      rw [hhit, HYS.out] at hri2
      have HSD := Lib.hid hside
      have HT2 := Lib.hid hT2
      have HRI2 := Lib.hid hri2
      have HTS7 := Lib.hid (HTS.out.same (hbw7.block bs HTS.out.lt))
      have HOW7 := Lib.hid (own_on2 HOW.out hbw7)
      clear hFl2 hRk2 hrt2 hT2 hri2 hsame hside hhit
      go_wp2_with fail
      refine (sameBools_any bs bs2 n (side rk) (side rk2) w7 (by omega) HTS7.out HT2.out HSD.out).mono ?_
      rintro e w8 ⟨rfl, hbw8⟩
      have hbww8 : Below w.heap.size w w8 := hbww7.trans (hbw8.mono (by omega))
      have hgw8 := (hbw8.block w.heap.size (by omega)).trans hgw7
      have hxw8 := (hbw8.block bx (by omega)).trans hxw7
      have hltw8 := lt_of_block hxw8
      clear g0 g1 bx0 bx1
      obtain ⟨⟨g0, g1⟩, -⟩ := two_cells hgw8
      obtain ⟨⟨bx0, bx1⟩, -⟩ := two_cells hxw8
      go_wp2_with fail
      refine (sameInts_any ve ve2 ys w8 (Nat.le_trans HHL.out hlen) ((Ri.of HOW7.out).on hbw8) (HRI2.out.on hbw8)).mono ?_
      rintro e w9 ⟨rfl, hbw9⟩
      have hbww9 : Below w.heap.size w w9 := hbww8.trans (hbw9.mono (by omega))
      have hgw9 := (hbw9.block w.heap.size (by omega)).trans hgw8
      have hxw9 := (hbw9.block bx (by omega)).trans hxw8
      have hltw9 := lt_of_block hxw9
      clear g0 g1 bx0 bx1
      obtain ⟨⟨g0, g1⟩, -⟩ := two_cells hgw9
      obtain ⟨⟨bx0, bx1⟩, -⟩ := two_cells hxw9
      have HTS9 := Lib.hid ((HTS7.out.same (hbw8.block bs HTS7.out.lt)).same (hbw9.block bs (by have := HTS7.out.lt; have := hbw8.size; omega)))
      have HOW9 := Lib.hid (own_on2 (own_on2 HOW7.out hbw8) hbw9)
      have HA9 := Lib.hid ((HA7.out.on hbw8).on hbw9)
      go_wp2_with fail
      refine (spoilBools_some bs n w9 (by omega) (side rk) HTS9.out).mono ?_
      rintro e w10 ⟨rfl, hfr10⟩
      have hb10 : Below w5.heap.size w9 w10 := hfr10.below (by have h1 := hbw6.size; have h2 := hbw7.size; have h3 := hbw8.size; have h4 := hbw9.size; omega) (fun k h => by rw [h]; exact hbs)
      have HOW10 : Hid (w10.ownsRow (bs + 1) 3 1 ve ys.length (cellsI ys)) := own_fr HOW9.out hfr10
      go_wp2_with fail
      refine (spoilInts_any ve ys (bs + 1) (-7) w10 HOW10.out).mono ?_
      rintro e w11 ⟨rfl, hb11⟩
      have hb11' : Below w5.heap.size w9 w11 := hb10.trans (hb11.mono (by omega))
      have hbww11 : Below w.heap.size w w11 := hbww9.trans (hb11'.mono (by omega))
      have hgw11 := (hb11'.block w.heap.size (by omega)).trans hgw9
      have hxw11 := (hb11'.block bx (by omega)).trans hxw9
      have hltw11 := lt_of_block hxw11
      have HA11 := Lib.hid (arcs_base HA5.out hb11' ((((hbw6.trans (hbw7.mono hbw6.size)).trans (hbw8.mono (Nat.le_trans hbw6.size hbw7.size))).trans (hbw9.mono (Nat.le_trans (Nat.le_trans hbw6.size hbw7.size) hbw8.size)))))
      clear g0 g1 bx0 bx1
      obtain ⟨⟨g0, g1⟩, -⟩ := two_cells hgw11
      obtain ⟨⟨bx0, bx1⟩, -⟩ := two_cells hxw11
      go_wp2_with fail
      refine (sameNet_any n a a2 l cap c2 w11 (by omega) (hr.on hbww11) HA11.out).mono ?_
      rintro e w12 ⟨rfl, hbw12⟩
      have hbww12 : Below w.heap.size w w12 := hbww11.trans (hbw12.mono (by omega))
      have hgw12 := (hbw12.block w.heap.size (by omega)).trans hgw11
      have hxw12 := (hbw12.block bx (by omega)).trans hxw11
      have hltw12 := lt_of_block hxw12
      clear g0 g1 bx0 bx1
      obtain ⟨⟨g0, g1⟩, -⟩ := two_cells hgw12
      obtain ⟨⟨bx0, bx1⟩, -⟩ := two_cells hxw12
      go_wp2_with fail
      refine (works_any w12).mono ?_
      rintro e w13 ⟨rfl, hbw13⟩
      have hbww13 : Below w.heap.size w w13 := hbww12.trans (hbw13.mono (by omega))
      have hgw13 := (hbw13.block w.heap.size (by omega)).trans hgw12
      have hxw13 := (hbw13.block bx (by omega)).trans hxw12
      have hltw13 := lt_of_block hxw13
      clear g0 g1 bx0 bx1
      obtain ⟨⟨g0, g1⟩, -⟩ := two_cells hgw13
      obtain ⟨⟨bx0, bx1⟩, -⟩ := two_cells hxw13
      go_wp2_with fail
      go_ret
      exact ⟨rfl, hbww13⟩
    · refine (cut_bad N a2 l c2 w5 s t (by omega) HA5.out hE).mono ?_
      rintro e w6 ⟨rfl, hbw6⟩
      have hbww6 : Below w.heap.size w w6 := hbww5.trans (hbw6.mono (by omega))
      have hgw6 := (hbw6.block w.heap.size (by omega)).trans hgw5
      have hxw6 := (hbw6.block bx (by omega)).trans hxw5
      have hltw6 := lt_of_block hxw6
      clear g0 g1 bx0 bx1
      obtain ⟨⟨g0, g1⟩, -⟩ := two_cells hgw6
      obtain ⟨⟨bx0, bx1⟩, -⟩ := two_cells hxw6
      have HA6 := Lib.hid (HA5.out.on hbw6)
      have HBD := Lib.hid (rcut_bad N a l cap w6 s t (by omega) (hr.on hbww6) hE)
      generalize hEE : flE N l s t = E at *
      have e1 : (E != E) = false := by simp
      clear hE hEE
      go_wp2_with fail
      refine (HBD.out).mono ?_
      rintro e w7 ⟨rfl, hbw7⟩
      have hbww7 : Below w.heap.size w w7 := hbww6.trans (hbw7.mono (by omega))
      have hgw7 := (hbw7.block w.heap.size (by omega)).trans hgw6
      have hxw7 := (hbw7.block bx (by omega)).trans hxw6
      have hltw7 := lt_of_block hxw7
      clear g0 g1 bx0 bx1
      obtain ⟨⟨g0, g1⟩, -⟩ := two_cells hgw7
      obtain ⟨⟨bx0, bx1⟩, -⟩ := two_cells hxw7
      have HA7 := Lib.hid (HA6.out.on hbw7)
      go_wp2_with fail
      refine (sameBools_none w7).mono ?_
      rintro e w8 ⟨rfl, rfl⟩
      go_wp2_with fail
      refine (sameInts_any (.slice none 0 0) (.slice none 0 0) [] w8 (by simp) ⟨none, 0, rfl, .inl rfl⟩ ⟨none, 0, rfl, .inl rfl⟩).mono ?_
      rintro e w9 ⟨rfl, hbw9⟩
      have hbww9 : Below w.heap.size w w9 := hbww7.trans (hbw9.mono (by omega))
      have hgw9 := (hbw9.block w.heap.size (by omega)).trans hgw7
      have hxw9 := (hbw9.block bx (by omega)).trans hxw7
      have hltw9 := lt_of_block hxw9
      clear g0 g1 bx0 bx1
      obtain ⟨⟨g0, g1⟩, -⟩ := two_cells hgw9
      obtain ⟨⟨bx0, bx1⟩, -⟩ := two_cells hxw9
      go_wp2_with fail
      refine (spoilBools_none w9).mono ?_
      rintro e w10 ⟨rfl, rfl⟩
      go_wp2_with fail
      refine (spoilInts_none (-7) w10).mono ?_
      rintro e w11 ⟨rfl, rfl⟩
      go_wp2_with fail
      refine (sameNet_any N a a2 l cap c2 w11 (by omega) (hr.on hbww9) (HA7.out.on hbw9)).mono ?_
      rintro e w12 ⟨rfl, hbw12⟩
      have hbww12 : Below w.heap.size w w12 := hbww9.trans (hbw12.mono (by omega))
      have hgw12 := (hbw12.block w.heap.size (by omega)).trans hgw9
      have hxw12 := (hbw12.block bx (by omega)).trans hxw9
      have hltw12 := lt_of_block hxw12
      clear g0 g1 bx0 bx1
      obtain ⟨⟨g0, g1⟩, -⟩ := two_cells hgw12
      obtain ⟨⟨bx0, bx1⟩, -⟩ := two_cells hxw12
      go_wp2_with fail
      refine (works_any w12).mono ?_
      rintro e w13 ⟨rfl, hbw13⟩
      have hbww13 : Below w.heap.size w w13 := hbww12.trans (hbw13.mono (by omega))
      have hgw13 := (hbw13.block w.heap.size (by omega)).trans hgw12
      have hxw13 := (hbw13.block bx (by omega)).trans hxw12
      have hltw13 := lt_of_block hxw13
      clear g0 g1 bx0 bx1
      obtain ⟨⟨g0, g1⟩, -⟩ := two_cells hgw13
      obtain ⟨⟨bx0, bx1⟩, -⟩ := two_cells hxw13
      go_wp2_with fail
      go_ret
      exact ⟨rfl, hbww13⟩
end Go.Proofs.Ytcomkdjngchmkaa
