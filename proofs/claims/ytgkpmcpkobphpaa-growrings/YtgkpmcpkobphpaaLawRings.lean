/-
  GrowRings holds.
-/
import Derived.Test.YtgkpmcpkobphpaaWorks
import Derived.Test.YtgkpmcpkobphpaaLarge
import Derived.Test.YtgkpmcpkobphpaaOrder
import Derived.Test.YtgkpmcpkobphpaaRRing
import Derived.Test.YtgkpmcpkobphpaaRWh
import Derived.Test.YtgkpmcpkobphpaaLendJ
import Derived.Test.YtgkpmcpkobphpaaLawRegions
namespace Go.Proofs.Ytgkpmcpkobphpaa
open Go.RowKit
set_option maxRecDepth 100000 in
set_option maxHeartbeats 1600000 in
theorem rings_any (N : Int) (a : Option Addr) (l : List A) (cap : Nat) (ax : Option Addr) (xs : List Int) (cx : Nat) (w : World) (hlen : l.length * 24 ≤ 140737488351232) (hna : a = none → l = [] ∧ cap = 0) (hr : Arcs w a l) (hlx : xs.length * 8 ≤ 140737488351232) (hnx : ax = none → xs = [] ∧ cx = 0) (hrx : Ints w ax xs) :
    Calls Try.prog 4 #[.agg #[.int .i64 N, .slice a l.length cap], .slice ax xs.length cx] w fun e w' => e = .returned (.bool true) ∧ Below w.heap.size w w' := by
  have HIX := Lib.hid hrx
  have HNX := Lib.hid hnx
  clear hrx hnx
  have hl : l.length ≤ 9223372036854775807 := by omega
  have hb0 : Below w.heap.size w (w.alloc (.cells #[.int .i64 N, .slice a l.length cap] 24)) := (Below.refl _ _).alloc (Nat.le_refl _) _
  have hg := heap_top w (.cells #[.int .i64 N, .slice a l.length cap] 24)
  have HAR := Lib.hid hr
  have HNA := Lib.hid hna
  clear hr hna
  generalize hp : w.heap.size = p at *
  go_enter Try.func4, Try.ntmps4
  go_wp2_with fail
  generalize hW : w.alloc (.cells #[.int .i64 N, .slice a l.length cap] 24) = W at *
  refine (large_any N a l.length cap W hl).mono ?_
  rintro e w1 ⟨rfl, hb1⟩
  have hg1 := (hb1.block _ (lt_of_block hg)).trans hg
  have HB1 := Lib.hid (below_tr hb0 hp hb1)
  obtain ⟨⟨g0, g1⟩, _⟩ := two_cells hg1
  clear hb1 hg hb0 hW
  by_cases hla : 200 < N ∧ 500 < l.length
  · rw [decide_eq_true hla]
    go_wp2_with fail
    refine (works_any w1).mono ?_
    rintro e w2 ⟨rfl, hb2⟩
    have HB2 := Lib.hid (below_tr HB1.out hp hb2)
    clear hb2
    go_wp2_with fail
    go_ret
    exact ⟨rfl, HB2.out⟩
  · rw [decide_eq_false hla]
    have HA1 : Hid (Arcs w1 a l) := HAR.out.on (by rw [hp]; exact HB1.out)
    go_wp2_with fail
    refine (lend_any N a l cap w1 hlen HNA.out HA1.out).mono ?_
    rintro e w2 ⟨g, cg, rfl, hcg1, hcg2, hown, hb2⟩
    have HST := Lib.hid (still_own hown)
    have HB2 := Lib.hid (below_tr HB1.out hp hb2)
    have hg2 := (hb2.block _ (lt_of_block hg1)).trans hg1
    have HB2' := HB2
    clear hown hb2 g0 g1
    obtain ⟨⟨g0, g1⟩, _⟩ := two_cells hg2
    go_wp2_with fail
    refine (lendI_any ax xs cx w2 hlx HNX.out (HIX.out.on (by rw [hp]; exact HB2.out))).mono ?_
    rintro e w2b ⟨gi, ci, rfl, hci1, hci2, howni, hb2b⟩
    have HSI := Lib.hid (stillI_own howni)
    have HSTb := Lib.hid (HST.out.on hb2b)
    have HB2b := Lib.hid (below_tr HB2.out hp hb2b)
    have hg2b := (hb2b.block _ (lt_of_block hg2)).trans hg2
    have hb23 : Below w2b.heap.size w2b (w2b.alloc (.cells #[.int .i64 N, .slice (some ⟨g, 0, none⟩) l.length cg] 24)) := (Below.refl _ _).alloc (Nat.le_refl _) _
    have hi3 := heap_top w2b (.cells #[.int .i64 N, .slice (some ⟨g, 0, none⟩) l.length cg] 24)
    have HB3 := Lib.hid (below_tr HB2b.out hp hb23)
    have HS3 := Lib.hid (HSTb.out.on hb23)
    have HSI3 := Lib.hid (HSI.out.on hb23)
    have hg3 := (hb23.block _ (lt_of_block hg2b)).trans hg2b
    obtain ⟨⟨y0, y1⟩, _⟩ := two_cells hi3
    clear howni hb2b g0 g1 hb23
    go_wp2_with fail
    generalize hw3 : w2b.alloc (.cells #[.int .i64 N, .slice (some ⟨g, 0, none⟩) l.length cg] 24) = w3 at *
    generalize hri : w2b.heap.size = r at *
    clear hw3
    refine (ring_any N (some ⟨g, 0, none⟩) (some ⟨gi, 0, none⟩) l xs cg ci w3 hl HS3.out.arcs (by omega) HSI3.out.ints).mono ?_
    rintro e w4 ⟨v1, xs1, rfl, hown1, hx1, hb4⟩
    obtain ⟨a1, c1, rfl⟩ := own_slice hown1
    have HB4 := Lib.hid (below_tr HB3.out hp hb4)
    have hg4 := (hb4.block _ (lt_of_block hg3)).trans hg3
    have hi4 := (hb4.block _ (lt_of_block hi3)).trans hi3
    obtain ⟨⟨z0, z1⟩, _⟩ := two_cells hg4
    have HO1 := Lib.hid hown1
    have HS4 := Lib.hid (HS3.out.on hb4)
    have HL3 : Hid (Below w3.heap.size w3 w4) := hb4
    obtain ⟨E, HE⟩ := named (ringE N l xs)
    rw [HE.out] at hx1 ⊢
    have HX1 := Lib.hid hx1
    clear hown1 hb4 y0 y1 hx1
    go_wp2_with fail
    refine (rring_any N a ax l xs cap cx w4 hl (HAR.out.on (by rw [hp]; exact HB4.out)) (by omega) (HIX.out.on (by rw [hp]; exact HB4.out))).mono ?_
    rintro e w5 ⟨v2, xs2, rfl, hown2, hx2, hb5⟩
    obtain ⟨a2, c2, rfl⟩ := own_slice hown2
    have HB5 := Lib.hid (below_tr HB4.out hp hb5)
    have hg5 := (hb5.block _ (lt_of_block hg4)).trans hg4
    have hi5 := (hb5.block _ (lt_of_block hi4)).trans hi4
    obtain ⟨⟨y0, y1⟩, _⟩ := two_cells hi5
    rw [HE.out] at hx2 ⊢
    obtain rfl : xs2 = xs1 := hx2.trans HX1.out.symm
    have HO1b := Lib.hid (own_on HO1.out hb5)
    have HI2 := Lib.hid (own_ints hown2 rfl)
    have HS5 := Lib.hid (HS4.out.on hb5)
    have HL5 : Hid (Below w3.heap.size w3 w5) := HL3.out.trans (hb5.mono HL3.out.size)
    clear hown2 hb5 z0 z1 hx2
    go_wp2_with fail
    refine (order_any N (some ⟨g, 0, none⟩) l cg w5 hl HS5.out.arcs).mono ?_
    rintro e w6 ⟨v3, xs3, rfl, hown3, hx3, hb6⟩
    obtain ⟨a3, c3, rfl⟩ := own_slice hown3
    have HB6 := Lib.hid (below_tr HB5.out hp hb6)
    have hg6 := (hb6.block _ (lt_of_block hg5)).trans hg5
    have hi6 := (hb6.block _ (lt_of_block hi5)).trans hi5
    obtain ⟨⟨z0, z1⟩, _⟩ := two_cells hg6
    obtain ⟨C, HC⟩ := named (chkE N l)
    rw [HC.out] at hx3 ⊢
    have HX3 := Lib.hid hx3
    have HO1c := Lib.hid (own_on HO1b.out hb6)
    have HI2b := Lib.hid (HI2.out.on hb6)
    have HO3 := Lib.hid hown3
    have HS6 := Lib.hid (HS5.out.on hb6)
    have HL6 : Hid (Below w3.heap.size w3 w6) := HL5.out.trans (hb6.mono HL5.out.size)
    have hz5 : w3.heap.size ≤ w5.heap.size := HL5.out.size
    clear hown3 hb6 y0 y1 hx3
    go_wp2_with fail
    refine (rorder_any N a l cap w6 hl (HAR.out.on (by rw [hp]; exact HB6.out))).mono ?_
    rintro e w7 ⟨v4, xs4, rfl, hown4, hx4, hb7⟩
    obtain ⟨a4, c4, rfl⟩ := own_slice hown4
    have HB7 := Lib.hid (below_tr HB6.out hp hb7)
    have hg7 := (hb7.block _ (lt_of_block hg6)).trans hg6
    have hi7 := (hb7.block _ (lt_of_block hi6)).trans hi6
    rw [HC.out] at hx4 ⊢
    obtain rfl : xs4 = xs3 := hx4.trans HX3.out.symm
    have HO1d := Lib.hid (own_on HO1c.out hb7)
    have HO3b := Lib.hid (own_on HO3.out hb7)
    have HI2c := Lib.hid (HI2b.out.on hb7)
    have HI4 := Lib.hid (own_ints hown4 rfl)
    have HS7 := Lib.hid (HS6.out.on hb7)
    have HL7 : Hid (Below w3.heap.size w3 w7) := HL6.out.trans (hb7.mono HL6.out.size)
    have hEE : (E != E) = false := by simp
    have hCC : (C != C) = false := by simp
    clear hown4 hb7 z0 z1 hx4
    go_wp2_with fail
    refine (sameN_any a1 a2 c1 c2 xs2 w7 (own_small HO1d.out) (own_ints HO1d.out rfl) HI2c.out).mono ?_
    rintro e w8 ⟨rfl, hb8⟩
    have HB8 := Lib.hid (below_tr HB7.out hp hb8)
    have HO1e := Lib.hid (own_on HO1d.out hb8)
    have HO3c := Lib.hid (own_on HO3b.out hb8)
    have HI4b := Lib.hid (HI4.out.on hb8)
    have HL8 : Hid (Below w3.heap.size w3 w8) := HL7.out.trans (hb8.mono HL7.out.size)
    clear hb8
    go_wp2_with fail
    refine (sameN_any a3 a4 c3 c4 xs4 w8 (own_small HO3c.out) (own_ints HO3c.out rfl) HI4b.out).mono ?_
    rintro e w9 ⟨rfl, hb9⟩
    have HB9 := Lib.hid (below_tr HB8.out hp hb9)
    have HO1f := Lib.hid (own_on HO1e.out hb9)
    have HO3d := Lib.hid (own_base (own_on HO3c.out hb9) hz5)
    have HL9 : Hid (Below w3.heap.size w3 w9) := HL8.out.trans (hb9.mono HL8.out.size)
    clear hb9
    go_wp2_with fail
    refine (spoilInts_gen a1 xs2.length c1 w3.heap.size (-7) _ w9 HO1f.out).mono ?_
    rintro e w10 ⟨rfl, hb10, hrow⟩
    obtain ⟨ys, hy⟩ := hrow _ _ _ _ _ _ HO3d.out
    have HYS := Lib.hid hy
    have HL10 : Hid (Below w3.heap.size w3 w10) := HL9.out.trans hb10
    clear hb10 hrow hy
    go_wp2_with fail
    refine (spoilInts_gen a3 xs4.length c3 w3.heap.size (-8) ys w10 HYS.out).mono ?_
    rintro e w11 ⟨rfl, hb11, _⟩
    have HL11 : Hid (Below w3.heap.size w3 w11) := HL10.out.trans hb11
    have HB11 : Hid (Below p w w11) := HB3.out.trans (HL11.out.mono (hp ▸ HB3.out.size))
    have hg11 := (HL11.out.block _ (lt_of_block hg3)).trans hg3
    have hi11 := (HL11.out.block _ (lt_of_block hi3)).trans hi3
    obtain ⟨⟨z0, z1⟩, _⟩ := two_cells hg11
    obtain ⟨⟨y0, y1⟩, _⟩ := two_cells hi11
    clear hb11
    go_wp2_with fail
    refine (kept_any N g cg a l cap w11 hlen hcg1 hcg2 (HS3.out.on HL11.out) (HAR.out.on (by rw [hp]; exact HB11.out))).mono ?_
    rintro e w12 ⟨rfl, hb12⟩
    have HB12 := Lib.hid (below_tr HB11.out hp hb12)
    have HI12 := Lib.hid (HIX.out.on (show Below w.heap.size w w12 by rw [hp]; exact HB12.out))
    have HSI12 := Lib.hid ((HSI3.out.on HL11.out).on hb12)
    clear hb12
    go_wp2_with fail
    refine (keptI_any gi ci ax xs cx w12 hlx hci1 HSI12.out HI12.out).mono ?_
    rintro e w12b ⟨rfl, hb12b⟩
    have HB12b := Lib.hid (below_tr HB12.out hp hb12b)
    clear hb12b
    go_wp2_with fail
    refine (works_any w12b).mono ?_
    rintro e w13 ⟨rfl, hb13⟩
    have HB13 := Lib.hid (below_tr HB12b.out hp hb13)
    clear hb13
    go_wp2_with fail
    go_ret
    exact ⟨rfl, HB13.out⟩
end Go.Proofs.Ytgkpmcpkobphpaa
