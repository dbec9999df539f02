/-
  SplitJoins holds.
-/
import Derived.Test.YtchfccbneedejaaZAN
import Derived.Test.YtchfccbneedejaaZDC
import Derived.Test.YtchfccbneedejaaZAQ
import Derived.Test.YtchfccbneedejaaZDD
namespace Go.Proofs.Ytchfccbneedejaa
open Go.RowKit
theorem below_tr {p : Nat} {w w1 w2 : World} (h : Below p w w1) (hp : w.heap.size = p) (h2 : Below w1.heap.size w1 w2) : Below p w w2 := h.trans (h2.mono (hp ▸ h.size))
theorem own_small {w : World} {B : Nat} {e : TypeId} {size : Nat} {a : Option Addr} {n c : Nat} {xs : List Value} (h : w.ownsRow B e size (.slice a n c) n xs) : n ≤ 9223372036854775807 := by
  rcases h.2 with ⟨_, h0⟩ | ⟨g, c', cur, h', hb, hg, hnc, hm, _⟩
  · omega
  · unfold maxLen at hm; omega
theorem sameN_any (a a' : Option Addr) (cap cap' : Nat) (xs : List Nat) (w : World) (hlen : xs.length ≤ 9223372036854775807) (hr : Ints w a (ints xs)) (hr' : Ints w a' (ints xs)) :
    Calls Try.prog 16 #[.slice a xs.length cap, .slice a' xs.length cap'] w fun e w' => e = .returned (.bool true) ∧ Below w.heap.size w w' := by
  have h := sameInts_any a a' cap cap' (ints xs) w (by rw [ints_len]; exact hlen) hr hr'
  rw [ints_len] at h
  exact h
set_option maxRecDepth 100000 in
set_option maxHeartbeats 3200000 in
theorem joins_any (N : Int) (a : Option Addr) (l : List A) (cap : Nat) (ax : Option Addr) (xs : List Int) (cx : Nat) (bd : Int) (w : World) (hlen : l.length * 24 ≤ 140737488351232) (hna : a = none → l = [] ∧ cap = 0) (hr : Arcs w a l) (hlx : xs.length * 8 ≤ 140737488351232) (hnx : ax = none → xs = [] ∧ cx = 0) (hrx : Ints w ax xs) :
    Calls Try.prog 4 #[.agg #[.int .i64 N, .slice a l.length cap], .slice ax xs.length cx, .int .i64 bd] w fun e w' => e = .returned (.bool true) ∧ Below w.heap.size w w' := by
  have HIX := Lib.hid hrx
  have HNX := Lib.hid hnx
  clear hrx hnx
  have hl : l.length ≤ 9223372036854775807 := by omega
  have hml : xs.length ≤ 9223372036854775807 := by omega
  have hb0 : Below w.heap.size w (w.alloc (.cells #[.int .i64 N, .slice a l.length cap] 24)) := (Below.refl _ _).alloc (Nat.le_refl _) _
  have hg := heap_top w (.cells #[.int .i64 N, .slice a l.length cap] 24)
  have HAR := Lib.hid hr
  have HNA := Lib.hid hna
  clear hna
  have HA0 := Lib.hid (hr.on hb0)
  clear hr
  generalize hp : w.heap.size = p at *
  go_enter Try.func4, Try.ntmps4
  go_wp2_with fail
  generalize hW : w.alloc (.cells #[.int .i64 N, .slice a l.length cap] 24) = W at *
  refine (large_any N a l cap W hl HA0.out).mono ?_
  rintro e w1 ⟨rfl, hb1⟩
  have hg1 := (hb1.block _ (lt_of_block hg)).trans hg
  have HB1 := Lib.hid (below_tr hb0 hp hb1)
  obtain ⟨⟨g0, g1⟩, _⟩ := two_cells hg1
  clear hb1 hg hb0 hW HA0
  obtain ⟨V, HV⟩ := named (lgB N l)
  rw [HV.out]
  cases V
  · have HA1 : Hid (Arcs w1 a l) := HAR.out.on (by rw [hp]; exact HB1.out)
    go_wp2_with fail
    refine (lend_any N a l cap w1 hlen HNA.out HA1.out).mono ?_
    rintro e w2 ⟨g, cg, rfl, hcg1, hcg2, hown, hb2⟩
    have HST := Lib.hid (still_own hown)
    have HB2 := Lib.hid (below_tr HB1.out hp hb2)
    have hg2 := (hb2.block _ (lt_of_block hg1)).trans hg1
    clear hown hb2 g0 g1
    obtain ⟨⟨g0, g1⟩, _⟩ := two_cells hg2
    go_wp2_with fail
    refine (lendI_any ax xs cx w2 hlx HNX.out (HIX.out.on (by rw [hp]; exact HB2.out))).mono ?_
    rintro e w2b ⟨gi, ci, rfl, hci1, hci2, howni, hb2b⟩
    have HSI := Lib.hid (stillI_own howni)
    have HSTb := Lib.hid (HST.out.on hb2b)
    have HB2b := Lib.hid (below_tr HB2.out hp hb2b)
    have hg2b := (hb2b.block _ (lt_of_block hg2)).trans hg2
    have hb23 : Below w2b.heap.size w2b (w2b.alloc (.cells #[.int .i64 N, .slice (some ⟨g, 0, none⟩) l.length cg] 24)) := (Below.refl _ _).alloc (Nat.le_refl _) _
    have hi3 := heap_top w2b (.cells #[.int .i64 N, .slice (some ⟨g, 0, none⟩) l.length cg] 24)
    have HB3 := Lib.hid (below_tr HB2b.out hp hb23)
    have HS3 := Lib.hid (HSTb.out.on hb23)
    have HSI3 := Lib.hid (HSI.out.on hb23)
    have hg3 := (hb23.block _ (lt_of_block hg2b)).trans hg2b
    obtain ⟨⟨y0, y1⟩, _⟩ := two_cells hi3
    clear howni hb2b g0 g1 hb23
    go_wp2_with fail
    generalize hw3 : w2b.alloc (.cells #[.int .i64 N, .slice (some ⟨g, 0, none⟩) l.length cg] 24) = w3 at *
    generalize hri : w2b.heap.size = r at *
    clear hw3
    refine (join_all N (some ⟨g, 0, none⟩) l cg (some ⟨gi, 0, none⟩) xs ci bd w3 hl hml HS3.out.arcs HSI3.out.ints).mono ?_
    rintro e w4 ⟨a1, c1, xs1, rfl, hown1, hx1, hb4⟩
    have HB4 := Lib.hid (below_tr HB3.out hp hb4)
    have hg4 := (hb4.block _ (lt_of_block hg3)).trans hg3
    obtain ⟨⟨z0, z1⟩, _⟩ := two_cells hg4
    have HO1 := Lib.hid hown1
    have HL3 : Hid (Below w3.heap.size w3 w4) := hb4
    have HX1 := Lib.hid hx1.out
    have HRJ := Lib.hid (rjoin_any N a l cap ax xs cx bd xs1 w4 HX1.out hl hml (HAR.out.on (by rw [hp]; exact HB4.out)) (HIX.out.on (by rw [hp]; exact HB4.out)))
    obtain ⟨E, HE⟩ := named (jnE N l xs bd)
    rw [HE.out] at HRJ ⊢
    clear hown1 hb4 y0 y1 hx1
    go_wp2_with fail
    refine HRJ.out.mono ?_
    rintro e w5 ⟨a2, c2, rfl, hown2, hb5⟩
    have HO1b := Lib.hid (own_on HO1.out hb5)
    have HI2 := Lib.hid (own_ints hown2 rfl)
    have HL5 : Hid (Below w3.heap.size w3 w5) := HL3.out.trans (hb5.mono HL3.out.size)
    have hEE : (E != E) = false := by simp
    clear hown2 hb5 z0 z1 HRJ
    go_wp2_with fail
    refine (sameN_any a1 a2 c1 c2 xs1 w5 (own_small HO1b.out) (own_ints HO1b.out rfl) HI2.out).mono ?_
    rintro e w8 ⟨rfl, hb8⟩
    have HO1f := Lib.hid (own_on HO1b.out hb8)
    have HL8 : Hid (Below w3.heap.size w3 w8) := HL5.out.trans (hb8.mono HL5.out.size)
    clear hb8
    go_wp2_with fail
    refine (spoilInts_gen a1 xs1.length c1 w3.heap.size (-7) _ w8 HO1f.out).mono ?_
    rintro e w11 ⟨rfl, hb11, _⟩
    have HL11 : Hid (Below w3.heap.size w3 w11) := HL8.out.trans hb11
    have HB11 : Hid (Below p w w11) := HB3.out.trans (HL11.out.mono (hp ▸ HB3.out.size))
    have hg11 := (HL11.out.block _ (lt_of_block hg3)).trans hg3
    have hi11 := (HL11.out.block _ (lt_of_block hi3)).trans hi3
    obtain ⟨⟨z0, z1⟩, _⟩ := two_cells hg11
    obtain ⟨⟨y0, y1⟩, _⟩ := two_cells hi11
    clear hb11
    go_wp2_with fail
    refine (kept_any N g cg a l cap w11 hlen hcg1 hcg2 (HS3.out.on HL11.out) (HAR.out.on (by rw [hp]; exact HB11.out))).mono ?_
    rintro e w12 ⟨rfl, hb12⟩
    have HB12 := Lib.hid (below_tr HB11.out hp hb12)
    have HI12 := Lib.hid (HIX.out.on (show Below w.heap.size w w12 by rw [hp]; exact HB12.out))
    have HSI12 := Lib.hid ((HSI3.out.on HL11.out).on hb12)
    clear hb12
    go_wp2_with fail
    refine (keptI_any gi ci ax xs cx w12 hlx hci1 HSI12.out HI12.out).mono ?_
    rintro e w12b ⟨rfl, hb12b⟩
    have HB12b := Lib.hid (below_tr HB12.out hp hb12b)
    clear hb12b
    go_wp2_with fail
    refine (works_any w12b).mono ?_
    rintro e w13 ⟨rfl, hb13⟩
    have HB13 := Lib.hid (below_tr HB12b.out hp hb13)
    clear hb13
    go_wp2_with fail
    go_ret
    exact ⟨rfl, HB13.out⟩
  · go_wp2_with fail
    refine (works_any w1).mono ?_
    rintro e w2 ⟨rfl, hb2⟩
    have HB2 := Lib.hid (below_tr HB1.out hp hb2)
    clear hb2
    go_wp2_with fail
    go_ret
    exact ⟨rfl, HB2.out⟩
end Go.Proofs.Ytchfccbneedejaa
