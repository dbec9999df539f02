/-
  LocalImproves holds.
-/
import Derived.Test.YtgpaoiddjlpcmaaZDB
import Derived.Test.YtgpaoiddjlpcmaaZAQ
import Derived.Test.YtgpaoiddjlpcmaaZAR
import Derived.Test.YtgpaoiddjlpcmaaZDA
import Derived.Test.YtgpaoiddjlpcmaaZDC
namespace Go.Proofs.Ytgpaoiddjlpcmaa.Improves
open Go.RowKit Go.Maps
theorem below_tr {p : Nat} {w w1 w2 : World} (h : Below p w w1) (hp : w.heap.size = p) (h2 : Below w1.heap.size w1 w2) : Below p w w2 := h.trans (h2.mono (hp ▸ h.size))
theorem four_cells {w : World} {b : Nat} {x0 x1 x2 x3 : Value} {t : TypeId} (h : w.heap[b]? = some (.cells #[x0, x1, x2, x3] t)) : w.cell? ⟨b, 0, none⟩ = some x0 ∧ w.cell? ⟨b, 1, none⟩ = some x1 ∧ w.cell? ⟨b, 2, none⟩ = some x2 ∧ w.cell? ⟨b, 3, none⟩ = some x3 := ⟨by simp [World.cell?, h], by simp [World.cell?, h], by simp [World.cell?, h], by simp [World.cell?, h]⟩
theorem sameN_any (a a' : Option Addr) (cap cap' : Nat) (xs : List Nat) (w : World) (hlen : xs.length ≤ 9223372036854775807) (hr : Ints w a (ints xs)) (hr' : Ints w a' (ints xs)) :
    Calls Try.prog 20 #[.slice a xs.length cap, .slice a' xs.length cap'] w fun e w' => e = .returned (.bool true) ∧ Below w.heap.size w w' := by
  have h := sameInts_any a a' cap cap' (ints xs) w (by rw [ints_len]; exact hlen) hr hr'
  rw [ints_len] at h
  exact h
set_option maxRecDepth 100000 in
set_option maxHeartbeats 1600000 in
theorem improves_any (N : Int) (a : Option Addr) (l : List A) (cap : Nat) (ax : Option Addr) (xs : List Int) (cx : Nat) (q0 q1 bd mo : Int) (w : World) (hlen : l.length * 24 ≤ 140737488351232) (hna : a = none → l = [] ∧ cap = 0) (hr : Arcs w a l) (hlx : xs.length * 8 ≤ 140737488351232) (hnx : ax = none → xs = [] ∧ cx = 0) (hrx : Ints w ax xs) :
    Calls Try.prog 4 #[.agg #[.int .i64 N, .slice a l.length cap], .slice ax xs.length cx, .agg #[.int .i64 q0, .int .i64 q1, .int .i64 bd, .int .i64 mo]] w fun e w' => e = .returned (.bool true) ∧ Below w.heap.size w w' := by
  have hl : l.length ≤ 9223372036854775807 := by omega
  have hml : xs.length ≤ 9223372036854775807 := by omega
  have hb0 : Below w.heap.size w ((w.alloc (.cells #[.int .i64 N, .slice a l.length cap] 24)).alloc (.cells #[.int .i64 q0, .int .i64 q1, .int .i64 bd, .int .i64 mo] 27)) := ((Below.refl _ _).alloc (Nat.le_refl _) _).alloc (by simp) _
  have hg : ((w.alloc (.cells #[.int .i64 N, .slice a l.length cap] 24)).alloc (.cells #[.int .i64 q0, .int .i64 q1, .int .i64 bd, .int .i64 mo] 27)).heap[w.heap.size]? = some (.cells #[.int .i64 N, .slice a l.length cap] 24) := (Below.heap_alloc _ _ _ (by simp)).trans (heap_top w _)
  have hk : ((w.alloc (.cells #[.int .i64 N, .slice a l.length cap] 24)).alloc (.cells #[.int .i64 q0, .int .i64 q1, .int .i64 bd, .int .i64 mo] 27)).heap[w.heap.size + 1]? = some (.cells #[.int .i64 q0, .int .i64 q1, .int .i64 bd, .int .i64 mo] 27) := by
    have h := heap_top (w.alloc (.cells #[.int .i64 N, .slice a l.length cap] 24)) (.cells #[.int .i64 q0, .int .i64 q1, .int .i64 bd, .int .i64 mo] 27)
    rw [World.size_alloc] at h
    exact h
  have HAR := Lib.hid hr
  have HIX := Lib.hid hrx
  have HNA := Lib.hid hna
  have HNX := Lib.hid hnx
  have HB0 := Lib.hid hb0
  obtain ⟨⟨g0, g1⟩, _⟩ := two_cells hg
  clear hb0 hr hrx hna hnx
  generalize hp : w.heap.size = p at *
  go_enter Try.func4, Try.ntmps4
  generalize hW : (w.alloc (.cells #[.int .i64 N, .slice a l.length cap] 24)).alloc (.cells #[.int .i64 q0, .int .i64 q1, .int .i64 bd, .int .i64 mo] 27) = W at *
  go_wp2_with fail
  clear hW
  refine (large_any N a l cap W hl (HAR.out.on (by rw [hp]; exact HB0.out))).mono ?_
  rintro e w1 ⟨rfl, hb1⟩
  have hg1 := (hb1.block _ (lt_of_block hg)).trans hg
  have hk1 := (hb1.block _ (lt_of_block hk)).trans hk
  have HB1 := Lib.hid (below_tr HB0.out hp hb1)
  clear hb1 g0 g1 hg hk
  obtain ⟨⟨g0, g1⟩, _⟩ := two_cells hg1
  obtain ⟨V, HV⟩ := named (lgB N l)
  rw [HV.out]
  cases V
  rotate_left
  · go_wp2_with fail
    refine (works_any w1).mono ?_
    rintro e w2 ⟨rfl, hb2⟩
    have HB2 := Lib.hid (below_tr HB1.out hp hb2)
    clear hb2
    go_wp2_with fail
    go_ret
    exact ⟨rfl, HB2.out⟩
  have HA1 : Hid (Arcs w1 a l) := HAR.out.on (by rw [hp]; exact HB1.out)
  go_wp2_with fail
  refine (lend_any N a l cap w1 hlen HNA.out HA1.out).mono ?_
  rintro e w2 ⟨g, cg, rfl, hcg1, hcg2, hown, hb2⟩
  have HST := Lib.hid (still_own hown)
  have HB2 := Lib.hid (below_tr HB1.out hp hb2)
  have hg2 := (hb2.block _ (lt_of_block hg1)).trans hg1
  have hk2 := (hb2.block _ (lt_of_block hk1)).trans hk1
  clear hown hb2 g0 g1 hg1 hk1
  obtain ⟨⟨g0, g1⟩, _⟩ := two_cells hg2
  go_wp2_with fail
  refine (lendI_any ax xs cx w2 hlx HNX.out (HIX.out.on (by rw [hp]; exact HB2.out))).mono ?_
  rintro e w2b ⟨gi, ci, rfl, hci1, hci2, howni, hb2b⟩
  have HSI := Lib.hid (stillI_own howni)
  have HSTb := Lib.hid (HST.out.on hb2b)
  have HB2b := Lib.hid (below_tr HB2.out hp hb2b)
  have hg2b := (hb2b.block _ (lt_of_block hg2)).trans hg2
  have hk2b := (hb2b.block _ (lt_of_block hk2)).trans hk2
  have hb23 : Below w2b.heap.size w2b (w2b.alloc (.cells #[.int .i64 N, .slice (some ⟨g, 0, none⟩) l.length cg] 24)) := (Below.refl _ _).alloc (Nat.le_refl _) _
  have hi3 := heap_top w2b (.cells #[.int .i64 N, .slice (some ⟨g, 0, none⟩) l.length cg] 24)
  have HB3 := Lib.hid (below_tr HB2b.out hp hb23)
  have HS3 := Lib.hid (HSTb.out.on hb23)
  have HT3 := Lib.hid (HSI.out.on hb23)
  have hg3 := (hb23.block _ (lt_of_block hg2b)).trans hg2b
  have hk3 := (hb23.block _ (lt_of_block hk2b)).trans hk2b
  obtain ⟨⟨y0, y1⟩, _⟩ := two_cells hi3
  obtain ⟨z0, z1, z2, z3⟩ := four_cells hk3
  clear howni hb2b g0 g1 hb23 hg2 hk2 hg2b hk2b
  go_wp2_with fail
  generalize hw3 : w2b.alloc (.cells #[.int .i64 N, .slice (some ⟨g, 0, none⟩) l.length cg] 24) = w3 at *
  generalize hri : w2b.heap.size = r at *
  clear hw3
  have HG1 := Lib.hid (improve_any N (some ⟨g, 0, none⟩) l cg (some ⟨gi, 0, none⟩) xs ci bd mo w3 hl hml HS3.out.arcs HT3.out.ints)
  obtain ⟨E, HE⟩ := named (imE N l xs bd mo)
  rw [HE.out] at HG1
  refine HG1.out.mono ?_
  rintro e w4 ⟨v4, c4, m4, out, rfl, hown4, hb4, HR1, HR2⟩
  have HB4 := Lib.hid (below_tr HB3.out hp hb4)
  have hg4 := (hb4.block _ (lt_of_block hg3)).trans hg3
  have hk4 := (hb4.block _ (lt_of_block hk3)).trans hk3
  have HL4 : Hid (Below w3.heap.size w3 w4) := hb4
  have HO4 := Lib.hid hown4
  clear hb4 y0 y1 z0 z1 z2 z3 hk3 HG1 hown4
  obtain ⟨⟨g0, g1⟩, _⟩ := two_cells hg4
  obtain ⟨z0, z1, z2, z3⟩ := four_cells hk4
  have HG2 := Lib.hid (rimprove_any N a l cap ax xs cx bd mo w4 hl hml (HAR.out.on (by rw [hp]; exact HB4.out)) (HIX.out.on (by rw [hp]; exact HB4.out)))
  rw [HE.out] at HG2
  go_wp2_with fail
  refine HG2.out.mono ?_
  rintro e w5 ⟨v5, c5, m5, out5, rfl, hown5, hb5, HR1', HR2'⟩
  have hgg : out5 = out ∧ m5 = m4 ∧ out.length ≤ 9223372036854775807 := by
    by_cases c : E = 0
    · obtain ⟨L, B, E1, h1, hN1, h3, hc1, h5, h6, h7⟩ := HR1.out c
      obtain ⟨L', B', h1', h3', h5', h6'⟩ := HR1'.out c
      have e1 : L' = L := ints_inj (h1'.symm.trans h1)
      have e2 : B' = B := by omega
      rw [e1, e2] at h6'
      have q := h6.tidied (T := L) (tdL_self h5).symm (prl_PIn hc1 hN1)
      rw [← h7] at q
      obtain ⟨q1, q2⟩ := q.one h6'
      have hle : out.length ≤ 1024 := by
        have := (chk_zero hc1).2.1
        rw [h7, tdL_len, h6.len]
        omega
      exact ⟨q1.symm, q2.symm, by omega⟩
    · obtain ⟨a1, a2⟩ := HR2.out c
      obtain ⟨b1, b2⟩ := HR2'.out c
      rw [a1, a2, b1, b2]
      exact ⟨rfl, rfl, by decide⟩
  obtain ⟨h1, h2, hol⟩ := hgg
  subst h1
  subst h2
  have HL5 : Hid (Below w3.heap.size w3 w5) := HL4.out.trans (hb5.mono HL4.out.size)
  have HO5 := Lib.hid (own_on HO4.out hb5)
  have HP5 := Lib.hid (own_ints hown5 rfl)
  clear hb5 hown5 g0 g1 z0 z1 z2 z3 hg4 hk4 HG2 HR1 HR2 HR1' HR2'
  have k1 : (E != E) = false := by simp
  have k2 : ((m5 : Int) != (m5 : Int)) = false := by simp
  go_wp2_with fail
  refine (sameN_any v4 v5 c4 c5 out5 w5 hol (own_ints HO5.out rfl) HP5.out).mono ?_
  rintro e w6 ⟨rfl, hb6⟩
  have HL6 : Hid (Below w3.heap.size w3 w6) := HL5.out.trans (hb6.mono HL5.out.size)
  have HO6 := Lib.hid (own_on HO5.out hb6)
  clear hb6
  go_wp2_with fail
  refine (spoilInts_gen v4 out5.length c4 w3.heap.size (-7) _ w6 HO6.out).mono ?_
  rintro e w7 ⟨rfl, hb7, _⟩
  have HL7 : Hid (Below w3.heap.size w3 w7) := HL6.out.trans hb7
  have HB7 : Hid (Below p w w7) := HB3.out.trans (HL7.out.mono (hp ▸ HB3.out.size))
  have hg7 := (HL7.out.block _ (lt_of_block hg3)).trans hg3
  have hi7 := (HL7.out.block _ (lt_of_block hi3)).trans hi3
  have HS7 := Lib.hid (HS3.out.on HL7.out)
  have HT7 := Lib.hid (HT3.out.on HL7.out)
  clear hb7
  obtain ⟨⟨g0, g1⟩, _⟩ := two_cells hg7
  obtain ⟨⟨y0, y1⟩, _⟩ := two_cells hi7
  go_wp2_with fail
  refine (kept_any N g cg a l cap w7 hlen hcg1 hcg2 HS7.out (HAR.out.on (by rw [hp]; exact HB7.out))).mono ?_
  rintro e w8 ⟨rfl, hb8⟩
  have HB8 := Lib.hid (below_tr HB7.out hp hb8)
  have HT8 := Lib.hid (HT7.out.on hb8)
  clear hb8
  go_wp2_with fail
  refine (keptI_any gi ci ax xs cx w8 hlx hci1 HT8.out (HIX.out.on (by rw [hp]; exact HB8.out))).mono ?_
  rintro e w9 ⟨rfl, hb9⟩
  have HB9 := Lib.hid (below_tr HB8.out hp hb9)
  clear hb9
  go_wp2_with fail
  refine (works_any w9).mono ?_
  rintro e w10 ⟨rfl, hb10⟩
  have HB10 := Lib.hid (below_tr HB9.out hp hb10)
  clear hb10
  go_wp2_with fail
  go_ret
  exact ⟨rfl, HB10.out⟩
end Go.Proofs.Ytgpaoiddjlpcmaa.Improves
