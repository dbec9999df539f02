/-
  LocalEnds holds.
-/
import Derived.Test.YtgpaoiddjlpcmaaZAU
import Derived.Test.YtgpaoiddjlpcmaaZAQ
import Derived.Test.YtgpaoiddjlpcmaaZAR
namespace Go.Proofs.Ytgpaoiddjlpcmaa.Ends
open Go.RowKit Go.Maps
theorem below_tr {p : Nat} {w w1 w2 : World} (h : Below p w w1) (hp : w.heap.size = p) (h2 : Below w1.heap.size w1 w2) : Below p w w2 := h.trans (h2.mono (hp ▸ h.size))
theorem sameN_any (a a' : Option Addr) (cap cap' : Nat) (xs : List Nat) (w : World) (hlen : xs.length ≤ 9223372036854775807) (hr : Ints w a (ints xs)) (hr' : Ints w a' (ints xs)) :
    Calls Try.prog 20 #[.slice a xs.length cap, .slice a' xs.length cap'] w fun e w' => e = .returned (.bool true) ∧ Below w.heap.size w w' := by
  have h := sameInts_any a a' cap cap' (ints xs) w (by rw [ints_len]; exact hlen) hr hr'
  rw [ints_len] at h
  exact h
theorem four_cells {w : World} {b : Nat} {x0 x1 x2 x3 : Value} {t : TypeId} (h : w.heap[b]? = some (.cells #[x0, x1, x2, x3] t)) : w.cell? ⟨b, 2, none⟩ = some x2 ∧ w.cell? ⟨b, 3, none⟩ = some x3 := ⟨by simp [World.cell?, h], by simp [World.cell?, h]⟩
theorem rem_small (mo : Int) (n : Nat) (hn : n ≤ 8192) : ∃ k : Nat, wrap64 ((IntKind.u64.wrap mo).tmod ((n : Int) + 1)) = (k : Int) ∧ k ≤ n := by
  have h0 : 0 ≤ IntKind.u64.wrap mo := by rw [IntKind.wrap_u64]; omega
  have h1 := Int.tmod_nonneg ((n : Int) + 1) h0
  have h2 := Int.tmod_lt_of_pos (IntKind.u64.wrap mo) (show (0 : Int) < (n : Int) + 1 by omega)
  generalize (IntKind.u64.wrap mo).tmod ((n : Int) + 1) = r at *
  refine ⟨r.toNat, ?_, by omega⟩
  unfold wrap64
  omega
set_option maxRecDepth 100000 in
set_option maxHeartbeats 1600000 in
theorem ends_any (N : Int) (a : Option Addr) (l : List A) (cap : Nat) (ax : Option Addr) (xs : List Int) (cx : Nat) (q0 q1 bd mo : Int) (w : World) (hlen : l.length * 24 ≤ 140737488351232) (hr : Arcs w a l) (hlx : xs.length * 8 ≤ 140737488351232) (hrx : Ints w ax xs) :
    Calls Try.prog 6 #[.agg #[.int .i64 N, .slice a l.length cap], .slice ax xs.length cx, .agg #[.int .i64 q0, .int .i64 q1, .int .i64 bd, .int .i64 mo]] w fun e w' => e = .returned (.bool true) ∧ Below w.heap.size w w' := by
  have hl : l.length ≤ 9223372036854775807 := by omega
  have hx : xs.length ≤ 9223372036854775807 := by omega
  have hb0 : Below w.heap.size w ((w.alloc (.cells #[.int .i64 N, .slice a l.length cap] 24)).alloc (.cells #[.int .i64 q0, .int .i64 q1, .int .i64 bd, .int .i64 mo] 27)) := ((Below.refl _ _).alloc (Nat.le_refl _) _).alloc (by simp) _
  have hg : ((w.alloc (.cells #[.int .i64 N, .slice a l.length cap] 24)).alloc (.cells #[.int .i64 q0, .int .i64 q1, .int .i64 bd, .int .i64 mo] 27)).heap[w.heap.size]? = some (.cells #[.int .i64 N, .slice a l.length cap] 24) := (Below.heap_alloc _ _ _ (by simp)).trans (heap_top w _)
  have hk : ((w.alloc (.cells #[.int .i64 N, .slice a l.length cap] 24)).alloc (.cells #[.int .i64 q0, .int .i64 q1, .int .i64 bd, .int .i64 mo] 27)).heap[w.heap.size + 1]? = some (.cells #[.int .i64 q0, .int .i64 q1, .int .i64 bd, .int .i64 mo] 27) := by
    have h := heap_top (w.alloc (.cells #[.int .i64 N, .slice a l.length cap] 24)) (.cells #[.int .i64 q0, .int .i64 q1, .int .i64 bd, .int .i64 mo] 27)
    rw [World.size_alloc] at h
    exact h
  have HAR := Lib.hid hr
  have HAX := Lib.hid hrx
  have HB0 := Lib.hid hb0
  obtain ⟨⟨g0, g1⟩, _⟩ := two_cells hg
  clear hb0 hr hrx
  generalize hp : w.heap.size = p at *
  go_enter Try.func6, Try.ntmps6
  generalize hW : (w.alloc (.cells #[.int .i64 N, .slice a l.length cap] 24)).alloc (.cells #[.int .i64 q0, .int .i64 q1, .int .i64 bd, .int .i64 mo] 27) = W at *
  go_wp2_with fail
  clear hW
  refine (works_any W).mono ?_
  rintro e w1 ⟨rfl, hb1⟩
  have hg1 := (hb1.block _ (lt_of_block hg)).trans hg
  have hk1 := (hb1.block _ (lt_of_block hk)).trans hk
  have HB1 := Lib.hid (below_tr HB0.out hp hb1)
  clear hb1 g0 g1 hg hk
  obtain ⟨⟨g0, g1⟩, _⟩ := two_cells hg1
  have HLG := Lib.hid (large_any N a l cap w1 hl (HAR.out.on (by rw [hp]; exact HB1.out)))
  obtain ⟨V, HV⟩ := named (lgB N l)
  rw [HV.out] at HLG
  go_wp2_with fail
  refine HLG.out.mono ?_
  rintro e w2 ⟨rfl, hb2⟩
  have hg2 := (hb2.block _ (lt_of_block hg1)).trans hg1
  have hk2 := (hb2.block _ (lt_of_block hk1)).trans hk1
  have HB2 := Lib.hid (below_tr HB1.out hp hb2)
  clear hb2 g0 g1 HLG hg1 hk1
  obtain ⟨⟨g0, g1⟩, _⟩ := two_cells hg2
  cases V
  rotate_left
  · go_wp2_with fail
    go_ret
    exact ⟨rfl, HB2.out⟩
  have HC1 := Lib.hid (natCount_any N a l cap ax xs cx w2 hl hx (HAR.out.on (by rw [hp]; exact HB2.out)) (HAX.out.on (by rw [hp]; exact HB2.out)))
  obtain ⟨E, HE⟩ := named (cntE N l xs)
  rw [HE.out] at HC1
  obtain ⟨n, HN⟩ : ∃ n : Nat, Hid ((if E = 0 then ((cntB xs (prl l) : Nat) : Int) else 0) = (n : Int)) := by
    by_cases c : E = 0
    · exact ⟨cntB xs (prl l), by show _ = _; rw [if_pos c]⟩
    · exact ⟨0, by show _ = _; rw [if_neg c]; rfl⟩
  rw [HN.out] at HC1
  have hn2 : n ≤ 8192 := by
    by_cases c : E = 0
    · have h1 := HN.out
      rw [if_pos c] at h1
      have h2 : cntB xs (prl l) ≤ (prl l).length := List.length_filter_le _ _
      have h3 := prl_len l
      have hz := HE.out
      rw [c] at hz
      unfold cntE at hz
      have hc0 : chkE N l = 0 := by
        by_cases c : chkE N l ≠ 0
        · rw [if_pos c] at hz; exact hz
        · simpa using c
      have := (chk_zero hc0).2.2.1
      omega
    · have h1 := HN.out
      rw [if_neg c] at h1
      omega
  go_wp2_with fail
  refine HC1.out.mono ?_
  rintro e w3 ⟨rfl, hb3⟩
  have hg3 := (hb3.block _ (lt_of_block hg2)).trans hg2
  have hk3 := (hb3.block _ (lt_of_block hk2)).trans hk2
  have HB3 := Lib.hid (below_tr HB2.out hp hb3)
  clear hb3 g0 g1 HC1 hg2 hk2
  obtain ⟨⟨g0, g1⟩, _⟩ := two_cells hg3
  obtain ⟨b0, b1⟩ := four_cells hk3
  have HI1 := Lib.hid (improve_any N a l cap ax xs cx bd n w3 hl hx (HAR.out.on (by rw [hp]; exact HB3.out)) (HAX.out.on (by rw [hp]; exact HB3.out)))
  obtain ⟨I, HI⟩ := named (imE N l xs bd n)
  rw [HI.out] at HI1
  have hm3 : min (n : Int) 16384 = n := by omega
  have HIE : Hid (I = 0 → E = 0 ∧ luE N l xs bd = 0) := fun h => by
    have h1 := HI.out
    rw [h] at h1
    unfold imE at h1
    by_cases c : luE N l xs bd ≠ 0
    · rw [if_pos c] at h1; exact absurd h1 c
    · have c2 : luE N l xs bd = 0 := by simpa using c
      refine ⟨?_, c2⟩
      unfold luE at c2
      by_cases d : cntE N l xs ≠ 0
      · rw [if_pos d] at c2; exact absurd c2 d
      · rw [← HE.out]; simpa using d
  go_wp2_with fail
  refine HI1.out.mono ?_
  rintro e w4 ⟨v4, c4, m4, out, rfl, hown4, hb4, HR, HR0⟩
  have hg4 := (hb4.block _ (lt_of_block hg3)).trans hg3
  have hk4 := (hb4.block _ (lt_of_block hk3)).trans hk3
  have HB4 := Lib.hid (below_tr HB3.out hp hb4)
  have HO4 := Lib.hid (own_ints hown4 rfl)
  clear hb4 g0 g1 b0 b1 HI1 hg3 hk3 hown4 hm3
  obtain ⟨⟨g0, g1⟩, _⟩ := two_cells hg4
  obtain ⟨b0, b1⟩ := four_cells hk4
  by_cases hI : I ≠ 0
  · obtain ⟨ho, hm⟩ := HR0.out hI
    subst ho
    subst hm
    have i1 : (I != 0) = true := by simpa using hI
    by_cases hE : E = 0
    · have e1 : (E != 0) = false := by simpa using hE
      go_wp2_with fail
      go_ret
      exact ⟨rfl, HB4.out⟩
    · have e1 : (E != 0) = true := by simpa using hE
      go_wp2_with fail
      go_ret
      exact ⟨rfl, HB4.out⟩
  have hI0 : I = 0 := by simpa using hI
  obtain ⟨hE0, hlu⟩ := HIE.out hI0
  have i1 : (I != 0) = false := by simpa using hI0
  have e1 : (E != 0) = false := by simpa using hE0
  obtain ⟨L, B, E0, hxL, hh1, hbB, hh2⟩ := id (HR.out hI0)
  clear hh1 hh2 E0
  subst hxL
  subst hbB
  obtain ⟨Eo, himp, hout, hc0, hNL, hNo, htd, htdo, hu, huo, hpat, hB1, hB2⟩ := (HR.out hI0).right hlu
  rw [Int.toNat_natCast] at himp
  have hd := prl_ne hc0
  have hPL := prl_PIn hc0 hNL
  have hnb : n = bt (prl l) L := by
    have h1 := HN.out
    rw [if_pos hE0, cntB_bt] at h1
    omega
  have hlast := himp.last hd (by omega)
  have hel := himp.len
  have hlo : ∀ v f, ¬ Open (prl l) out B v f := fun v f ho => hlast v f (hpat.symm.openE (by rw [hpat.len, hel]; exact hPL) ho)
  have hbo : bt (prl l) out = bt (prl l) Eo := bt_pat hpat (by rw [hel]; exact hPL)
  have hlu2 := lu_ok hc0 hNo htdo hB1 hB2 huo
  have hob : out.length ≤ 9223372036854775807 := by have := (chk_zero hc0).2.1; omega
  have hbt := himp.bt hd
  have HIMP := Lib.hid himp
  have HPAT := Lib.hid hpat
  have HC0 := Lib.hid hc0
  have HNL := Lib.hid hNL
  have HNO := Lib.hid hNo
  have HTD := Lib.hid htd
  have HTO := Lib.hid htdo
  have HU := Lib.hid hu
  have HUO := Lib.hid huo
  have HOU := Lib.hid hout
  have HDD := Lib.hid hd
  have HPL := Lib.hid hPL
  have HNB := Lib.hid hnb
  have HLO := Lib.hid hlo
  have HBO := Lib.hid hbo
  have HLA := Lib.hid hlast
  have HLU2 := Lib.hid hlu2
  have HEL := Lib.hid hel
  have HLU := Lib.hid hlu
  clear himp hpat hc0 hNL hNo htd htdo hu huo hout hd hPL hnb hlo hbo hlast hlu2 hel hlu HR HR0 HIE hE0 hI0 hI
  have HX1 := Lib.hid (next_top N a l cap v4 (ints out) c4 B w4 hl (by rw [ints_len]; exact hob) (HAR.out.on (by rw [hp]; exact HB4.out)) HO4.out)
  obtain ⟨Z, HZ⟩ := named (luE N l (ints out) (B : Int))
  rw [HZ.out, ints_len] at HX1
  have HZ0 : Hid (Z = 0) := HZ.out.symm.trans HLU2.out.2
  have z1 : (Z == 0) = true := by rw [HZ0.out]; rfl
  go_wp2_with fail
  refine HX1.out.mono ?_
  rintro e w5 ⟨nv, nx, so, rfl, hb5, HM1, HM2⟩
  have hso : so = false := by
    obtain ⟨L2, B2, h1, _, h3, _, _, h6⟩ := HM1.out HZ0.out
    have q1 : L2 = out := ints_inj h1.symm
    have q2 : B2 = B := by omega
    rcases h6 with ⟨_, f, h7, _⟩ | ⟨h7, _⟩
    · rw [q1, q2] at h7
      exact absurd h7.1 (HLO.out _ _)
    · exact h7
  subst hso
  have hg5 := (hb5.block _ (lt_of_block hg4)).trans hg4
  have hk5 := (hb5.block _ (lt_of_block hk4)).trans hk4
  have HB5 := Lib.hid (below_tr HB4.out hp hb5)
  have HO5 := Lib.hid (HO4.out.on hb5)
  clear hb5 g0 g1 b0 b1 HX1 hg4 hk4 HM1 HM2
  obtain ⟨⟨g0, g1⟩, _⟩ := two_cells hg5
  obtain ⟨b0, b1⟩ := four_cells hk5
  have HC2 := Lib.hid (natCount_any N a l cap v4 (ints out) c4 w5 hl (by rw [ints_len]; exact hob) (HAR.out.on (by rw [hp]; exact HB5.out)) HO5.out)
  rw [HLU2.out.1, if_pos rfl, cntB_bt, HBO.out, ints_len] at HC2
  obtain ⟨me, HME⟩ := named (bt (prl l) Eo)
  rw [HME.out] at HC2 hbt
  rw [← HNB.out] at hbt
  go_wp2_with fail
  refine HC2.out.mono ?_
  rintro e w6 ⟨rfl, hb6⟩
  have hg6 := (hb6.block _ (lt_of_block hg5)).trans hg5
  have hk6 := (hb6.block _ (lt_of_block hk5)).trans hk5
  have HB6 := Lib.hid (below_tr HB5.out hp hb6)
  have HO6 := Lib.hid (HO5.out.on hb6)
  clear hb6 g0 g1 b0 b1 HC2 hg5 hk5
  obtain ⟨⟨g0, g1⟩, _⟩ := two_cells hg6
  obtain ⟨b0, b1⟩ := four_cells hk6
  have hw1 : IntKind.i64.wrap ((n : Int) + 1) = (n : Int) + 1 := by rw [IntKind.wrap_i64]; omega
  obtain ⟨k, hk1, hk2⟩ := rem_small mo n hn2
  have HI2 := Lib.hid (improve_any N a l cap ax (ints L) cx B k w6 hl hx (HAR.out.on (by rw [hp]; exact HB6.out)) (HAX.out.on (by rw [hp]; exact HB6.out)))
  obtain ⟨J, HJ⟩ := named (imE N l (ints L) (B : Int) (k : Int))
  rw [HJ.out] at HI2
  have HJ0 : Hid (J = 0) := by
    show J = 0
    rw [← HJ.out]
    unfold imE
    rw [HLU.out, if_neg (by simp), if_neg (by omega)]
  have j1 : (J == 0) = true := by rw [HJ0.out]; rfl
  go_wp2_with fail
  refine HI2.out.mono ?_
  rintro e w7 ⟨v7, c7, m7, out7, rfl, hown7, hb7, HR7, _⟩
  have hg7 := (hb7.block _ (lt_of_block hg6)).trans hg6
  have hk7 := (hb7.block _ (lt_of_block hk6)).trans hk6
  have HB7 := Lib.hid (below_tr HB6.out hp hb7)
  have HO7 := Lib.hid (HO6.out.on hb7)
  have HP7 := Lib.hid (own_ints hown7 rfl)
  clear hb7 g0 g1 b0 b1 HI2 hg6 hk6 hown7
  obtain ⟨⟨g0, g1⟩, _⟩ := two_cells hg7
  obtain ⟨b0, b1⟩ := four_cells hk7
  obtain ⟨E7, himp7, hout7, z1', z2', hNo7, z3', htdo7, z4', huo7, hpat7, z5', z6'⟩ := (HR7.out HJ0.out).right HLU.out
  clear z1' z2' z3' z4' z5' z6'
  rw [Int.toNat_natCast] at himp7
  have hlu7 := (lu_ok HC0.out hNo7 htdo7 hB1 hB2 huo7).2
  have hob7 : out7.length ≤ 9223372036854775807 := by have := (chk_zero HC0.out).2.1; omega
  have HI3 := Lib.hid (improve_any N a l cap v7 (ints out7) c7 B n w7 hl (by rw [ints_len]; exact hob7) (HAR.out.on (by rw [hp]; exact HB7.out)) HP7.out)
  obtain ⟨J', HJ'⟩ := named (imE N l (ints out7) (B : Int) (n : Int))
  rw [HJ'.out, ints_len] at HI3
  have HJ0' : Hid (J' = 0) := by
    show J' = 0
    rw [← HJ'.out]
    unfold imE
    rw [hlu7, if_neg (by simp), if_neg (by omega)]
  have j2 : (J' == 0) = true := by rw [HJ0'.out]; rfl
  have HIM7 := Lib.hid himp7
  have HPA7 := Lib.hid hpat7
  have HLU7 := Lib.hid hlu7
  clear himp7 hpat7 hlu7 hNo7 htdo7 huo7 HR7 hout7
  go_wp2_with fail
  refine HI3.out.mono ?_
  rintro e w8 ⟨v8, c8, m8, out8, rfl, hown8, hb8, HR8, _⟩
  obtain ⟨E8, himp8, hout8, z1'⟩ := (HR8.out HJ0'.out).right HLU7.out
  clear z1'
  rw [Int.toNat_natCast] at himp8
  have hel7 := HIM7.out.len
  obtain ⟨E9, himp9, hpat9⟩ := himp8.pat HPA7.out.symm (by rw [HPA7.out.len, hel7]; exact HPL.out)
  have hbt7 := HIM7.out.bt HDD.out
  have hl9 := himp9.last HDD.out (by have := HNB.out; omega)
  have hbt9 := himp9.bt HDD.out
  have hj := HIM7.out.join himp9 hl9 n (by have := HNB.out; omega)
  obtain ⟨h1, h2⟩ := HIMP.out.one hj
  have hoo : out8 = out := by
    rw [hout8, HOU.out, h1]
    exact hpat9.tidy.symm
  have HB8 := Lib.hid (below_tr HB7.out hp hb8)
  have HO8 := Lib.hid (HO7.out.on hb8)
  have HP8 := Lib.hid (own_ints hown8 rfl)
  rw [hoo] at HP8
  have hm78 : (m7 : Int) + (m8 : Int) = (m4 : Int) := by omega
  have hw2 : IntKind.i64.wrap ((m7 : Int) + (m8 : Int)) = (m7 : Int) + (m8 : Int) := by rw [IntKind.wrap_i64]; omega
  have hw3 : IntKind.i64.wrap ((n : Int) - (me : Int)) = (n : Int) - (me : Int) := by rw [IntKind.wrap_i64]; omega
  have hle4 : (m4 : Int) ≤ (n : Int) - (me : Int) := by omega
  subst hoo
  have HSI := Lib.hid (sameN_any v4 v8 c4 c8 out8 w8 hob HO8.out HP8.out)
  clear hb8 g0 g1 b0 b1 HI3 hown8 HR8 himp8 hout8 himp9 hpat9 hl9 hj h1 h2 hbt7 hbt9 hel7
  go_wp2_with fail
  refine HSI.out.mono ?_
  rintro e w9 ⟨rfl, hb9⟩
  have HB9 := Lib.hid (below_tr HB8.out hp hb9)
  clear hb9
  go_wp2_with fail
  go_ret
  exact ⟨rfl, HB9.out⟩
end Go.Proofs.Ytgpaoiddjlpcmaa.Ends
