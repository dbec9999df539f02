/-
  CellInside: the walk.
-/
import Derived.Test.YtpmjbeiclmllmaaInM
import Derived.Test.YtpmjbeiclmllmaaGNs
namespace Go.Proofs.Ytpmjbeiclmllmaa
open Go.RowKit
set_option maxRecDepth 100000 in
set_option maxHeartbeats 6400000 in
theorem inside_any (N : Int) (a : Option Addr) (l : List A) (cap : Nat) (ba : Option Addr) (bs : List Int) (bc : Nat) (ca : Option Addr) (C : List Cl) (cc : Nat) (w : World) (hlen : l.length * 24 ≤ 140737488351232) (hblen : bs.length * 8 ≤ 140737488351232) (hr : Arcs w a l) (hi : Ints w ba bs) (hR : Rws w ca C) :
    Calls Try.prog 6 #[.agg #[.int .i64 N, .slice a l.length cap], .agg #[.slice ba bs.length bc, .slice ca C.length cc]] w fun e w' => e = .returned (.bool true) ∧ Below w.heap.size w w' := by
  have hl : l.length ≤ 9223372036854775807 := by omega
  have hbl : bs.length ≤ 9223372036854775807 := by omega
  obtain ⟨hg0, hg1, hb0, hsz⟩ := top2 w (.cells #[.int .i64 N, .slice a l.length cap] 24) (.cells #[.slice ba bs.length bc, .slice ca C.length cc] 28)
  have HGN0 : Hid (GN ((w.alloc (.cells #[.int .i64 N, .slice a l.length cap] 24)).alloc (.cells #[.slice ba bs.length bc, .slice ca C.length cc] 28)) w.heap.size N a l cap ba bs bc ca C cc) := ⟨hg0, hg1, hr.on hb0, hi.on hb0, hR.on hb0⟩
  have HB0 := Lib.hid hb0
  generalize hp : w.heap.size = p at *
  go_enter Try.func6, Try.ntmps6
  go_wp2_with fail
  generalize hW : (w.alloc (.cells #[.int .i64 N, .slice a l.length cap] 24)).alloc (.cells #[.slice ba bs.length bc, .slice ca C.length cc] 28) = W at *
  clear hW hg0 hg1 hb0 hr hi hR
  refine (works_any W).mono ?_
  rintro e w1 ⟨rfl, hb1⟩
  have HB1 := Lib.hid hb1
  have HGN1 := Lib.hid (HGN0.out.on hb1)
  clear hb1
  obtain ⟨g0, g1, g2, g3⟩ := HGN1.out.cells
  go_wp2_with fail
  refine (large_any N a l cap w1 hl HGN1.out.arcs).mono ?_
  rintro e w2 ⟨rfl, hb2⟩
  have HB2 : Hid (Below W.heap.size W w2) := HB1.out.trans (hb2.mono HB1.out.size)
  clear hb2 g0 g1 g2 g3 HB1 HGN1
  obtain ⟨V, HV⟩ := named (lgB N l)
  rw [HV.out]
  have HEND : Hid (∀ wr, Below W.heap.size W wr → Below p w wr) := fun wr h => HB0.out.trans (h.mono (by omega))
  rcases V with _ | _
  rotate_left
  · go_wp2_with fail
    go_ret
    exact ⟨rfl, HEND.out _ HB2.out⟩
  go_wp2_with fail
  go_loopw [5] (fun i wr => ∃ (j : Nat), j ≤ bs.length ∧ i = .int .i64 ((j : Int) + 1) ∧ Hid (Below W.heap.size W wr)) (fun i _ => bs.length + 1 - (intOf i).toNat)
  case atStart => exact ⟨0, Nat.zero_le _, rfl, HB2⟩
  case round =>
    obtain ⟨j, hj, rfl, HBR⟩ := hrel
    have HGR := Lib.hid (HGN0.out.on HBR.out)
    obtain ⟨g0, g1, g2, g3⟩ := HGR.out.cells
    by_cases hlj : j < bs.length
    · have hlj' : (j : Int) + 1 ≤ bs.length := by omega
      obtain ⟨E, HE⟩ := named (atE N l bs (csl C) ((j : Int) + 1))
      obtain ⟨O, HO⟩ := named (ouV N l bs (csl C) ((j : Int) + 1))
      obtain ⟨m, HM⟩ := named (manyV N l bs (csl C) ((j : Int) + 1))
      have HMA := Lib.hid (many_any N a l cap ba bs bc ca C cc ((j : Int) + 1) wr hl hbl HGR.out.arcs HGR.out.ints HGR.out.rws)
      rw [HE.out, HM.out] at HMA
      have h63 : bs.length ≤ 100000000000000 := by omega
      go_wp2_with fail
      refine HMA.out.mono ?_
      rintro e w3 ⟨rfl, hb3⟩
      have HB3 : Hid (Below W.heap.size W w3) := HBR.out.trans (hb3.mono HBR.out.size)
      have HGN3 := Lib.hid (HGN0.out.on HB3.out)
      have HOU := Lib.hid (outer_any N a l cap ba bs bc ca C cc ((j : Int) + 1) w3 hl hbl HGN3.out.arcs HGN3.out.ints HGN3.out.rws)
      rw [HE.out, HO.out] at HOU
      clear hb3 g0 g1 g2 g3 HMA HGR HB2
      obtain ⟨g0, g1, g2, g3⟩ := HGN3.out.cells
      go_wp2_with fail
      refine HOU.out.mono ?_
      rintro e w4 ⟨ov, rfl, hrow, hb4⟩
      have HB4 : Hid (Below W.heap.size W w4) := HB3.out.trans (hb4.mono HB3.out.size)
      clear hb4 g0 g1 g2 g3 HOU HGN3 hrow HB3
      by_cases hE : E = 0
      · subst hE
        have hNR := (atE_zero HE.out).1
        have h1024 := (chk_zero hNR.1).2.1
        have h0N := (chk_zero hNR.1).1
        have hl8 := (chk_zero hNR.1).2.2.1
        obtain ⟨n, hn⟩ : ∃ n : Nat, N = n := ⟨N.toNat, by omega⟩
        obtain ⟨hLn, hty, _, _⟩ := hNR.lv hlj
        obtain ⟨L, HL⟩ := named (lvl (csl C) j)
        have ej : ((j : Int) + 1).toNat - 1 = j := by omega
        have HOe : Hid (O = arL l (prt L)) := by show _ = _; rw [← HO.out, ← HL.out]; unfold ouV; rw [if_pos HE.out, ej]
        have HMe : Hid (m = (szL L).length) := by show _ = _; rw [← HM.out, ← HL.out]; unfold manyV; rw [if_pos HE.out, ej]
        rw [HL.out] at hLn hty
        have HLn : Hid (L.length = n) := by show _ = _; omega
        have HC : Hid (chkE n l = 0) := by show _ = _; rw [← hn]; exact hNR.1
        have HLT : Hid (∀ v, v < n → 0 ≤ L.getD v 0 ∧ L.getD v 0 < m) := fun v hv => by
          obtain ⟨y, h1, h2⟩ := right_lt hty (u := v) (by rw [HLn.out]; exact hv)
          rw [h1, HMe.out]
          omega
        have hO8 : O.length ≤ 8192 := by rw [HOe.out]; have := cho_len (arP l (prt L)) l.length; unfold arL; omega
        have hm8 : m ≤ 1024 := by
          have h1 := szL_length L
          rw [HLn.out] at h1
          rw [HMe.out]
          omega
        have hn8 : n ≤ 1024 := by omega
        have HNR := Lib.hid hNR
        have HHN := Lib.hid hn
        have HS0 : Hid (smC l L 0 = O.length) := by show _ = _; rw [HOe.out]; exact smC_zero HC.out (fun v hv => (HLT.out v hv).1)
        have HSB : Hid (∀ c, smC l L c ≤ 8192) := fun c => by have := cho_len (arP l (upC L c)) l.length; unfold smC arL; omega
        clear hNR hLn hty HM HO ej hn hlj'
        go_wp2_with fail
        go_loopw [10, 61] (fun s i wr => ∃ (c sm : Nat), c ≤ m ∧ i = .int .i64 c ∧ s = .int .i64 sm ∧ Hid (smC l L c = sm) ∧ Hid (Below W.heap.size W wr)) (fun _ i _ => m - (intOf i).toNat)
        case atStart => exact ⟨0, O.length, Nat.zero_le _, rfl, rfl, HS0, HB4⟩
        case round =>
          clear HB4 HBR
          obtain ⟨c, sm, hc, rfl, rfl, HSM, HBR⟩ := hrel
          have HGR := Lib.hid (HGN0.out.on HBR.out)
          obtain ⟨g0, g1, g2, g3⟩ := HGR.out.cells
          have hsm : sm ≤ 8192 := by have := HSB.out c; rw [HSM.out] at this; exact this
          by_cases hlc : c < m
          · have hlc' : (c : Int) < m := by omega
            have hin : inE N l bs (csl C) ((j : Int) + 1) c = 0 := inE_ok HNR.out hlj (by rw [HL.out, ← HMe.out]; exact hlc)
            have hiv : inV N l bs (csl C) ((j : Int) + 1) c = arL l (hld L c) := by
              unfold inV
              rw [if_pos hin, show ((j : Int) + 1).toNat - 1 = j by omega, HL.out]
            have HIR := Lib.hid (inner_any N a l cap ba bs bc ca C cc ((j : Int) + 1) c wr hl hbl HGR.out.arcs HGR.out.ints HGR.out.rws)
            rw [hin, hiv] at HIR
            have HIN := Lib.hid hin
            obtain ⟨S, HS⟩ := named (arL l (hld L c))
            rw [HS.out] at HIR
            have hS8 : S.length ≤ 8192 := by rw [← HS.out]; have := cho_len (arP l (hld L c)) l.length; unfold arL; omega
            have HSN : Hid (smC l L (c + 1) = sm + S.length) := by show _ = _; rw [smC_step, HSM.out, HS.out]
            clear hin hiv
            go_wp2_with fail
            refine HIR.out.mono ?_
            rintro e w6 ⟨sv, rfl, hrow6, hb6⟩
            have HB6 : Hid (Below W.heap.size W w6) := HBR.out.trans (hb6.mono HBR.out.size)
            have HG6 := Lib.hid (HGN0.out.on HB6.out)
            have HR6 := Lib.hid hrow6.ints
            clear HIR hrow6 hb6 g0 g1 g2 g3 HGR HBR
            obtain ⟨g0, g1, g2, g3⟩ := HG6.out.cells
            by_cases hj0 : j = 0
            · have hq1 : ((j : Int) + 1 == 1) = true := by simp; omega
              clear hj0
              go_wp2_with fail
              exact ⟨⟨c + 1, sm + S.length, by omega, by simp, by simp, HSN, HB6⟩, by simp [intOf]; omega⟩
            · have hq1 : ((j : Int) + 1 == 1) = false := by simp; omega
              obtain ⟨i0, HJ⟩ : ∃ i0, Hid (j = i0 + 1) := ⟨j - 1, by show _ = _; omega⟩
              have hJ := HJ.out
              have hib : i0 < bs.length := by omega
              obtain ⟨hMn, hMty, _, _⟩ := HNR.out.lv hib
              have hnst := HNR.out.nst (show i0 + 1 < bs.length by omega)
              rw [← hJ, HL.out] at hnst
              obtain ⟨M, HMM⟩ := named (lvl (csl C) i0)
              rw [HMM.out] at hMn hMty hnst
              have hMl : M.length = n := by rw [HHN.out] at hMn; omega
              have HMt := Lib.hid hMty
              have HKD : Hid (Kid n L M c (chL M L c)) := kid_of hMl hMty hnst
              have hbe : btE N l bs (csl C) ((j : Int) + 1) c = 0 := by
                unfold btE
                rw [if_neg (by rw [HIN.out]; simp), if_neg (by omega)]
              have e2 : ((j : Int) + 1).toNat - 2 = i0 := by omega
              have e1 : ((j : Int) + 1).toNat - 1 = j := by omega
              have hbv : btV N l bs (csl C) ((j : Int) + 1) c = arL l (btP L M c) := by
                unfold btV
                rw [if_pos hbe, e1, e2, HL.out, HMM.out]
              have hce : chE N l bs (csl C) ((j : Int) + 1) c = 0 := by
                unfold chE
                rw [if_neg (by rw [HIN.out]; simp), if_neg (by omega)]
              have hcv : chV N l bs (csl C) ((j : Int) + 1) c = chL M L c := by
                unfold chV
                rw [if_pos hce, e1, e2, HL.out, HMM.out]
              have HBT := Lib.hid (between_any N a l cap ba bs bc ca C cc ((j : Int) + 1) c w6 hl hbl HG6.out.arcs HG6.out.ints HG6.out.rws)
              rw [hbe, hbv] at HBT
              obtain ⟨T, HT⟩ := named (arL l (btP L M c))
              rw [HT.out] at HBT
              have hT8 : T.length ≤ 8192 := by rw [← HT.out]; have := cho_len (arP l (btP L M c)) l.length; unfold arL; omega
              have HCE := Lib.hid hce
              have HCV := Lib.hid hcv
              have hMz : (szL M).length ≤ 1024 := by have := szL_length M; omega
              have HKB : Hid (∀ t, smK l L M c (chL M L c) t ≤ 8192) := fun t => by have := cho_len (arP l (upK L M c (chL M L c) t)) l.length; unfold smK arL; omega
              clear hbe hbv hce hcv e1 e2 hJ hj0 hMn hMty hnst
              go_wp2_with fail
              refine HBT.out.mono ?_
              rintro e w7 ⟨tv, rfl, hrow7, hb7⟩
              have HB7 : Hid (Below W.heap.size W w7) := HB6.out.trans (hb7.mono HB6.out.size)
              have HG7 := Lib.hid (HGN0.out.on HB7.out)
              have HR7 := Lib.hid hrow7.ints
              have HR67 := Lib.hid (HR6.out.on hb7)
              clear HBT hrow7 hb7 g0 g1 g2 g3 HG6 HB6 HR6
              obtain ⟨g0, g1, g2, g3⟩ := HG7.out.cells
              have HCH := Lib.hid (children_any N a l cap ba bs bc ca C cc ((j : Int) + 1) c w7 hl hbl HG7.out.arcs HG7.out.ints HG7.out.rws)
              rw [HCE.out, HCV.out] at HCH
              obtain ⟨K, HKK⟩ := named (chL M L c)
              rw [HKK.out] at HCH HKD HKB
              go_wp2_with fail
              refine HCH.out.mono ?_
              rintro e w8 ⟨cv, cc8, K2, rfl, hown8, hK2, hb8⟩
              obtain rfl : K2 = K := hK2.out
              have HB8 : Hid (Below W.heap.size W w8) := HB7.out.trans (hb8.mono HB7.out.size)
              have HRS := Lib.hid (HR67.out.on hb8)
              have HRT := Lib.hid (HR7.out.on hb8)
              have HRK := Lib.hid (own_ints hown8 rfl)
              have hK8 : K2.length ≤ 1024 := by
                rw [← HKK.out]
                have h1 := chT_len L (lsL M 0 []) (c : Int) (lsL M 0 []).length
                have h2 := ls_len HMt.out
                unfold chL
                omega
              have HKM : Hid (∀ k ∈ K2, k < (szL M).length) := fun k hk => by
                rw [← HKK.out] at hk
                have h2 := ls_len HMt.out
                unfold chL chT at hk
                simp at hk
                omega
              have HK0 : Hid (smK l L M c K2 0 = T.length) := by show _ = _; rw [smK_zero, HT.out]
              clear HCH hown8 hb8 hK2 g0 g1 g2 g3 HG7 HB7 HR67 HR7
              obtain ⟨ik, ok, hik⟩ := HRK.out.get
              have HIK := Lib.hid hik
              clear hik
              go_wp2_with fail
              go_loopw [17, 100] (fun s i wr => ∃ (t sk : Nat), t ≤ K2.length ∧ i = .int .i64 t ∧ s = .int .i64 sk ∧ Hid (smK l L M c K2 t = sk) ∧ Hid (Below w8.heap.size w8 wr)) (fun _ i _ => K2.length - (intOf i).toNat)
              case atStart => exact ⟨0, T.length, Nat.zero_le _, rfl, rfl, HK0, Below.refl _ _⟩
              case round =>
                obtain ⟨t, sk, ht, rfl, rfl, HSK, HBT⟩ := hrel
                have HBW : Hid (Below W.heap.size W wr) := HB8.out.trans (HBT.out.mono HB8.out.size)
                have HGT := Lib.hid (HGN0.out.on HBW.out)
                have hsk : sk ≤ 8192 := by have := HKB.out t; rw [HSK.out] at this; exact this
                by_cases hlt : t < K2.length
                · have hlt' : (t : Int) < K2.length := by omega
                  obtain ⟨g0, g1, g2, g3⟩ := HGT.out.cells
                  obtain ⟨rfl, hkl, hkat⟩ := HIK.out (by rw [ints_len]; omega)
                  have y0 := (HBT.out.cell (p := ⟨ik, ok + t, none⟩) hkl).trans (hkat t (by rw [ints_len]; exact hlt))
                  rw [ints_getD hlt] at y0
                  have hkM := HKM.out _ (getN_mem hlt)
                  have hkm := getN_mem hlt
                  have HSS := Lib.hid (smK_step HC.out HKD.out hlt)
                  obtain ⟨k, HKk⟩ := named (K2.getD t 0)
                  rw [HKk.out] at y0 hkM hkm HSS
                  have hjc : (j : Int) = (i0 : Int) + 1 := by have := HJ.out; omega
                  have hin2 : inE N l bs (csl C) (j : Int) k = 0 := by rw [hjc]; exact inE_ok HNR.out hib (by rw [HMM.out]; exact hkM)
                  have hiv2 : inV N l bs (csl C) (j : Int) k = arL l (hld M k) := by
                    unfold inV
                    rw [if_pos hin2, show ((j : Int)).toNat - 1 = i0 by omega, HMM.out]
                  have HIR := Lib.hid (inner_any N a l cap ba bs bc ca C cc (j : Int) k wr hl hbl HGT.out.arcs HGT.out.ints HGT.out.rws)
                  rw [hin2, hiv2] at HIR
                  have HKI : Hid (∀ x, x ∈ arL l (hld M (k : Int)) → (ints S).contains (x : Int) = true ∧ (ints T).contains (x : Int) = false) := fun x hx => by
                    have := kid_in HC.out HKD.out hkm hx
                    rw [HS.out, HT.out] at this
                    exact this
                  obtain ⟨R, HR⟩ := named (arL l (hld M (k : Int)))
                  have hR8 : R.length ≤ 8192 := by rw [← HR.out]; have := cho_len (arP l (hld M (k : Int))) l.length; unfold arL; omega
                  rw [HR.out] at HIR HKI HSS
                  have ev1 : (j : Int) + 1 - 1 = (j : Int) := by omega
                  clear hin2 hiv2 hjc hkat
                  go_wp2_with fail
                  refine HIR.out.mono ?_
                  rintro e w9 ⟨rv, rfl, hrow9, hb9⟩
                  have HB9 : Hid (Below w8.heap.size w8 w9) := HBT.out.trans (hb9.mono HBT.out.size)
                  have HRS9 := Lib.hid (HRS.out.on HB9.out)
                  have HRT9 := Lib.hid (HRT.out.on HB9.out)
                  obtain ⟨ir, or', hir⟩ := hrow9.ints.get
                  have HIRR := Lib.hid hir
                  clear HIR hrow9 hb9 g0 g1 g2 g3 hir y0
                  go_wp2_with fail
                  go_loop [117] (fun i => ∃ (q : Nat), q ≤ R.length ∧ i = .int .i64 q) (fun i => R.length - (intOf i).toNat)
                  case atStart => exact ⟨0, Nat.zero_le _, rfl⟩
                  case round =>
                    obtain ⟨q, hq, rfl⟩ := hrel
                    by_cases hlq : q < R.length
                    · have hlq' : (q : Int) < R.length := by omega
                      obtain ⟨rfl, hrl, hrat⟩ := HIRR.out (by rw [ints_len]; omega)
                      have y1 := hrat q (by rw [ints_len]; exact hlq)
                      rw [ints_getD hlq] at y1
                      obtain ⟨hx1, hx2⟩ := HKI.out _ (getN_mem hlq)
                      generalize R.getD q 0 = x at *
                      have HH1 := Lib.hid (has_any sv (ints S) S.length x w9 (by rw [ints_len]; exact hS8) HRS9.out)
                      have HH2 := Lib.hid (has_any tv (ints T) T.length x w9 (by rw [ints_len]; exact hT8) HRT9.out)
                      rw [ints_len, hx1] at HH1
                      rw [ints_len, hx2] at HH2
                      clear hrat hx1 hx2
                      go_wp2_with fail
                      refine HH1.out.mono ?_
                      rintro e w10 ⟨rfl, rfl⟩
                      go_wp2_with fail
                      refine HH2.out.mono ?_
                      rintro e w11 ⟨rfl, rfl⟩
                      go_wp2_with fail
                      exact ⟨⟨q + 1, by omega, by simp⟩, by simp [intOf]; omega⟩
                    · have hlq' : ¬ (q : Int) < R.length := by omega
                      have HSS2 : Hid (smK l L M c K2 (t + 1) = sk + R.length) := by show _ = _; rw [HSS.out, HSK.out]
                      go_wp2_with fail
                      exact ⟨⟨t + 1, sk + R.length, by omega, by simp, by simp, HSS2, HB9⟩, by simp [intOf]; omega⟩
                · have hlt' : ¬ (t : Int) < K2.length := by omega
                  have hend : sk = S.length := by
                    have e : t = K2.length := by omega
                    rw [← HSK.out, e, smK_end HC.out HKD.out, HS.out]
                  have hqq : ((S.length : Int) != S.length) = false := by simp
                  subst hend
                  go_wp2_with fail
                  exact ⟨⟨c + 1, sm + S.length, by omega, by simp, by simp, HSN, HBW⟩, by simp [intOf]; omega⟩
          · have hlc' : ¬ (c : Int) < m := by omega
            have hend : sm = l.length := by
              have e : c = m := by omega
              rw [← HSM.out, e]
              exact smC_end HC.out (fun v hv => (HLT.out v hv).2)
            have hqq : ((l.length : Int) != l.length) = false := by simp
            subst hend
            go_wp2_with fail
            exact ⟨⟨j + 1, by omega, by simp, HBR⟩, by simp [intOf]; omega⟩
      · have e1 : (E != 0) = true := by simpa using hE
        have e2 : (E == E) = true := by simp
        go_wp2_with fail
        go_ret
        exact ⟨rfl, HEND.out _ HB4.out⟩
    · have hlj' : ¬ (j : Int) + 1 ≤ bs.length := by omega
      go_wp2_with fail
      go_ret
      exact ⟨rfl, HEND.out _ HBR.out⟩
end Go.Proofs.Ytpmjbeiclmllmaa
