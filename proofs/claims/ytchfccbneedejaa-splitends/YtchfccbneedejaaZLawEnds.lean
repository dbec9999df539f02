/-
  SplitEnds holds.
-/
import Derived.Test.YtchfccbneedejaaZCD
import Derived.Test.YtchfccbneedejaaZAN
namespace Go.Proofs.Ytchfccbneedejaa
open Go.RowKit
theorem below_tr {p : Nat} {w w1 w2 : World} (h : Below p w w1) (hp : w.heap.size = p) (h2 : Below w1.heap.size w1 w2) : Below p w w2 := h.trans (h2.mono (hp ▸ h.size))
theorem getD_memQ {P : List Pr} {k : Nat} (h : k < P.length) : P.getD k Pr.zero ∈ P := by simp [List.getD, h]
theorem sameN_any (a a' : Option Addr) (cap cap' : Nat) (xs : List Nat) (w : World) (hlen : xs.length ≤ 9223372036854775807) (hr : Ints w a (ints xs)) (hr' : Ints w a' (ints xs)) :
    Calls Try.prog 16 #[.slice a xs.length cap, .slice a' xs.length cap'] w fun e w' => e = .returned (.bool true) ∧ Below w.heap.size w w' := by
  have h := sameInts_any a a' cap cap' (ints xs) w (by rw [ints_len]; exact hlen) hr hr'
  rw [ints_len] at h
  exact h
set_option maxRecDepth 100000 in
set_option maxHeartbeats 3200000 in
theorem ends_any (N : Int) (a : Option Addr) (l : List A) (cap : Nat) (ax : Option Addr) (xs : List Int) (cx : Nat) (bd : Int) (w : World) (hlen : l.length * 24 ≤ 140737488351232) (hr : Arcs w a l) (hlx : xs.length * 8 ≤ 140737488351232) (hrx : Ints w ax xs) :
    Calls Try.prog 6 #[.agg #[.int .i64 N, .slice a l.length cap], .slice ax xs.length cx, .int .i64 bd] w fun e w' => e = .returned (.bool true) ∧ Below w.heap.size w w' := by
  have HIX := Lib.hid hrx
  have hl : l.length ≤ 9223372036854775807 := by omega
  have hml : xs.length ≤ 9223372036854775807 := by omega
  have hb0 : Below w.heap.size w (w.alloc (.cells #[.int .i64 N, .slice a l.length cap] 24)) := (Below.refl _ _).alloc (Nat.le_refl _) _
  have hg := heap_top w (.cells #[.int .i64 N, .slice a l.length cap] 24)
  have HAR := Lib.hid hr
  clear hrx hr
  generalize hp : w.heap.size = p at *
  go_enter Try.func6, Try.ntmps6
  go_wp2_with fail
  generalize hW : w.alloc (.cells #[.int .i64 N, .slice a l.length cap] 24) = W at *
  refine (works_any W).mono ?_
  rintro e w1 ⟨rfl, hb1⟩
  have hg1 := (hb1.block _ (lt_of_block hg)).trans hg
  have HB1 := Lib.hid (below_tr hb0 hp hb1)
  obtain ⟨⟨g0, g1⟩, _⟩ := two_cells hg1
  clear hb1 hg hb0 hW
  go_wp2_with fail
  refine (large_any N a l cap w1 hl (HAR.out.on (by rw [hp]; exact HB1.out))).mono ?_
  rintro e w2 ⟨rfl, hb2⟩
  have hg2 := (hb2.block _ (lt_of_block hg1)).trans hg1
  have HB2 := Lib.hid (below_tr HB1.out hp hb2)
  clear hb2 g0 g1
  obtain ⟨⟨g0, g1⟩, _⟩ := two_cells hg2
  obtain ⟨V, HV⟩ := named (lgB N l)
  rw [HV.out]
  cases V
  · go_wp2_with fail
    refine (join_all N a l cap ax xs cx bd w2 hl hml (HAR.out.on (by rw [hp]; exact HB2.out)) (HIX.out.on (by rw [hp]; exact HB2.out))).mono ?_
    rintro e w3 ⟨v3, c3, E, rfl, hown3, hJ, hb3⟩
    have hg3 := (hb3.block _ (lt_of_block hg2)).trans hg2
    have HB3 := Lib.hid (below_tr HB2.out hp hb3)
    have HI3 := Lib.hid (own_ints hown3 rfl)
    obtain ⟨⟨z0, z1⟩, _⟩ := two_cells hg3
    clear hb3 hown3 g0 g1
    by_cases hE : jnE N l xs bd = 0
    · obtain ⟨hck, _⟩ := jnE_zero hE
      obtain ⟨h1, h2, h3, h4, h5⟩ := ckE_zero hck
      rw [hE]
      obtain ⟨L, HL⟩ := named (xs.map Int.toNat)
      have e1 : xs = ints L := by rw [← HL.out]; exact right_ints h3
      obtain ⟨B, rfl⟩ : ∃ B : Nat, bd = (B : Int) := ⟨bd.toNat, by omega⟩
      have hLn : L.length = xs.length := by rw [e1, ints_len]
      have hC : chkE (L.length : Nat) l = 0 := by rw [hLn, h2]; exact h1
      have hN : N = ((L.length : Nat) : Int) := by rw [hLn]; exact h2.symm
      have hJ' := hJ.out
      rw [hN, e1] at hJ' hE
      obtain ⟨q1, q2, q3, q4, q5, q6, q7⟩ := ends_hold hC rfl hE hJ'
      have hNE : N = ((E.length : Nat) : Int) := by rw [q1]; exact hN
      have hXE : xs.length = E.length := by rw [q1]; exact hLn.symm
      have hLE : L.length = E.length := q1.symm
      have hCE : chkE (E.length : Nat) l = 0 := by rw [q1]; exact hC
      have hT : tdy (ints L) 0 = true := e1 ▸ h3
      subst hNE
      rw [hXE]
      rw [hLE] at q5 q6
      obtain ⟨hE1, hEn, hll, hoa⟩ := chk_zero hCE
      clear hoa hJ hJ'
      have hEn' : E.length ≤ 1024 := by omega
      have HIL : Hid (Ints w ax (ints L)) := by rw [← e1]; exact HIX.out
      have HPI := Lib.hid (prl_in hCE)
      have hPL : (prl l).length ≤ 8192 := Nat.le_trans (prl_len l) hll
      have HC := Lib.hid hCE
      have HQ2 := Lib.hid q2
      have HQ4 := Lib.hid q4
      have HQ5 := Lib.hid q5
      have HSI := Lib.hid (siE_ok hCE rfl q2)
      have HSO := Lib.hid (right_sz q2)
      have hS1 : (szL (ints E)).length ≤ 1024 := Nat.le_trans (szL_length _) (by rw [ints_len]; exact hEn')
      have HSB : Hid (∀ j, (szL (ints E)).getD j 0 ≤ 1024) := fun j => by rw [sz_cnt q2]; exact Nat.le_trans List.count_le_length hEn'
      have HCE := Lib.hid (cnt_ok hCE rfl q2)
      have HCL := Lib.hid (cnt_ok hCE hLE hT)
      have HJ6 := Lib.hid q6
      have HLE := Lib.hid hLE
      obtain ⟨cE, HKE⟩ := named (cntB (ints E) (prl l))
      obtain ⟨cL, HKL⟩ := named (cntB (ints L) (prl l))
      have hcc : (cE : Int) ≤ (cL : Int) := by rw [← HKE.out, ← HKL.out]; omega
      obtain ⟨PP, HPP⟩ := named (prl l)
      have hB1 : 1 ≤ B := by omega
      have hB2 : B ≤ 1024 := by omega
      rw [HPP.out] at HPI hPL HQ4
      have HAR3 := Lib.hid (HAR.out.on (show Below w.heap.size w w3 by rw [hp]; exact HB3.out))
      have HSZ := Lib.hid (sizes_any E.length a l cap v3 (ints E) c3 w3 hl (by rw [ints_len]; omega) HAR3.out HI3.out)
      rw [HSI.out, if_pos rfl, ints_len] at HSZ
      obtain ⟨S, HS⟩ := named (szL (ints E))
      rw [HS.out] at HSZ HSO hS1 HSB HQ4
      clear hXE hE hck h1 h2 h3 h4 h5 e1 hLn hC hN q1 q2 q3 q4 q5 q6 q7 hLE hCE hT
      go_wp2_with fail
      refine HSZ.out.mono ?_
      rintro e w4 ⟨v4, c4, S', rfl, hown4, rfl, hb4⟩
      have hg4 := (hb4.block _ (lt_of_block hg3)).trans hg3
      have HB4 := Lib.hid (below_tr HB3.out hp hb4)
      have HI4 := Lib.hid (HI3.out.on hb4)
      have HS4 := Lib.hid (own_ints hown4 rfl)
      obtain ⟨⟨g0, g1⟩, _⟩ := two_cells hg4
      have HPA := Lib.hid (pairs_any E.length a l cap w4 hl (HAR.out.on (by rw [hp]; exact HB4.out)))
      rw [HC.out, if_pos rfl, HPP.out] at HPA
      clear hb4 hown4 z0 z1 HSZ
      go_wp2_with fail
      refine HPA.out.mono ?_
      rintro e w5 ⟨pv, pc, ps, rfl, hown5, hps, hb5⟩
      subst hps
      have hg5 := (hb5.block _ (lt_of_block hg4)).trans hg4
      have HG5 := Lib.hid hg5
      have HB5 := Lib.hid (below_tr HB4.out hp hb5)
      have HI5 := Lib.hid (HI4.out.on hb5)
      have HS5 := Lib.hid (HS4.out.on hb5)
      obtain ⟨ib, io, hib⟩ := hown5.prs.get
      obtain ⟨ix, ox, hix⟩ := HI5.out.get
      obtain ⟨iy, oy, hiy⟩ := HS5.out.get
      have HIB := Lib.hid hib
      have HX := Lib.hid hix
      have HY := Lib.hid hiy
      clear hb5 hown5 g0 g1 HPA hib hix hiy
      go_wp2_with fail
      go_loopw [58] (fun i wr => ∃ k : Nat, k ≤ ps.length ∧ i = .int .i64 k ∧ Hid (Below w5.heap.size w5 wr)) (fun i _ => ps.length - (intOf i).toNat)
      case atStart => exact ⟨0, Nat.zero_le _, rfl, Below.refl _ _⟩
      case round =>
        obtain ⟨k, hk, rfl, HK⟩ := hrel
        by_cases hlk : k < ps.length
        · have hlk' : (k : Int) < ps.length := by omega
          obtain ⟨rfl, hbl, hat⟩ := HIB.out (by omega)
          have hat := hat k hlk
          have hPk := HPI.out _ (getD_memQ hlk)
          have hq4 := HQ4.out _ (getD_memQ hlk)
          obtain ⟨q, HQ⟩ := named (ps.getD k Pr.zero)
          rw [HQ.out] at hat hPk hq4
          obtain ⟨qa, qb⟩ := q
          have y0 : wr.cell? ⟨ib, io + k * 2, none⟩ = some (.int .i64 (qa : Int)) := (HK.out.cell (p := ⟨ib, io + k * 2, none⟩) hbl).trans hat.1
          have y1 : wr.cell? ⟨ib, io + k * 2 + 1, none⟩ = some (.int .i64 (qb : Int)) := (HK.out.cell (p := ⟨ib, io + k * 2 + 1, none⟩) hbl).trans hat.2
          have hqa : qa < E.length := hPk.1
          have hqb : qb < E.length := hPk.2
          have hqa' : (qa : Int) < E.length := by omega
          have hqb' : (qb : Int) < E.length := by omega
          clear hat hPk
          obtain ⟨rfl, hbx, hax⟩ := HX.out (by rw [ints_len]; omega)
          have HBX : Hid (Below wr.heap.size wr (wr.alloc (.cells #[.int .i64 (qa : Int), .int .i64 (qb : Int)] 42))) := (Below.refl _ _).alloc (Nat.le_refl _) _
          have HBY : Hid (Below w5.heap.size w5 (wr.alloc (.cells #[.int .i64 (qa : Int), .int .i64 (qb : Int)] 42))) := HK.out.trans (HBX.out.mono HK.out.size)
          have z0 := (HBY.out.cell (p := ⟨ix, ox + qa, none⟩) hbx).trans (hax qa (by rw [ints_len]; exact hqa))
          have z1 := (HBY.out.cell (p := ⟨ix, ox + qb, none⟩) hbx).trans (hax qb (by rw [ints_len]; exact hqb))
          rw [ints_getD hqa] at z0
          rw [ints_getD hqb] at z1
          have hla := (HSO.out _ (by rw [getD_in hqa]; exact List.getElem_mem _ : E.getD qa 0 ∈ E)).1
          have hlb := (HSO.out _ (by rw [getD_in hqb]; exact List.getElem_mem _ : E.getD qb 0 ∈ E)).1
          have hq5 : E.getD qa 0 ≠ E.getD qb 0 → B < S'.getD (E.getD qa 0) 0 + S'.getD (E.getD qb 0) 0 := hq4
          clear hq4
          generalize E.getD qa 0 = la at *
          generalize E.getD qb 0 = lb at *
          obtain ⟨rfl, hby, hay⟩ := HY.out (by rw [ints_len]; omega)
          have s0 := (HBY.out.cell (p := ⟨iy, oy + la, none⟩) hby).trans (hay la (by rw [ints_len]; exact hla))
          have s1 := (HBY.out.cell (p := ⟨iy, oy + lb, none⟩) hby).trans (hay lb (by rw [ints_len]; exact hlb))
          rw [ints_getD hla] at s0
          rw [ints_getD hlb] at s1
          have hsa := HSB.out la
          have hsb := HSB.out lb
          have HQ6 := Lib.hid hq5
          generalize S'.getD la 0 = sa at *
          generalize S'.getD lb 0 = sb at *
          have hla' : (la : Int) < S'.length := by omega
          have hlb' : (lb : Int) < S'.length := by omega
          have hgx := heap_top wr (.cells #[.int .i64 (qa : Int), .int .i64 (qb : Int)] 42)
          obtain ⟨⟨c0, c1⟩, _⟩ := two_cells hgx
          have hw : IntKind.i64.wrap ((sa : Int) + (sb : Int)) = (sa : Int) + (sb : Int) := by rw [IntKind.wrap_i64]; omega
          clear hax hay hgx hq5
          go_wp2_with fail
          clear y0 y1
          generalize hX : wr.alloc (.cells #[.int .i64 (qa : Int), .int .i64 (qb : Int)] 42) = X at *
          clear hX HBX
          go_quiet (fail)
          have HBZ : Hid (Below w5.heap.size w5 (X.drewN nq)) := HBY.out.trans ⟨rfl, rfl, rfl, Nat.le_refl _, fun _ _ => rfl⟩
          have t0 : (X.drewN nq).cell? ⟨iy, oy + la, none⟩ = some (.int .i64 (sa : Int)) := s0
          have t1 : (X.drewN nq).cell? ⟨iy, oy + lb, none⟩ = some (.int .i64 (sb : Int)) := s1
          clear s0 s1 z0 z1 c0 c1 HBY
          generalize X.drewN nq = Y at *
          by_cases hab : la = lb
          · have hab' : ((la : Int) != (lb : Int)) = false := by simp; omega
            clear hab
            go_wp2_with fail
            go_quiet (fail)
            go_wp2_with fail
            exact ⟨⟨k + 1, by omega, by simp, HBZ.out.trans ⟨rfl, rfl, rfl, Nat.le_refl _, fun _ _ => rfl⟩⟩, by simp [intOf]; omega⟩
          · have hab' : ((la : Int) != (lb : Int)) = true := by simp; omega
            have hgt := HQ6.out hab
            have hle : ¬ (sa : Int) + (sb : Int) ≤ B := by omega
            clear hab hgt
            go_wp2_with fail
            go_quiet (fail)
            go_wp2_with fail
            exact ⟨⟨k + 1, by omega, by simp, HBZ.out.trans ⟨rfl, rfl, rfl, Nat.le_refl _, fun _ _ => rfl⟩⟩, by simp [intOf]; omega⟩
        · have hlk' : ¬ (k : Int) < ps.length := by omega
          have HB6 := Lib.hid (below_tr HB5.out hp HK.out)
          have hg6 := (HK.out.block _ (lt_of_block HG5.out)).trans HG5.out
          obtain ⟨⟨g0, g1⟩, _⟩ := two_cells hg6
          have HG6 := Lib.hid hg6
          have HI6 := Lib.hid (HI5.out.on HK.out)
          have HJO := Lib.hid (join_all E.length a l cap v3 (ints E) c3 B wr hl (by rw [ints_len]; omega) (HAR.out.on (by rw [hp]; exact HB6.out)) HI6.out)
          rw [HJ6.out, ints_len] at HJO
          clear hg6
          go_wp2_with fail
          refine HJO.out.mono ?_
          rintro e w7 ⟨v7, c7, E7, rfl, hown7, hJ7, hb7⟩
          obtain rfl : E7 = E := HQ5.out E7 hJ7.out
          have hg7 := (hb7.block _ (lt_of_block HG6.out)).trans HG6.out
          have HG7 := Lib.hid hg7
          have HB7 := Lib.hid (below_tr HB6.out hp hb7)
          have HI7 := Lib.hid (HI6.out.on hb7)
          have HJ7 := Lib.hid (own_ints hown7 rfl)
          have HCO := Lib.hid (count_any E7.length a l cap ax (ints L) cx w7 hl (by rw [ints_len, HLE.out]; omega) (HAR.out.on (by rw [hp]; exact HB7.out)) (HIL.out.on (by rw [hp]; exact HB7.out)))
          rw [HCL.out, if_pos rfl, HPP.out] at HCO
          rw [HPP.out] at HKE HKL
          rw [HKL.out, ints_len, HLE.out] at HCO
          clear g0 g1 hb7 hown7 hJ7 HJO
          obtain ⟨⟨g0, g1⟩, _⟩ := two_cells hg7
          clear hg7
          go_wp2_with fail
          refine HCO.out.mono ?_
          rintro e w8 ⟨rfl, hb8⟩
          have hg8 := (hb8.block _ (lt_of_block HG7.out)).trans HG7.out
          have HB8 := Lib.hid (below_tr HB7.out hp hb8)
          have HI8 := Lib.hid (HI7.out.on hb8)
          have HJ8 := Lib.hid (HJ7.out.on hb8)
          have HCP := Lib.hid (count_any E7.length a l cap v3 (ints E7) c3 w8 hl (by rw [ints_len]; omega) (HAR.out.on (by rw [hp]; exact HB8.out)) HI8.out)
          rw [HCE.out, if_pos rfl, HPP.out, HKE.out, ints_len] at HCP
          clear g0 g1 hb8 HCO
          obtain ⟨⟨g0, g1⟩, _⟩ := two_cells hg8
          go_wp2_with fail
          refine HCP.out.mono ?_
          rintro e w9 ⟨rfl, hb9⟩
          have HB9 := Lib.hid (below_tr HB8.out hp hb9)
          have HI9 := Lib.hid (HI8.out.on hb9)
          have HJ9 := Lib.hid (HJ8.out.on hb9)
          clear hb9 HCP g0 g1
          go_wp2_with fail
          refine (sameN_any v3 v7 c3 c7 E7 w9 (by omega) HI9.out HJ9.out).mono ?_
          rintro e w10 ⟨rfl, hb10⟩
          have HB10 := Lib.hid (below_tr HB9.out hp hb10)
          clear hb10
          go_wp2_with fail
          go_ret
          exact ⟨rfl, HB10.out⟩
    · have h0 := hJ.out.2 hE
      subst h0
      obtain ⟨G, HG⟩ := named (jnE N l xs bd)
      rw [HG.out] at hE ⊢
      have e1 : (G != 0) = true := by simpa using hE
      have e2 : ((([] : List Nat).length : Int) == 0) = true := rfl
      clear hE hJ
      go_wp2_with fail
      go_ret
      exact ⟨rfl, HB3.out⟩
  · go_wp2_with fail
    go_ret
    exact ⟨rfl, HB2.out⟩
end Go.Proofs.Ytchfccbneedejaa
