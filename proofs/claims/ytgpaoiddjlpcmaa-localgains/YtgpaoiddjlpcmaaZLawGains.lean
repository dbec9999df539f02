/-
  LocalGains holds.
-/
import Derived.Test.YtgpaoiddjlpcmaaZAV
import Derived.Test.YtgpaoiddjlpcmaaZAQ
import Derived.Test.YtgpaoiddjlpcmaaZAR
namespace Go.Proofs.Ytgpaoiddjlpcmaa.Gains
open Go.RowKit Go.Maps
theorem below_tr {p : Nat} {w w1 w2 : World} (h : Below p w w1) (hp : w.heap.size = p) (h2 : Below w1.heap.size w1 w2) : Below p w w2 := h.trans (h2.mono (hp ▸ h.size))
theorem four_cells {w : World} {b : Nat} {x0 x1 x2 x3 : Value} {t : TypeId} (h : w.heap[b]? = some (.cells #[x0, x1, x2, x3] t)) : w.cell? ⟨b, 2, none⟩ = some x2 ∧ w.cell? ⟨b, 3, none⟩ = some x3 := ⟨by simp [World.cell?, h], by simp [World.cell?, h]⟩
theorem szL_len (xs : List Int) : ∀ k, k ≤ xs.length → (szL (xs.take k)).length ≤ k
  | 0, _ => by simp [szL]
  | k + 1, h => by
    have ih := szL_len xs k (by omega)
    rw [take_snocI (by omega), szL_snoc]
    unfold szS
    split
    · simp; omega
    · rw [List.length_set]; omega
set_option maxRecDepth 100000 in
set_option maxHeartbeats 1600000 in
theorem gains_any (N : Int) (a : Option Addr) (l : List A) (cap : Nat) (ax : Option Addr) (xs : List Int) (cx : Nat) (q0 q1 bd mo : Int) (w : World) (hlen : l.length * 24 ≤ 140737488351232) (hr : Arcs w a l) (hlx : xs.length * 8 ≤ 140737488351232) (hrx : Ints w ax xs) :
    Calls Try.prog 5 #[.agg #[.int .i64 N, .slice a l.length cap], .slice ax xs.length cx, .agg #[.int .i64 q0, .int .i64 q1, .int .i64 bd, .int .i64 mo]] w fun e w' => e = .returned (.bool true) ∧ Below w.heap.size w w' := by
  have hl : l.length ≤ 9223372036854775807 := by omega
  have hx : xs.length ≤ 9223372036854775807 := by omega
  have hb0 : Below w.heap.size w ((w.alloc (.cells #[.int .i64 N, .slice a l.length cap] 24)).alloc (.cells #[.int .i64 q0, .int .i64 q1, .int .i64 bd, .int .i64 mo] 27)) := ((Below.refl _ _).alloc (Nat.le_refl _) _).alloc (by simp) _
  have hg : ((w.alloc (.cells #[.int .i64 N, .slice a l.length cap] 24)).alloc (.cells #[.int .i64 q0, .int .i64 q1, .int .i64 bd, .int .i64 mo] 27)).heap[w.heap.size]? = some (.cells #[.int .i64 N, .slice a l.length cap] 24) := (Below.heap_alloc _ _ _ (by simp)).trans (heap_top w _)
  have hk : ((w.alloc (.cells #[.int .i64 N, .slice a l.length cap] 24)).alloc (.cells #[.int .i64 q0, .int .i64 q1, .int .i64 bd, .int .i64 mo] 27)).heap[w.heap.size + 1]? = some (.cells #[.int .i64 q0, .int .i64 q1, .int .i64 bd, .int .i64 mo] 27) := by
    have h := heap_top (w.alloc (.cells #[.int .i64 N, .slice a l.length cap] 24)) (.cells #[.int .i64 q0, .int .i64 q1, .int .i64 bd, .int .i64 mo] 27)
    rw [World.size_alloc] at h
    exact h
  have HAR := Lib.hid hr
  have HAX := Lib.hid hrx
  have HB0 := Lib.hid hb0
  obtain ⟨⟨g0, g1⟩, _⟩ := two_cells hg
  clear hb0 hr hrx
  generalize hp : w.heap.size = p at *
  go_enter Try.func5, Try.ntmps5
  generalize hW : (w.alloc (.cells #[.int .i64 N, .slice a l.length cap] 24)).alloc (.cells #[.int .i64 q0, .int .i64 q1, .int .i64 bd, .int .i64 mo] 27) = W at *
  go_wp2_with fail
  clear hW
  refine (works_any W).mono ?_
  rintro e w1 ⟨rfl, hb1⟩
  have hg1 := (hb1.block _ (lt_of_block hg)).trans hg
  have hk1 := (hb1.block _ (lt_of_block hk)).trans hk
  have HB1 := Lib.hid (below_tr HB0.out hp hb1)
  clear hb1 g0 g1 hg hk
  obtain ⟨⟨g0, g1⟩, _⟩ := two_cells hg1
  have HLG := Lib.hid (large_any N a l cap w1 hl (HAR.out.on (by rw [hp]; exact HB1.out)))
  obtain ⟨V, HV⟩ := named (lgB N l)
  rw [HV.out] at HLG
  go_wp2_with fail
  refine HLG.out.mono ?_
  rintro e w2 ⟨rfl, hb2⟩
  have hg2 := (hb2.block _ (lt_of_block hg1)).trans hg1
  have hk2 := (hb2.block _ (lt_of_block hk1)).trans hk1
  have HB2 := Lib.hid (below_tr HB1.out hp hb2)
  clear hb2 g0 g1 HLG hg1 hk1
  obtain ⟨⟨g0, g1⟩, _⟩ := two_cells hg2
  cases V
  rotate_left
  · go_wp2_with fail
    go_ret
    exact ⟨rfl, HB2.out⟩
  obtain ⟨b0, b1⟩ := four_cells hk2
  have HX1 := Lib.hid (next_top N a l cap ax xs cx bd w2 hl hx (HAR.out.on (by rw [hp]; exact HB2.out)) (HAX.out.on (by rw [hp]; exact HB2.out)))
  obtain ⟨Z, HZ⟩ := named (luE N l xs bd)
  rw [HZ.out] at HX1
  go_wp2_with fail
  refine HX1.out.mono ?_
  rintro e w3 ⟨nv, nx, so, rfl, hb3, HM1, HM2⟩
  have hg3 := (hb3.block _ (lt_of_block hg2)).trans hg2
  have hk3 := (hb3.block _ (lt_of_block hk2)).trans hk2
  have HB3 := Lib.hid (below_tr HB2.out hp hb3)
  clear hb3 g0 g1 b0 b1 HX1 hg2 hk2
  obtain ⟨⟨g0, g1⟩, _⟩ := two_cells hg3
  obtain ⟨b0, b1⟩ := four_cells hk3
  by_cases hZ : Z ≠ 0
  · obtain ⟨h1, h2, h3⟩ := HM2.out hZ
    subst h1
    subst h2
    subst h3
    have z1 : (Z != 0) = true := by simpa using hZ
    go_wp2_with fail
    go_ret
    exact ⟨rfl, HB3.out⟩
  have hZ0 : Z = 0 := by simpa using hZ
  have z1 : (Z != 0) = false := by simpa using hZ0
  obtain ⟨L, B, hxL, hNL, hbB, hc0, htd, hnm⟩ := HM1.out hZ0
  subst hxL
  subst hbB
  subst hNL
  have hNL : (L.length : Int) = (L.length : Int) := rfl
  have hlu : luE (L.length : Int) l (ints L) (B : Int) = 0 := HZ.out.trans hZ0
  obtain ⟨hB1, hB2, hu⟩ := lu_und hlu htd
  have hcn := (lu_ok hc0 hNL htd hB1 hB2 hu).1
  have HS1 := Lib.hid (sizes_any L.length a l cap ax (ints L) cx w3 hl hx (HAR.out.on (by rw [hp]; exact HB3.out)) (HAX.out.on (by rw [hp]; exact HB3.out)))
  rw [si_cnt, hcn] at HS1
  have hPL := prl_PIn hc0 hNL
  have hd := prl_ne hc0
  obtain ⟨hN1, hN2, hll, _⟩ := chk_zero hc0
  have hL1 : 0 < L.length ∧ L.length ≤ 1024 := by omega
  have HC0 := Lib.hid hc0
  have HTD := Lib.hid htd
  have HLU := Lib.hid hlu
  have HU := Lib.hid hu
  have HCN := Lib.hid hcn
  have HPL := Lib.hid hPL
  have HDD := Lib.hid hd
  have HNM := Lib.hid hnm
  clear hc0 hNL htd hlu hu hcn hPL hd hnm HM1 HM2 hZ0 hZ
  go_wp2_with fail
  refine HS1.out.mono ?_
  rintro e w4 ⟨v4, c4, S, rfl, hown4, hS, hb4⟩
  rw [if_pos trivial] at hS
  have hg4 := (hb4.block _ (lt_of_block hg3)).trans hg3
  have hk4 := (hb4.block _ (lt_of_block hk3)).trans hk3
  have HB4 := Lib.hid (below_tr HB3.out hp hb4)
  have HO4 := Lib.hid (own_ints hown4 rfl)
  have HSE := Lib.hid hS
  have hSk : S.length ≤ 1024 := by
    have q := szL_len (ints L) (ints L).length (Nat.le_refl _)
    rw [List.take_length, ints_len] at q
    rw [hS]
    omega
  clear hb4 g0 g1 b0 b1 HS1 hg3 hk3 hown4 hS
  obtain ⟨⟨g0, g1⟩, _⟩ := two_cells hg4
  obtain ⟨b0, b1⟩ := four_cells hk4
  have HW4 : Hid (Below w4.heap.size w4 w4) := Below.refl _ _
  have HBT : Hid (Bt (prl l) L B L.length S.length (fun u' _ => u' < 0) 0) := Bt.start (fun u' _ h => absurd h (Nat.not_lt_zero _))
  have HG4 := Lib.hid hg4
  have HK4 := Lib.hid hk4
  have hx2 : L.length ≤ 9223372036854775807 := by omega
  clear g0 g1 b0 b1 hg4 hk4 hx
  go_wp2_with fail
  go_loopw [13, 14] (fun s13 s14 wr => ∃ (u : Nat) (b : Int), u ≤ L.length ∧ s14 = .int .i64 (u : Int) ∧ s13 = .int .i64 b ∧ Hid (Bt (prl l) L B L.length S.length (fun u' _ => u' < u) b) ∧ Hid (Below w4.heap.size w4 wr)) (fun _ s14 _ => L.length - (intOf s14).toNat)
  case atStart => exact ⟨0, 0, Nat.zero_le _, rfl, rfl, HBT, HW4⟩
  case round =>
    clear HBT HW4
    obtain ⟨u, b, hul, rfl, rfl, HBT, HWR⟩ := hrel
    have hgr := (HWR.out.block _ (lt_of_block HG4.out)).trans HG4.out
    obtain ⟨⟨g0, g1⟩, _⟩ := two_cells hgr
    by_cases hlt : u < L.length
    · have hlt' : (u : Int) < L.length := by omega
      have HGR := Lib.hid hgr
      clear hgr
      have HB0 : Hid (Bt (prl l) L B L.length S.length (fun u' y' => u' < u ∨ (u' = u ∧ y' < 0)) b) := HBT.out.same (fun u' y' h _ _ => h.elim id (fun h => absurd h.2 (Nat.not_lt_zero _)))
      go_wp2_with fail
      clear g0 g1
      go_loopw [13, 73] (fun s13 s73 wi => ∃ (y : Nat) (b : Int), y ≤ S.length ∧ s73 = .int .i64 (y : Int) ∧ s13 = .int .i64 b ∧ Hid (Bt (prl l) L B L.length S.length (fun u' y' => u' < u ∨ (u' = u ∧ y' < y)) b) ∧ Hid (Below w4.heap.size w4 wi)) (fun _ s73 _ => S.length - (intOf s73).toNat)
      case atStart => exact ⟨0, b, Nat.zero_le _, rfl, rfl, HB0, HWR⟩
      case round =>
        clear HB0 HBT HWR HGR
        obtain ⟨y, b, hyl, rfl, rfl, HBT, HWR⟩ := hrel
        by_cases hlk : y < S.length
        · have hlk' : (y : Int) < S.length := by omega
          have hgi := (HWR.out.block _ (lt_of_block HG4.out)).trans HG4.out
          obtain ⟨⟨g0, g1⟩, _⟩ := two_cells hgi
          have HBI : Hid (Below p w wr) := below_tr HB4.out hp HWR.out
          have HGA := Lib.hid (gain_top L.length a l cap ax (ints L) cx u y wr hl (by rw [ints_len]; exact hx2) (HAR.out.on (by rw [hp]; exact HBI.out)) (HAX.out.on (by rw [hp]; exact HBI.out)))
          obtain ⟨G, HG⟩ := named (gaE (L.length : Int) l (ints L) (u : Int) (y : Int))
          rw [HG.out] at HGA
          have HG0 : Hid (G = 0) := by
            show G = 0
            rw [← HG.out]
            unfold gaE
            rw [HCN.out, if_neg (by simp), ← HSE.out, if_neg (by omega)]
          have q1 : (G != 0) = false := by rw [HG0.out]; rfl
          go_wp2_with fail
          refine HGA.out.mono ?_
          rintro e w6 ⟨gv, rfl, hb6, HQ1, _⟩
          obtain ⟨L', u', y', e1, z1', z2', z3', e5, e6, e7⟩ := HQ1.out HG0.out
          obtain rfl : L' = L := ints_inj e1.symm
          obtain rfl : u' = u := by omega
          obtain rfl : y' = y := by omega
          have HW6 : Hid (Below w4.heap.size w4 w6) := HWR.out.trans (hb6.mono HWR.out.size)
          have hg6 := (HW6.out.block _ (lt_of_block HG4.out)).trans HG4.out
          have hk6 := (HW6.out.block _ (lt_of_block HK4.out)).trans HK4.out
          have HE7 := Lib.hid e7
          have HI6 := Lib.hid ((HAX.out.on (by rw [hp]; exact HBI.out)).on hb6)
          have HS6 := Lib.hid (HO4.out.on HW6.out)
          clear e1 z1' z2' z3' e5 e6 e7 HQ1 hb6 g0 g1 hgi HGA
          obtain ⟨ix, ox, hix⟩ := HI6.out.get
          obtain ⟨hax, _, hat⟩ := hix (by rw [ints_len]; omega)
          have d1 := hat u' (by rw [ints_len]; exact hlt)
          rw [getD_ints] at d1
          obtain ⟨jx, kx, hjx⟩ := HS6.out.get
          obtain ⟨hv4, _, hjt⟩ := hjx (by rw [ints_len]; omega)
          have d2 := hjt y' (by rw [ints_len]; exact hlk)
          rw [getD_ints] at d2
          have HSC : Hid (S.getD y' 0 = L'.count y') := by show S.getD y' 0 = _; rw [HSE.out]; exact sz_cnt HTD.out y'
          obtain ⟨b0, b1⟩ := four_cells hk6
          obtain ⟨lu, HLV⟩ := named (L'.getD u' 0)
          obtain ⟨sy, HSY⟩ := named (S.getD y' 0)
          rw [HLV.out] at d1
          rw [HSY.out] at d2 HSC
          clear hix hat hjx hjt hg6 hk6
          subst hax
          subst hv4
          have HW7 : ∀ q, Hid (Below w4.heap.size w4 (w6.drewN q)) := fun q => ⟨HW6.out.os, HW6.out.tape, HW6.out.output, HW6.out.size, HW6.out.block⟩
          have hlt2 : (u' : Int) < (ints L').length := by rw [ints_len]; omega
          have hD : ∀ u2 y2, (u2 < u' ∨ (u2 = u' ∧ y2 < y' + 1)) → (u2 < u' ∨ (u2 = u' ∧ y2 < y')) ∨ (u2 = u' ∧ y2 = y') := fun u2 y2 h => by omega
          by_cases c1 : y' = lu
          · have e1 : ((y' : Int) != (lu : Int)) = false := by rw [c1]; simp
            have HB1 : Hid (Bt (prl l) L' B L'.length S.length (fun u2 y2 => u2 < u' ∨ (u2 = u' ∧ y2 < y' + 1)) b) := HBT.out.leave hD (fun h => h.1 (by rw [HLV.out]; exact c1))
            clear hD c1
            go_wp2_with fail
            go_quiet (fail)
            go_wp2_with fail
            exact ⟨⟨y' + 1, b, hlk, by simp, rfl, HB1, HW7 _⟩, by simp [intOf]; omega⟩
          · have e1 : ((y' : Int) != (lu : Int)) = true := by simp; omega
            by_cases c2 : (sy : Int) < B
            · have e2 : decide ((sy : Int) < (B : Int)) = true := decide_eq_true c2
              have HB1 : Hid (Bt (prl l) L' B L'.length S.length (fun u2 y2 => u2 < u' ∨ (u2 = u' ∧ y2 < y' + 1)) (max b gv)) := by
                show Bt (prl l) L' B L'.length S.length (fun u2 y2 => u2 < u' ∨ (u2 = u' ∧ y2 < y' + 1)) (max b gv)
                rw [HE7.out]
                exact HBT.out.take hD hlt hlk (by rw [HLV.out]; exact c1) (by rw [← HSC.out]; omega)
              clear hD
              go_wp2_with fail
              go_quiet (fail)
              go_wp2_with fail
              exact ⟨⟨y' + 1, _, hlk, by simp, rfl, HB1, HW7 _⟩, by simp [intOf]; omega⟩
            · have e2 : decide ((sy : Int) < (B : Int)) = false := decide_eq_false c2
              have HB1 : Hid (Bt (prl l) L' B L'.length S.length (fun u2 y2 => u2 < u' ∨ (u2 = u' ∧ y2 < y' + 1)) b) := HBT.out.leave hD (fun h => c2 (by have := h.2; rw [← HSC.out] at this; omega))
              clear hD
              go_wp2_with fail
              go_quiet (fail)
              go_wp2_with fail
              exact ⟨⟨y' + 1, b, hlk, by simp, rfl, HB1, HW7 _⟩, by simp [intOf]; omega⟩
        · have hlk' : ¬ (y : Int) < S.length := by omega
          obtain rfl : y = S.length := by omega
          have HB1 : Hid (Bt (prl l) L B L.length S.length (fun u' _ => u' < u + 1) b) := HBT.out.same (fun u' y' h _ hy => by
            have h : u' < u + 1 := h
            by_cases c : u' = u
            · exact .inr ⟨c, hy⟩
            · exact .inl (by omega))
          go_wp2_with fail
          exact ⟨⟨u + 1, b, hlt, by simp, rfl, HB1, HWR⟩, by simp [intOf]; omega⟩
    · have hlt' : ¬ (u : Int) < L.length := by omega
      obtain rfl : u = L.length := by omega
      have hkr := (HWR.out.block _ (lt_of_block HK4.out)).trans HK4.out
      obtain ⟨b0, b1⟩ := four_cells hkr
      have HBR : Hid (Below p w wr) := below_tr HB4.out hp HWR.out
      rcases HNM.out with ⟨rfl, f, hnx, hfx⟩ | ⟨rfl, rfl, rfl, hno⟩
      rotate_left
      · have hb0 := HBT.out.stop HPL.out hno
        subst hb0
        go_wp2_with fail
        go_ret
        exact ⟨rfl, HBR.out⟩
      have HBT2 := HBT.out
      rw [HSE.out] at HBT2
      have hbest := HBT2.next (fun u y hu _ => hu) HTD.out HPL.out hnx
      have hvl := hnx.1.1
      have hxk : nx < S.length := by rw [← hfx, HSE.out]; exact lab_lt HTD.out hnx.1.2.1
      have hbto := hnx.1.bt HDD.out
      rw [hfx] at hbest hbto
      have hgb : gn (prl l) L nv f = b := by rw [← hbest]; unfold gn gaV; rw [hfx]
      rw [hgb] at hbto
      have HBE := Lib.hid hbest
      have HNX := Lib.hid hnx
      have HFX := Lib.hid hfx
      have HBO := Lib.hid hbto
      clear hbest hnx hfx hbto HBT2 hgb HNM
      have HGA := Lib.hid (gain_top L.length a l cap ax (ints L) cx nv nx wr hl (by rw [ints_len]; exact hx2) (HAR.out.on (by rw [hp]; exact HBR.out)) (HAX.out.on (by rw [hp]; exact HBR.out)))
      obtain ⟨G, HG⟩ := named (gaE (L.length : Int) l (ints L) (nv : Int) (nx : Int))
      rw [HG.out] at HGA
      have HG0 : Hid (G = 0) := by
        show G = 0
        rw [← HG.out]
        unfold gaE
        rw [HCN.out, if_neg (by simp), ← HSE.out, if_neg (by omega)]
      have q3 : (G == 0) = true := by rw [HG0.out]; rfl
      have hbn := HBT.out.nn
      go_wp2_with fail
      refine HGA.out.mono ?_
      rintro e w6 ⟨gv, rfl, hb6, HQ1, _⟩
      obtain ⟨L', u', y', e1, z1', z2', z3', e5, e6, e7⟩ := HQ1.out HG0.out
      obtain rfl : L' = L := ints_inj e1.symm
      obtain rfl : u' = nv := by omega
      obtain rfl : y' = nx := by omega
      have hgv : gv = b := e7.trans HBE.out
      subst hgv
      have HB6 : Hid (Below p w w6) := below_tr HBR.out hp hb6
      have hg6 := (hb6.block _ (lt_of_block hgr)).trans hgr
      have hk6 := (hb6.block _ (lt_of_block hkr)).trans hkr
      clear e1 z1' z2' z3' e5 e6 e7 HQ1 hb6 HGA g0 g1 b0 b1 hgr hkr
      obtain ⟨⟨g0, g1⟩, _⟩ := two_cells hg6
      obtain ⟨b0, b1⟩ := four_cells hk6
      have HIM := Lib.hid (improve_any L'.length a l cap ax (ints L') cx B 1 w6 hl (by rw [ints_len]; exact hx2) (HAR.out.on (by rw [hp]; exact HB6.out)) (HAX.out.on (by rw [hp]; exact HB6.out)))
      obtain ⟨I, HI⟩ := named (imE (L'.length : Int) l (ints L') (B : Int) 1)
      rw [HI.out] at HIM
      have HI0 : Hid (I = 0) := by
        show I = 0
        rw [← HI.out]
        unfold imE
        rw [HLU.out, if_neg (by simp), if_neg (by omega)]
      have q4 : (I == 0) = true := by rw [HI0.out]; rfl
      go_wp2_with fail
      refine HIM.out.mono ?_
      rintro e w7 ⟨v7, c7, m7, out, rfl, hown7, hb7, HR7, _⟩
      obtain ⟨E7, himp, hout, z1', z2', hNo, z3', htdo, z4', huo, hpat, z5', z6'⟩ := (HR7.out HI0.out).right HLU.out
      obtain ⟨hE7, hm7⟩ := one_move himp HNX.out
      rw [HFX.out] at hE7
      subst hm7
      have hbo : bt (prl l) out = bt (prl l) (L'.set u' y') := by
        rw [bt_pat hpat (by rw [himp.len]; exact HPL.out), hE7]
      have hcno := (lu_ok HC0.out hNo htdo hB1 hB2 huo).1
      have hol : out.length ≤ 9223372036854775807 := by omega
      have HB7 : Hid (Below p w w7) := below_tr HB6.out hp hb7
      have hg7 := (hb7.block _ (lt_of_block hg6)).trans hg6
      have hk7 := (hb7.block _ (lt_of_block hk6)).trans hk6
      have HO7 := Lib.hid (own_ints hown7 rfl)
      have HNO := Lib.hid hNo
      have HTO := Lib.hid htdo
      have HUO := Lib.hid huo
      have HBT7 := Lib.hid hbo
      have HCO := Lib.hid hcno
      clear z1' z2' z3' z4' z5' z6' hNo htdo huo hpat hout himp hE7 hbo hcno HR7 hown7 hb7 HIM g0 g1 b0 b1 hg6 hk6
      obtain ⟨⟨g0, g1⟩, _⟩ := two_cells hg7
      have HC1 := Lib.hid (natCount_any L'.length a l cap ax (ints L') cx w7 hl (by rw [ints_len]; exact hx2) (HAR.out.on (by rw [hp]; exact HB7.out)) (HAX.out.on (by rw [hp]; exact HB7.out)))
      rw [HCN.out, if_pos rfl, cntB_bt] at HC1
      obtain ⟨n1, HN1⟩ := named (bt (prl l) L')
      have hn1 : n1 ≤ 8192 := by rw [← HN1.out]; exact Nat.le_trans (bt_le _ _) (Nat.le_trans (prl_len l) hll)
      rw [HN1.out] at HC1
      go_wp2_with fail
      refine HC1.out.mono ?_
      rintro e w8 ⟨rfl, hb8⟩
      have HB8 : Hid (Below p w w8) := below_tr HB7.out hp hb8
      have hg8 := (hb8.block _ (lt_of_block hg7)).trans hg7
      have hk8 := (hb8.block _ (lt_of_block hk7)).trans hk7
      have HO8 := Lib.hid (HO7.out.on hb8)
      clear hb8 HC1 g0 g1 hg7
      obtain ⟨⟨g0, g1⟩, _⟩ := two_cells hg8
      have HC2 := Lib.hid (natCount_any L'.length a l cap v7 (ints out) c7 w8 hl (by rw [ints_len]; exact hol) (HAR.out.on (by rw [hp]; exact HB8.out)) HO8.out)
      rw [HCO.out, if_pos rfl, cntB_bt, HBT7.out, ints_len] at HC2
      obtain ⟨n2, HN2⟩ := named (bt (prl l) (L'.set u' y'))
      have hn2 : n2 ≤ 8192 := by rw [← HN2.out]; exact Nat.le_trans (bt_le _ _) (Nat.le_trans (prl_len l) hll)
      rw [HN2.out] at HC2
      have hdf : (n1 : Int) - (n2 : Int) = gv := by
        have q := HBO.out.2
        rw [HN1.out, HN2.out] at q
        omega
      have hw1 : IntKind.i64.wrap ((n1 : Int) - (n2 : Int)) = gv := by rw [IntKind.wrap_i64, ← hdf]; omega
      go_wp2_with fail
      refine HC2.out.mono ?_
      rintro e w9 ⟨rfl, hb9⟩
      have HB9 : Hid (Below p w w9) := below_tr HB8.out hp hb9
      have hg9 := (hb9.block _ (lt_of_block hg8)).trans hg8
      have hk9 := (hb9.block _ (lt_of_block hk8)).trans hk8
      have HO9 := Lib.hid (HO8.out.on hb9)
      clear hb9 HC2 g0 g1 hg8
      obtain ⟨⟨g0, g1⟩, _⟩ := two_cells hg9
      have HS2 := Lib.hid (sizes_any L'.length a l cap v7 (ints out) c7 w9 hl (by rw [ints_len]; exact hol) (HAR.out.on (by rw [hp]; exact HB9.out)) HO9.out)
      rw [si_cnt, HCO.out, ints_len] at HS2
      go_wp2_with fail
      refine HS2.out.mono ?_
      rintro e wA ⟨vA, cA, T, rfl, hownA, hT, hbA⟩
      rw [if_pos trivial] at hT
      have HBA : Hid (Below p w wA) := below_tr HB9.out hp hbA
      have HOA := Lib.hid (own_ints hownA rfl)
      have hkA : wA.heap[p + 1]? = some (.cells #[.int .i64 q0, .int .i64 q1, .int .i64 (B : Int), .int .i64 mo] 27) := (hbA.block _ (lt_of_block hk9)).trans hk9
      have HTB : Hid (∀ j, T.getD j 0 ≤ B) := fun j => by rw [hT]; exact szL_getD_le HTO.out HUO.out j
      have hTl : T.length ≤ 1024 := by
        have q := szL_len (ints out) (ints out).length (Nat.le_refl _)
        rw [List.take_length, ints_len] at q
        have := HNO.out
        rw [hT]
        omega
      obtain ⟨b0, b1⟩ := four_cells hkA
      clear hownA hT hbA HS2 g0 g1 hg9
      obtain ⟨jx, kx, hjx⟩ := HOA.out.get
      have HJX := Lib.hid hjx
      clear hjx
      go_wp2_with fail
      go_loopw [154] (fun i wr => ∃ j : Nat, j ≤ T.length ∧ i = .int .i64 (j : Int) ∧ wr = wA) (fun i _ => T.length - (intOf i).toNat)
      case atStart => exact ⟨0, Nat.zero_le _, rfl, rfl⟩
      case round =>
        obtain ⟨j, hj, rfl, rfl⟩ := hrel
        by_cases hlj : j < T.length
        · have hlj' : (j : Int) < T.length := by omega
          obtain ⟨rfl, _, hjt⟩ := HJX.out (by rw [ints_len]; omega)
          have d2 := hjt j (by rw [ints_len]; exact hlj)
          rw [getD_ints] at d2
          have hle := HTB.out j
          generalize T.getD j 0 = tj at *
          have hle' : ¬ (B : Int) < (tj : Int) := by omega
          clear hjt
          go_wp2_with fail
          exact ⟨⟨j + 1, hlj, by simp, trivial⟩, by simp [intOf]; omega⟩
        · have hlj' : ¬ (j : Int) < T.length := by omega
          have e9 : (gv == gv) = true := by simp
          go_wp2_with fail
          go_ret
          exact ⟨rfl, HBA.out⟩
end Go.Proofs.Ytgpaoiddjlpcmaa.Gains
