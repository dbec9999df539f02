/-
  CellJoins: the walk.
-/
import Derived.Test.YtpmjbeiclmllmaaJoM
namespace Go.Proofs.Ytpmjbeiclmllmaa
open Go.RowKit
/-- A graph and a nest as they lie in the law's variables. -/
structure GN (w : World) (p : Nat) (N : Int) (a : Option Addr) (l : List A) (cap : Nat) (ba : Option Addr) (bs : List Int) (bc : Nat) (ca : Option Addr) (C : List Cl) (cc : Nat) : Prop where
  g : w.heap[p]? = some (.cells #[.int .i64 N, .slice a l.length cap] 24)
  n : w.heap[p + 1]? = some (.cells #[.slice ba bs.length bc, .slice ca C.length cc] 28)
  arcs : Arcs w a l
  ints : Ints w ba bs
  rws : Rws w ca C
theorem GN.on {w w' : World} {p : Nat} {N : Int} {a : Option Addr} {l : List A} {cap : Nat} {ba : Option Addr} {bs : List Int} {bc : Nat} {ca : Option Addr} {C : List Cl} {cc : Nat} (h : GN w p N a l cap ba bs bc ca C cc) (hb : Below w.heap.size w w') : GN w' p N a l cap ba bs bc ca C cc :=
  ⟨(hb.block _ (lt_of_block h.g)).trans h.g, (hb.block _ (lt_of_block h.n)).trans h.n, h.arcs.on hb, h.ints.on hb, h.rws.on hb⟩
theorem GN.cells {w : World} {p : Nat} {N : Int} {a : Option Addr} {l : List A} {cap : Nat} {ba : Option Addr} {bs : List Int} {bc : Nat} {ca : Option Addr} {C : List Cl} {cc : Nat} (h : GN w p N a l cap ba bs bc ca C cc) : w.cell? ⟨p, 0, none⟩ = some (.int .i64 N) ∧ w.cell? ⟨p, 1, none⟩ = some (.slice a l.length cap) ∧ w.cell? ⟨p + 1, 0, none⟩ = some (.slice ba bs.length bc) ∧ w.cell? ⟨p + 1, 1, none⟩ = some (.slice ca C.length cc) := by
  obtain ⟨⟨g0, g1⟩, _⟩ := two_cells h.g
  obtain ⟨⟨g2, g3⟩, _⟩ := two_cells h.n
  exact ⟨g0, g1, g2, g3⟩
set_option maxRecDepth 100000 in
set_option maxHeartbeats 6400000 in
theorem joins_any (N : Int) (a : Option Addr) (l : List A) (cap : Nat) (ba : Option Addr) (bs : List Int) (bc : Nat) (ca : Option Addr) (C : List Cl) (cc : Nat) (w : World) (hlen : l.length * 24 ≤ 140737488351232) (hblen : bs.length * 8 ≤ 140737488351232) (hr : Arcs w a l) (hi : Ints w ba bs) (hR : Rws w ca C) :
    Calls Try.prog 5 #[.agg #[.int .i64 N, .slice a l.length cap], .agg #[.slice ba bs.length bc, .slice ca C.length cc]] w fun e w' => e = .returned (.bool true) ∧ Below w.heap.size w w' := by
  have hl : l.length ≤ 9223372036854775807 := by omega
  have hbl : bs.length ≤ 9223372036854775807 := by omega
  obtain ⟨hg0, hg1, hb0, hsz⟩ := top2 w (.cells #[.int .i64 N, .slice a l.length cap] 24) (.cells #[.slice ba bs.length bc, .slice ca C.length cc] 28)
  have HGN0 : Hid (GN ((w.alloc (.cells #[.int .i64 N, .slice a l.length cap] 24)).alloc (.cells #[.slice ba bs.length bc, .slice ca C.length cc] 28)) w.heap.size N a l cap ba bs bc ca C cc) := ⟨hg0, hg1, hr.on hb0, hi.on hb0, hR.on hb0⟩
  have HB0 := Lib.hid hb0
  generalize hp : w.heap.size = p at *
  go_enter Try.func5, Try.ntmps5
  go_wp2_with fail
  generalize hW : (w.alloc (.cells #[.int .i64 N, .slice a l.length cap] 24)).alloc (.cells #[.slice ba bs.length bc, .slice ca C.length cc] 28) = W at *
  clear hW hg0 hg1 hb0 hr hi hR
  refine (works_any W).mono ?_
  rintro e w1 ⟨rfl, hb1⟩
  have HB1 := Lib.hid hb1
  have HGN1 := Lib.hid (HGN0.out.on hb1)
  clear hb1
  obtain ⟨g0, g1, g2, g3⟩ := HGN1.out.cells
  go_wp2_with fail
  refine (large_any N a l cap w1 hl HGN1.out.arcs).mono ?_
  rintro e w2 ⟨rfl, hb2⟩
  have HB2 : Hid (Below W.heap.size W w2) := HB1.out.trans (hb2.mono HB1.out.size)
  clear hb2 g0 g1 g2 g3 HB1 HGN1
  obtain ⟨V, HV⟩ := named (lgB N l)
  rw [HV.out]
  have HEND : Hid (∀ wr, Below W.heap.size W wr → Below p w wr) := fun wr h => HB0.out.trans (h.mono (by omega))
  rcases V with _ | _
  rotate_left
  · go_wp2_with fail
    go_ret
    exact ⟨rfl, HEND.out _ HB2.out⟩
  go_wp2_with fail
  go_loopw [5] (fun i wr => ∃ (j : Nat), j ≤ bs.length ∧ i = .int .i64 ((j : Int) + 1) ∧ Hid (Below W.heap.size W wr)) (fun i _ => bs.length + 1 - (intOf i).toNat)
  case atStart => exact ⟨0, Nat.zero_le _, rfl, HB2⟩
  case round =>
    obtain ⟨j, hj, rfl, HBR⟩ := hrel
    have HGR := Lib.hid (HGN0.out.on HBR.out)
    obtain ⟨g0, g1, g2, g3⟩ := HGR.out.cells
    by_cases hlj : j < bs.length
    · have hlj' : (j : Int) + 1 ≤ bs.length := by omega
      have HOU := Lib.hid (outer_any N a l cap ba bs bc ca C cc ((j : Int) + 1) wr hl hbl HGR.out.arcs HGR.out.ints HGR.out.rws)
      obtain ⟨E, HE⟩ := named (atE N l bs (csl C) ((j : Int) + 1))
      obtain ⟨O, HO⟩ := named (ouV N l bs (csl C) ((j : Int) + 1))
      obtain ⟨m, HM⟩ := named (manyV N l bs (csl C) ((j : Int) + 1))
      rw [HE.out, HO.out] at HOU
      have h63 : bs.length ≤ 100000000000000 := by omega
      go_wp2_with fail
      refine HOU.out.mono ?_
      rintro e w3 ⟨ov, rfl, hrow, hb3⟩
      have HB3 : Hid (Below W.heap.size W w3) := HBR.out.trans (hb3.mono HBR.out.size)
      have HGN3 := Lib.hid (HGN0.out.on HB3.out)
      have HMA := Lib.hid (many_any N a l cap ba bs bc ca C cc ((j : Int) + 1) w3 hl hbl HGN3.out.arcs HGN3.out.ints HGN3.out.rws)
      rw [HE.out, HM.out] at HMA
      have HOR := Lib.hid hrow
      clear hb3 g0 g1 g2 g3 HOU hrow HGR HB2
      obtain ⟨g0, g1, g2, g3⟩ := HGN3.out.cells
      go_wp2_with fail
      refine HMA.out.mono ?_
      rintro e w4 ⟨rfl, hb4⟩
      have HB4 : Hid (Below W.heap.size W w4) := HB3.out.trans (hb4.mono HB3.out.size)
      have HGN4 := Lib.hid (HGN0.out.on HB4.out)
      have HO4 := Lib.hid (HOR.out.on hb4).ints
      clear hb4 g0 g1 g2 g3 HMA HGN3 HOR HB3
      obtain ⟨g0, g1, g2, g3⟩ := HGN4.out.cells
      by_cases hE : E = 0
      · subst hE
        have hNR := (atE_zero HE.out).1
        have h1024 := (chk_zero hNR.1).2.1
        have h0N := (chk_zero hNR.1).1
        have hl8 := (chk_zero hNR.1).2.2.1
        obtain ⟨n, hn⟩ : ∃ n : Nat, N = n := ⟨N.toNat, by omega⟩
        obtain ⟨hLn, hty, _, _⟩ := hNR.lv hlj
        obtain ⟨L, HL⟩ := named (lvl (csl C) j)
        have ej : ((j : Int) + 1).toNat - 1 = j := by omega
        have HOe : Hid (O = arL l (prt L)) := by show _ = _; rw [← HO.out, ← HL.out]; unfold ouV; rw [if_pos HE.out, ej]
        have HMe : Hid (m = (szL L).length) := by show _ = _; rw [← HM.out, ← HL.out]; unfold manyV; rw [if_pos HE.out, ej]
        rw [HL.out] at hLn hty
        have HLn : Hid (L.length = n) := by show _ = _; omega
        have HC : Hid (chkE n l = 0) := by show _ = _; rw [← hn]; exact hNR.1
        have HLT : Hid (∀ v, v < n → 0 ≤ L.getD v 0 ∧ L.getD v 0 < m) := fun v hv => by
          obtain ⟨y, h1, h2⟩ := right_lt hty (u := v) (by rw [HLn.out]; exact hv)
          rw [h1, HMe.out]
          omega
        have HOm : Hid (∀ k, k < O.length → O.getD k 0 < l.length) := fun k hk => by
          have h2 : O.getD k 0 ∈ cho (arP l (prt L)) l.length := by rw [show cho (arP l (prt L)) l.length = O from HOe.out.symm]; exact getN_mem hk
          exact (cho_mem.1 h2).1
        have hO8 : O.length ≤ 8192 := by rw [HOe.out]; have := cho_len (arP l (prt L)) l.length; unfold arL; omega
        have hm8 : m ≤ 1024 := by
          have h1 := szL_length L
          rw [HLn.out] at h1
          rw [HMe.out]
          omega
        have hn8 : n ≤ 1024 := by omega
        have HNR := Lib.hid hNR
        obtain ⟨i4, hi4, hz4, hs4, hby4⟩ := info_parts info4
        have hmk : ∀ w, (Instr.makeSlice 53 (.int .i64 N) (.int .i64 N)).run Try.prog w = .ok (.slice (some ⟨w.heap.size, 0, none⟩) n n) (w.alloc (.cells ((List.range n).map (fun _ => Value.bool false)).toArray 4)) := fun w => by
          rw [hn]
          have := run_make (P := Try.prog) w 53 4 i4 (.bool false) Try.underlying53 hi4 hz4 .i64 .i64 n n (by omega) (by omega) (by rw [hby4]; omega) (by omega)
          rw [hs4] at this
          rw [this, Int.toNat_natCast, made_bool]
        have HT0 : Hid (TbV (w4.alloc (.cells ((List.range n).map (fun _ => Value.bool false)).toArray 4)) w4.heap.size n 4 (boV (mkd O l 0))) := by
          have h := heap_top w4 (.cells ((List.range n).map (fun _ => Value.bool false)).toArray 4)
          show TbV _ _ _ _ _
          unfold TbV
          rw [h]
          congr 3
        have HB5 : Hid (Below w4.heap.size w4 (w4.alloc (.cells ((List.range n).map (fun _ => Value.bool false)).toArray 4))) := (Below.refl _ _).alloc (Nat.le_refl _) _
        obtain ⟨ia, oa, hia⟩ := HGN4.out.arcs.get
        have HIA := Lib.hid hia
        obtain ⟨ic, oc, hic⟩ := HO4.out.get
        have HIC := Lib.hid hic
        have HHN := Lib.hid hn
        have hOi : (O.length : Int) ≤ 8192 := by omega
        clear hNR hLn hty hia hic HM HO ej hn hlj'
        go_wp2_with fail
        generalize w4.alloc (.cells ((List.range n).map (fun _ => Value.bool false)).toArray 4) = w5 at *
        clear g0 g1 g2 g3 hmk hi4 hz4 hs4 hby4
        go_loopw [68] (fun i wr => ∃ (k : Nat), k ≤ O.length ∧ i = .int .i64 k ∧ Hid (TbV wr w4.heap.size n 4 (boV (mkd O l k))) ∧ Hid (Below w4.heap.size w4 wr)) (fun i _ => O.length - (intOf i).toNat)
        case atStart => exact ⟨0, Nat.zero_le _, rfl, HT0, HB5⟩
        case round =>
          obtain ⟨k, hk, rfl, HT, HBK⟩ := hrel
          by_cases hlk : k < O.length
          · have hlk' : (k : Int) < O.length := by omega
            obtain ⟨rfl, hcl, hcat⟩ := HIC.out (by rw [ints_len]; omega)
            have y0 := (HBK.out.cell (p := ⟨ic, oc + k, none⟩) hcl).trans (hcat k (by rw [ints_len]; exact hlk))
            rw [ints_getD hlk] at y0
            have hid := HOm.out k hlk
            obtain ⟨i, HIi⟩ := named (O.getD k 0)
            have HST := Lib.hid (mkd_step l hlk)
            rw [HIi.out] at y0 hid HST
            obtain ⟨rfl, hal, haat⟩ := HIA.out (by omega)
            obtain ⟨x0, x1, x2⟩ := haat i hid
            have z0 := (HBK.out.cell (p := ⟨ia, oa + i * 3, none⟩) hal).trans x0
            have z1 := (HBK.out.cell (p := ⟨ia, oa + i * 3 + 1, none⟩) hal).trans x1
            obtain ⟨⟨f0, f1⟩, t0, t1⟩ := chk_in HC.out hid
            generalize l.getD i A.zero = x at *
            obtain ⟨xf, xt, xw⟩ := x
            simp only at f0 f1 t0 t1 z0 z1
            obtain ⟨u, rfl⟩ : ∃ u : Nat, xf = u := ⟨xf.toNat, by omega⟩
            obtain ⟨v, rfl⟩ : ∃ v : Nat, xt = v := ⟨xt.toNat, by omega⟩
            have hid' : (i : Int) < l.length := by omega
            have q0 := HT.out.free u
            have r0 := HT.out.cell (v := u) (by omega)
            have HTS := Lib.hid (HT.out.set u (.bool true))
            have q1 := HTS.out.free v
            have r1 := HTS.out.cell (v := v) (by omega)
            have HTN : Hid (TbV ((wr.setCell ⟨w4.heap.size, u, none⟩ (.bool true)).setCell ⟨w4.heap.size, v, none⟩ (.bool true)) w4.heap.size n 4 (boV (mkd O l (k + 1)))) := (HTS.out.set v (.bool true)).congr (fun y _ => by
              rw [boV_set, boV_set]
              show Value.bool _ = Value.bool _
              rw [HST.out]
              simp only [Int.toNat_natCast])
            have HBN : Hid (Below w4.heap.size w4 ((wr.setCell ⟨w4.heap.size, u, none⟩ (.bool true)).setCell ⟨w4.heap.size, v, none⟩ (.bool true))) := (HBK.out.setCell (p := ⟨w4.heap.size, u, none⟩) (Nat.le_refl _) _).setCell (p := ⟨w4.heap.size, v, none⟩) (Nat.le_refl _) _
            obtain ⟨g0, g1, g2, g3⟩ := (HGN4.out.on HBK.out).cells
            clear x0 x1 x2 haat hcat g0 g2 g3
            go_wp2_with fail
            go_region
            go_wp2_with fail
            exact ⟨⟨k + 1, by omega, by simp, HTN.out.same rfl, HBN.out.drew⟩, by simp [intOf]; omega⟩
          · obtain rfl : k = O.length := by omega
            have hlk' : ¬ (O.length : Int) < O.length := by omega
            have HT3 : Hid (TbV wr w4.heap.size n 4 (boV (lft L l n 0 0))) := HT.out.congr (fun v hv => by
              show Value.bool _ = Value.bool _
              rw [lft_zero (HLT.out v hv).1]
              have := mkd_all L l v
              rw [← HOe.out] at this
              rw [this])
            go_wp2_with fail
            clear HT HIC HIA HOm HOe hOi HT0 HB5
            go_loopw [90] (fun i wr => ∃ (c : Nat), c ≤ m ∧ i = .int .i64 c ∧ Hid (TbV wr w4.heap.size n 4 (boV (lft L l n c 0))) ∧ Hid (Below w4.heap.size w4 wr)) (fun i _ => m - (intOf i).toNat)
            case atStart => exact ⟨0, Nat.zero_le _, rfl, HT3, HBK⟩
            case round =>
              clear HT3 HBK
              obtain ⟨c, hc, rfl, HT, HBK⟩ := hrel
              have HGC := Lib.hid (HGN4.out.on HBK.out)
              obtain ⟨g0, g1, g2, g3⟩ := HGC.out.cells
              by_cases hlc : c < m
              · have hlc' : (c : Int) < m := by omega
                have hin : inE N l bs (csl C) ((j : Int) + 1) c = 0 := inE_ok HNR.out hlj (by rw [HL.out, ← HMe.out]; exact hlc)
                have hbd : bdV N l bs (csl C) ((j : Int) + 1) c = bdL n L l c := by
                  unfold bdV
                  rw [if_pos hin, show ((j : Int) + 1).toNat - 1 = j by omega, HL.out, HHN.out, Int.toNat_natCast]
                have HBO := Lib.hid (boundary_any N a l cap ba bs bc ca C cc ((j : Int) + 1) c wr hl hbl HGC.out.arcs HGC.out.ints HGC.out.rws)
                rw [hin, hbd] at HBO
                have HIN := Lib.hid hin
                have HBD := Lib.hid hbd
                have hS8 : (bdL n L l c).length ≤ 1024 := by have := cho_len (bdP L l (c : Int)) n; unfold bdL; omega
                have hdw : w4.heap.size < wr.heap.size := HT.out.lt
                obtain ⟨S, HS⟩ := named (bdL n L l c)
                rw [HS.out] at HBO hS8
                clear hin hbd
                go_wp2_with fail
                refine HBO.out.mono ?_
                rintro e w6 ⟨bv, rfl, hrow, hb6⟩
                have HB6 : Hid (Below w4.heap.size w4 w6) := HBK.out.trans (hb6.mono HBK.out.size)
                have HT6 : Hid (TbV w6 w4.heap.size n 4 (boV (lft L l n c 0))) := HT.out.same (hb6.block _ hdw)
                have HRW := Lib.hid (hrow.base (C := w4.heap.size + 1) hdw)
                clear HBO hrow hb6 g0 g1 g2 g3 HT HGC
                go_wp2_with fail
                go_loopw [105] (fun i wq => ∃ (k : Nat), k ≤ S.length ∧ i = .int .i64 k ∧ Hid (TbV wq w4.heap.size n 4 (boV (lft L l n c k))) ∧ Hid (RowI wq (w4.heap.size + 1) bv (ints S)) ∧ Hid (Below w4.heap.size w4 wq)) (fun i _ => S.length - (intOf i).toNat)
                case atStart => exact ⟨0, Nat.zero_le _, rfl, HT6, HRW, HB6⟩
                case round =>
                  clear HT6 HRW HB6
                  obtain ⟨k, hk, rfl, HTQ, HRQ, HBQ⟩ := hrel
                  have HGQ := Lib.hid (HGN4.out.on HBQ.out)
                  obtain ⟨g0, g1, g2, g3⟩ := HGQ.out.cells
                  by_cases hlk2 : k < S.length
                  · have hlk' : (k : Int) < S.length := by omega
                    obtain ⟨ic, oc, hic⟩ := HRQ.out.ints.get
                    obtain ⟨rfl, hcl, hcat⟩ := hic (by rw [ints_len]; omega)
                    have y0 := hcat k (by rw [ints_len]; exact hlk2)
                    rw [ints_getD hlk2] at y0
                    have hkb : k < (bdL n L l c).length := by rw [HS.out]; exact hlk2
                    obtain ⟨v, HVv⟩ := named (S.getD k 0)
                    rw [HVv.out] at y0
                    obtain ⟨hvn, hvL, hvc⟩ : v < n ∧ L.getD v 0 = c ∧ crs L l l.length v = true := by
                      have := bdL_mem.1 (getN_mem hkb)
                      rw [HS.out, HVv.out] at this
                      exact this
                    have HLA : Hid (lft L l n c k v = true) := by
                      have := lft_at hkb
                      rw [HS.out, HVv.out] at this
                      exact this
                    have HLS : Hid (∀ u, lft L l n c (k + 1) u = if u = v then false else lft L l n c k u) := fun u => by
                      have := lft_step hkb u
                      rw [HS.out, HVv.out] at this
                      exact this
                    have hxe : ixE N l bs (csl C) ((j : Int) + 1) c v = 0 := by
                      unfold ixE
                      rw [if_neg (by rw [HIN.out]; simp), HBD.out, HS.out]
                      have := contains_at hlk2
                      rw [HVv.out] at this
                      rw [if_pos this]
                    have hxv : ixV N l bs (csl C) ((j : Int) + 1) c v = k := by
                      unfold ixV
                      rw [if_pos hxe, HBD.out, HS.out]
                      have := count_lt (HS.out ▸ cho_sorted _ _ : S.Pairwise (· < ·)) hlk2
                      rw [HVv.out] at this
                      exact this
                    have HIXX := Lib.hid (index_any N a l cap ba bs bc ca C cc ((j : Int) + 1) c v wr hl hbl HGQ.out.arcs HGQ.out.ints HGQ.out.rws)
                    rw [hxe, hxv] at HIXX
                    have hdq : w4.heap.size < wr.heap.size := HTQ.out.lt
                    clear hxe hxv hic hcat
                    go_wp2_with fail
                    refine HIXX.out.mono ?_
                    rintro e w7 ⟨rfl, hb7⟩
                    have HB7 : Hid (Below w4.heap.size w4 w7) := HBQ.out.trans (hb7.mono HBQ.out.size)
                    have HT7 : Hid (TbV w7 w4.heap.size n 4 (boV (lft L l n c k))) := HTQ.out.same (hb7.block _ hdq)
                    have HR7 := Lib.hid (HRQ.out.on hb7)
                    have q0 := HT7.out.free v
                    have r0 := HT7.out.cell (v := v) hvn
                    have er : boV (lft L l n c k) v = .bool true := by show Value.bool _ = _; rw [HLA.out]
                    rw [er] at r0
                    have hv1 : (v : Int) < n := by omega
                    have ek : ((k : Int) != k) = false := by simp
                    have HTN : Hid (TbV (w7.setCell ⟨w4.heap.size, v, none⟩ (.bool false)) w4.heap.size n 4 (boV (lft L l n c (k + 1)))) := (HT7.out.set v (.bool false)).congr (fun y _ => by
                      rw [boV_set]
                      show Value.bool _ = Value.bool _
                      rw [HLS.out])
                    have HBN : Hid (Below w4.heap.size w4 (w7.setCell ⟨w4.heap.size, v, none⟩ (.bool false))) := HB7.out.setCell (p := ⟨w4.heap.size, v, none⟩) (Nat.le_refl _) _
                    have HRN : Hid (RowI (w7.setCell ⟨w4.heap.size, v, none⟩ (.bool false)) (w4.heap.size + 1) (some ⟨ic, oc, none⟩) (ints S)) := HR7.out.set (Nat.lt_succ_self _) _ _
                    clear HIXX hb7 g0 g1 g2 g3 HTQ HRQ HGQ er HLA HLS HT7 HB7 HR7 y0
                    by_cases hj0 : j = 0
                    · have hgt : ¬ (1 : Int) < (j : Int) + 1 := by omega
                      clear hj0
                      go_wp2_with fail
                      exact ⟨⟨k + 1, by omega, by simp, HTN, HRN, HBN⟩, by simp [intOf]; omega⟩
                    · obtain ⟨i0, HJ⟩ : ∃ i0, Hid (j = i0 + 1) := ⟨j - 1, by show _ = _; omega⟩
                      have hJ := HJ.out
                      have HGZ := Lib.hid (HGN4.out.on HBN.out)
                      obtain ⟨g0, g1, g2, g3⟩ := HGZ.out.cells
                      have hib : i0 < bs.length := by omega
                      have hcs : C.length = bs.length := by have := HNR.out.2.2.2.1; rw [csl_len] at this; exact this
                      have hiC : i0 < C.length := by omega
                      obtain ⟨hMn, hMty, _, _⟩ := HNR.out.lv hib
                      have hnst := HNR.out.nst (show i0 + 1 < bs.length by omega)
                      rw [← hJ, HL.out] at hnst
                      rw [csl_at] at hMn hMty hnst
                      obtain ⟨M, da, dc, HMM, HDA, HDC⟩ : ∃ M da dc, Hid ((cl C i0).xs = M) ∧ Hid ((cl C i0).a = da) ∧ Hid ((cl C i0).c = dc) := ⟨_, _, _, rfl, rfl, rfl⟩
                      rw [HMM.out] at hMn hMty hnst
                      have hMl : M.length = n := by rw [HHN.out] at hMn; omega
                      obtain ⟨bx, ox, hbx⟩ := HGZ.out.rws.get
                      obtain ⟨rfl, hbl2, hcell⟩ := hbx (by omega)
                      have d0 := hcell i0 hiC
                      unfold Cl.val at d0
                      have hIM := (HGZ.out.rws.2 i0 hiC).1
                      rw [HMM.out, HDA.out] at hIM
                      rw [HMM.out, HDA.out, HDC.out, hMl] at d0
                      obtain ⟨im, om, him⟩ := hIM.get
                      obtain ⟨rfl, himl, hmat⟩ := him (by omega)
                      have d1 := hmat v (by omega)
                      obtain ⟨y, hy, hyM⟩ := right_lt hMty (u := v) (by omega)
                      rw [hy] at d1
                      have hin2 : inE N l bs (csl C) ((i0 : Int) + 1) y = 0 := inE_ok HNR.out hib (by rw [csl_at, HMM.out]; exact hyM)
                      have hbd2 : bdV N l bs (csl C) ((i0 : Int) + 1) y = bdL n M l y := by
                        unfold bdV
                        rw [if_pos hin2, show ((i0 : Int) + 1).toNat - 1 = i0 by omega, csl_at, HMM.out, HHN.out, Int.toNat_natCast]
                      have hcon : (ints (bdL n M l y)).contains (v : Int) = true := by
                        rw [List.contains_iff_mem]
                        exact ints_mem.2 (bdL_mem.2 ⟨hvn, hy, crs_below HC.out hMl hnst hvc⟩)
                      have hT8 : (bdL n M l y).length ≤ 1024 := by have := cho_len (bdP M l (y : Int)) n; unfold bdL; omega
                      have HNB : Hid (∀ W2, Below (w7.setCell ⟨w4.heap.size, v, none⟩ (.bool false)).heap.size (w7.setCell ⟨w4.heap.size, v, none⟩ (.bool false)) W2 → Calls Try.prog 15 #[.agg #[.int .i64 N, .slice a l.length cap], .agg #[.slice ba bs.length bc, .slice (some ⟨bx, ox, none⟩) C.length cc], .int .i64 (j : Int), .int .i64 y] W2 fun e w' => ∃ v, e = .returned (.tuple #[.slice v (bdL n M l y).length (bdL n M l y).length, .int .i64 0]) ∧ RowI w' W2.heap.size v (ints (bdL n M l y)) ∧ Below W2.heap.size W2 w') := fun W2 hb => by
                        have h := boundary_any N a l cap ba bs bc (some ⟨bx, ox, none⟩) C cc ((i0 : Int) + 1) y W2 hl hbl (HGZ.out.on hb).arcs (HGZ.out.on hb).ints (HGZ.out.on hb).rws
                        rw [hin2, hbd2, show (i0 : Int) + 1 = (j : Int) by omega] at h
                        exact h
                      obtain ⟨T, HTT⟩ := named (bdL n M l y)
                      rw [HTT.out] at HNB hcon hT8
                      have HCON := Lib.hid hcon
                      have ev1 : IntKind.i64.wrap ((j : Int) + 1 - 1) = (j : Int) := by rw [IntKind.wrap_i64]; omega
                      have ev3 : IntKind.i64.wrap (j : Int) = (j : Int) := by rw [IntKind.wrap_i64]; omega
                      have ew2 : (j : Int) + 1 - 2 = (i0 : Int) := by omega
                      have ev2 : IntKind.i64.wrap ((j : Int) + 1 - 2) = (i0 : Int) := by rw [IntKind.wrap_i64]; omega
                      have ev5 : IntKind.i64.wrap (i0 : Int) = (i0 : Int) := by rw [IntKind.wrap_i64]; omega
                      have hgt : (1 : Int) < (j : Int) + 1 := by omega
                      have hi1 : (i0 : Int) < C.length := by omega
                      have hi2 : (0 : Int) ≤ (i0 : Int) := by omega
                      have D0 := Lib.hid d0
                      have D1 := Lib.hid d1
                      have hc8 : w4.heap.size < (w7.setCell ⟨w4.heap.size, v, none⟩ (.bool false)).heap.size := lt_of_block HTN.out
                      have hp8 : p + 1 < (w7.setCell ⟨w4.heap.size, v, none⟩ (.bool false)).heap.size := lt_of_block HGZ.out.n
                      have G0 := Lib.hid g0
                      have G1 := Lib.hid g1
                      have G2 := Lib.hid g2
                      have G3 := Lib.hid g3
                      clear hin2 hbd2 hcon hy hyM hmat him hIM hcell hbx hnst hMty hMn hcs hJ hj0
                      go_wp2_with fail
                      generalize hX : w7.setCell ⟨w4.heap.size, v, none⟩ (.bool false) = X at *
                      clear hX
                      have HXD : Hid (Below X.heap.size X X.drew) := (Below.refl _ _).drew
                      go_region_held3 (fun w' => w'.cell? ⟨p, 0, none⟩ = some (.int .i64 N) ∧ w'.cell? ⟨p, 1, none⟩ = some (.slice a l.length cap) ∧ w'.cell? ⟨p + 1, 0, none⟩ = some (.slice ba bs.length bc) ∧ w'.cell? ⟨p + 1, 1, none⟩ = some (.slice (some ⟨bx, ox, none⟩) C.length cc) ∧ w'.cell? ⟨bx, ox + i0, none⟩ = some (.slice (some ⟨im, om, none⟩) n dc) ∧ w'.cell? ⟨im, om + v, none⟩ = some (.int .i64 y)) (go_keep) ((go_at_call 15; refine (HNB.out _ HXD.out).mono ?_; rintro e w8 ⟨tv, rfl, hrow8, hb8⟩; have hb9 := HXD.out.trans hb8; have v0 := (hb9.cell (p := ⟨p, 0, none⟩) (by show p < _; omega)).trans G0.out; have v1 := (hb9.cell (p := ⟨p, 1, none⟩) (by show p < _; omega)).trans G1.out; have v2 := (hb9.cell (p := ⟨p + 1, 0, none⟩) (by show p + 1 < _; omega)).trans G2.out; have v3 := (hb9.cell (p := ⟨p + 1, 1, none⟩) (by show p + 1 < _; omega)).trans G3.out; have v4 := (hb9.cell (p := ⟨bx, ox + i0, none⟩) hbl2).trans D0.out; have v5 := (hb9.cell (p := ⟨im, om + v, none⟩) himl).trans D1.out; have HR8 := Lib.hid hrow8; have HB9 := Lib.hid hb9; clear hrow8 hb8 hb9))
                      have HHAS := Lib.hid (has_any tv (ints T) T.length v w8 (by rw [ints_len]; omega) HR8.out.ints)
                      rw [ints_len, HCON.out] at HHAS
                      have HTE : Hid (TbV w8 w4.heap.size n 4 (boV (lft L l n c (k + 1)))) := HTN.out.same (HB9.out.block _ hc8)
                      have HBE : Hid (Below w4.heap.size w4 w8) := HBN.out.trans (HB9.out.mono (by omega))
                      have HRE : Hid (RowI w8 (w4.heap.size + 1) (some ⟨ic, oc, none⟩) (ints S)) := HRN.out.on HB9.out
                      clear g0 g1 g2 g3 d0 d1 v0 v1 v2 v3 v4 v5 G0 G1 G2 G3 D0 D1 HR8 HB9
                      go_wp2_with fail
                      refine HHAS.out.mono ?_
                      rintro e w9 ⟨rfl, rfl⟩
                      go_wp2_with fail
                      exact ⟨⟨k + 1, by omega, by simp, HTE, HRE, HBE⟩, by simp [intOf]; omega⟩
                  · obtain rfl : k = S.length := by omega
                    have hlk' : ¬ (S.length : Int) < S.length := by omega
                    have HTN : Hid (TbV wr w4.heap.size n 4 (boV (lft L l n (c + 1) 0))) := HTQ.out.congr (fun v hv => by
                      show Value.bool _ = Value.bool _
                      rw [← lft_next hv, HS.out])
                    go_wp2_with fail
                    exact ⟨⟨c + 1, by omega, by simp, HTN, HBQ⟩, by simp [intOf]; omega⟩
              · obtain rfl : c = m := by omega
                have hlc' : ¬ (c : Int) < c := by omega
                have HTF : Hid (∀ v, v < n → wr.cell? ⟨w4.heap.size, v, none⟩ = some (.bool false)) := fun v hv => by
                  rw [HT.out.cell hv]
                  show some (Value.bool _) = _
                  rw [lft_end (HLT.out v hv).2]
                clear HT
                go_wp2_with fail
                go_loop [167] (fun i => ∃ (k : Nat), k ≤ n ∧ i = .int .i64 k) (fun i => n - (intOf i).toNat)
                case atStart => exact ⟨0, Nat.zero_le _, rfl⟩
                case round =>
                  obtain ⟨k, hk, rfl⟩ := hrel
                  by_cases hlk2 : k < n
                  · have hlk' : (k : Int) < n := by omega
                    have y0 := HTF.out k hlk2
                    go_wp2_with fail
                    exact ⟨⟨k + 1, by omega, by simp⟩, by simp [intOf]; omega⟩
                  · have hlk' : ¬ (k : Int) < n := by omega
                    go_wp2_with fail
                    exact ⟨⟨j + 1, by omega, by simp, HB4.out.trans (HBK.out.mono HB4.out.size)⟩, by simp [intOf]; omega⟩
      · have e1 : (E != 0) = true := by simpa using hE
        have HO0 : O.length = 0 := by rw [← HO.out]; unfold ouV; rw [if_neg (by rw [HE.out]; exact hE)]; rfl
        have e2 : (E == E) = true := by simp
        rw [HO0]
        go_wp2_with fail
        go_ret
        exact ⟨rfl, HEND.out _ HB4.out⟩
    · have hlj' : ¬ (j : Int) + 1 ≤ bs.length := by omega
      go_wp2_with fail
      go_ret
      exact ⟨rfl, HEND.out _ HBR.out⟩
end Go.Proofs.Ytpmjbeiclmllmaa
