/-
  CellTouched: the walk.
-/
import Derived.Test.YtpmjbeiclmllmaaInM
import Derived.Test.YtpmjbeiclmllmaaGNs
import Derived.Test.YtpmjbeiclmllmaaCea
namespace Go.Proofs.Ytpmjbeiclmllmaa
open Go.RowKit
theorem tc_in {n c : Nat} {l : List A} {L : List Int} {ids : List Int} (hC : chkE n l = 0) (hcn : c < n) (hLT : ∀ v, v < n → 0 ≤ L.getD v 0) (hd : ∀ i, i < ids.length → 0 ≤ ids.getD i 0 ∧ ids.getD i 0 < l.length) : ids.any (fun i => (ints (arL l (hld L c))).contains i) = (ints (tcL n L l ids)).contains (c : Int) := by
  rw [Bool.eq_iff_iff, List.contains_iff_mem, ints_mem]
  unfold tcL
  rw [cho_mem]
  unfold tcP
  rw [List.take_length, List.any_eq_true, List.any_eq_true]
  have hmem : ∀ i ∈ ids, ((ints (arL l (hld L c))).contains i = true ↔ (!prt L (l.getD i.toNat A.zero) && decide ((lb L (l.getD i.toNat A.zero).f).toNat = c)) = true) := fun i hi => by
    obtain ⟨t, ht, rfl⟩ := List.getElem_of_mem hi
    have h1 := hd t ht
    rw [show ids.getD t 0 = ids[t] by simp [List.getD, List.getElem?_eq_getElem ht]] at h1
    generalize ids[t] = i at *
    obtain ⟨k, rfl⟩ : ∃ k : Nat, i = k := ⟨i.toNat, by omega⟩
    rw [Int.toNat_natCast, List.contains_iff_mem, ints_mem, arL_mem, Bool.and_eq_true, Bool.not_eq_true', decide_eq_true_eq]
    have hk : k < l.length := by omega
    obtain ⟨⟨f0, f1⟩, t0, t1⟩ := chk_in hC hk
    have h2 := hLT (l.getD k A.zero).f.toNat (by omega)
    unfold hld prt lb
    rw [decide_eq_true_eq, decide_eq_false_iff_not]
    constructor
    · rintro ⟨_, h3, h4⟩
      exact ⟨fun h => h (h3.trans h4.symm), by omega⟩
    · rintro ⟨h3, h4⟩
      have h5 : L.getD (l.getD k A.zero).f.toNat 0 = L.getD (l.getD k A.zero).t.toNat 0 := Decidable.not_not.1 h3
      exact ⟨hk, by omega, by omega⟩
  constructor
  · rintro ⟨i, hi, h⟩
    exact ⟨hcn, i, hi, (hmem i hi).1 h⟩
  · rintro ⟨_, i, hi, h⟩
    exact ⟨i, hi, (hmem i hi).2 h⟩
theorem any_take_I {xs : List Int} {p : Int → Bool} {k : Nat} (hk : k < xs.length) : (xs.take (k + 1)).any p = ((xs.take k).any p || p (xs.getD k 0)) := by
  rw [take_snocI hk, List.any_append]
  simp only [List.any_cons, List.any_nil, Bool.or_false]
set_option maxRecDepth 100000 in
set_option maxHeartbeats 6400000 in
theorem touchedL_any (N : Int) (a : Option Addr) (l : List A) (cap : Nat) (ba : Option Addr) (bs : List Int) (bc : Nat) (ca : Option Addr) (C : List Cl) (cc : Nat) (lv : Int) (d : Option Addr) (ids : List Int) (dc : Nat) (w : World) (hlen : l.length * 24 ≤ 140737488351232) (hblen : bs.length * 8 ≤ 140737488351232) (hr : Arcs w a l) (hi : Ints w ba bs) (hR : Rws w ca C) (hdlen : ids.length * 8 ≤ 140737488351232) (hj : Ints w d ids) :
    Calls Try.prog 7 #[.agg #[.int .i64 N, .slice a l.length cap], .agg #[.slice ba bs.length bc, .slice ca C.length cc], .agg #[.int .i64 lv, .slice d ids.length dc]] w fun e w' => e = .returned (.bool true) ∧ Below w.heap.size w w' := by
  have hl : l.length ≤ 9223372036854775807 := by omega
  have hbl : bs.length ≤ 9223372036854775807 := by omega
  have hdl : ids.length ≤ 9223372036854775807 := by omega
  obtain ⟨hg0, hg1, hg2, hb0, hsz⟩ := top3 w (.cells #[.int .i64 N, .slice a l.length cap] 24) (.cells #[.slice ba bs.length bc, .slice ca C.length cc] 28) (.cells #[.int .i64 lv, .slice d ids.length dc] 46)
  have HGN0 : Hid (GN (((w.alloc (.cells #[.int .i64 N, .slice a l.length cap] 24)).alloc (.cells #[.slice ba bs.length bc, .slice ca C.length cc] 28)).alloc (.cells #[.int .i64 lv, .slice d ids.length dc] 46)) w.heap.size N a l cap ba bs bc ca C cc) := ⟨hg0, hg1, hr.on hb0, hi.on hb0, hR.on hb0⟩
  have HB0 := Lib.hid hb0
  have HJ0 := Lib.hid (hj.on hb0)
  have HG2 := Lib.hid hg2
  generalize hp : w.heap.size = p at *
  go_enter Try.func7, Try.ntmps7
  go_wp2_with fail
  generalize hW : (((w.alloc (.cells #[.int .i64 N, .slice a l.length cap] 24)).alloc (.cells #[.slice ba bs.length bc, .slice ca C.length cc] 28)).alloc (.cells #[.int .i64 lv, .slice d ids.length dc] 46)) = W at *
  clear hW hg0 hg1 hg2 hb0 hr hi hR hj
  refine (works_any W).mono ?_
  rintro e w1 ⟨rfl, hb1⟩
  have HB1 := Lib.hid hb1
  have HGN1 := Lib.hid (HGN0.out.on hb1)
  clear hb1
  obtain ⟨g0, g1, g2, g3⟩ := HGN1.out.cells
  go_wp2_with fail
  refine (large_any N a l cap w1 hl HGN1.out.arcs).mono ?_
  rintro e w2 ⟨rfl, hb2⟩
  have HB2 : Hid (Below W.heap.size W w2) := HB1.out.trans (hb2.mono HB1.out.size)
  clear hb2 g0 g1 g2 g3 HB1 HGN1
  obtain ⟨V, HV⟩ := named (lgB N l)
  rw [HV.out]
  have HEND : Hid (∀ wr, Below W.heap.size W wr → Below p w wr) := fun wr h => HB0.out.trans (h.mono (by omega))
  have HX : Hid (∀ wr, Below W.heap.size W wr → wr.cell? ⟨p + 1 + 1, 0, none⟩ = some (.int .i64 lv) ∧ wr.cell? ⟨p + 1 + 1, 1, none⟩ = some (.slice d ids.length dc) ∧ Ints wr d ids) := fun wr hb => by
    obtain ⟨⟨k0, k1⟩, _⟩ := two_cells ((hb.block (p + 1 + 1) (lt_of_block HG2.out)).trans HG2.out)
    exact ⟨k0, k1, HJ0.out.on hb⟩
  rcases V with _ | _
  rotate_left
  · go_wp2_with fail
    go_ret
    exact ⟨rfl, HEND.out _ HB2.out⟩
  have HGN2 := Lib.hid (HGN0.out.on HB2.out)
  obtain ⟨g0, g1, g2, g3⟩ := HGN2.out.cells
  obtain ⟨x0, x1, x2⟩ := HX.out _ HB2.out
  have HSA := Lib.hid (stale_any N a l cap ba bs bc ca C cc d ids dc w2 hl hbl HGN2.out.arcs HGN2.out.ints HGN2.out.rws hdl x2)
  obtain ⟨E, HE⟩ := named (stE N l bs (csl C) ids)
  rw [HE.out] at HSA
  clear x2
  by_cases hE : E = 0
  · subst hE
    have HSB := Lib.hid (HSA.out.mono (fun e w' h => (⟨h.1 rfl, h.2.2⟩ : (∃ g vs, e = .returned (.tuple #[.slice (some ⟨g, 0, none⟩) C.length C.length, .int .i64 0]) ∧ Rws w' (some ⟨g, 0, none⟩) (stC N.toNat (csl C) l ids vs C.length)) ∧ _)))
    have hns : nsE N l bs (csl C) = 0 := by
      have h := HE.out
      unfold stE at h
      split at h
      · rename_i h1; exact absurd h h1
      · rename_i h1; simpa using h1
    have hNR := nsE_zero.1 hns
    have hst := HE.out
    unfold stE at hst
    rw [if_neg (by rw [hns]; simp)] at hst
    have h16 : ids.length ≤ 16384 := by
      split at hst
      · cases hst
      · omega
    have HD : Hid (∀ i, i < ids.length → 0 ≤ ids.getD i 0 ∧ ids.getD i 0 < l.length) := fun i hi => by
      rw [if_neg (by omega)] at hst
      split at hst
      · rename_i h2
        have := all_at_I h2 hi
        simpa using this
      · cases hst
    have h1024 := (chk_zero hNR.1).2.1
    have h0N := (chk_zero hNR.1).1
    have hl8 := (chk_zero hNR.1).2.2.1
    obtain ⟨n, hn⟩ : ∃ n : Nat, N = n := ⟨N.toNat, by omega⟩
    have HHN := Lib.hid hn
    have HNR := Lib.hid hNR
    have hcl : C.length = bs.length := by have := hNR.2.2.2.1; rw [csl_len] at this; exact this
    have HCL := Lib.hid hcl
    have h5 : bs.length ≤ 5 := hNR.2.2.1
    have HC : Hid (chkE n l = 0) := by show _ = _; rw [← hn]; exact hNR.1
    have hn8 : n ≤ 1024 := by omega
    clear hNR hns hst hn hcl HSA
    go_wp2_with fail
    refine HSB.out.mono ?_
    rintro e w3 ⟨⟨g, vs, rfl, hrw⟩, hb3⟩
    have HB3 : Hid (Below W.heap.size W w3) := HB2.out.trans (hb3.mono HB2.out.size)
    rw [HHN.out, Int.toNat_natCast] at hrw
    have HRW := Lib.hid hrw
    clear HSB hrw hb3 g0 g1 g2 g3 x0 x1 HGN2 HB2
    have HGN3 := Lib.hid (HGN0.out.on HB3.out)
    obtain ⟨g0, g1, g2, g3⟩ := HGN3.out.cells
    go_wp2_with fail
    clear g0 g1 g2 g3 HGN3
    go_loopw [38] (fun i wr => ∃ (j : Nat), j ≤ bs.length ∧ i = .int .i64 (j : Int) ∧ Hid (Below w3.heap.size w3 wr)) (fun i _ => bs.length - (intOf i).toNat)
    case atStart => exact ⟨0, Nat.zero_le _, rfl, Below.refl _ _⟩
    case round =>
      obtain ⟨j, hj, rfl, HBQ⟩ := hrel
      have HBR : Hid (Below W.heap.size W wr) := HB3.out.trans (HBQ.out.mono HB3.out.size)
      have HGR := Lib.hid (HGN0.out.on HBR.out)
      obtain ⟨g0, g1, g2, g3⟩ := HGR.out.cells
      by_cases hlj : j < bs.length
      · have hlj' : (j : Int) < bs.length := by omega
        have hat0 : atE N l bs (csl C) ((j : Int) + 1) = 0 := atE_ok HNR.out hlj
        obtain ⟨hLn, hty, _, _⟩ := HNR.out.lv hlj
        obtain ⟨L, HL⟩ := named (lvl (csl C) j)
        have hmv : manyV N l bs (csl C) ((j : Int) + 1) = (szL L).length := by
          unfold manyV
          rw [if_pos hat0, show ((j : Int) + 1).toNat - 1 = j by omega, HL.out]
        have HMA := Lib.hid (many_any N a l cap ba bs bc ca C cc ((j : Int) + 1) wr hl hbl HGR.out.arcs HGR.out.ints HGR.out.rws)
        obtain ⟨m, HMe⟩ := named (szL L).length
        rw [hat0, hmv, HMe.out] at HMA
        rw [HL.out] at hLn hty
        have HLn : Hid (L.length = n) := by show _ = _; rw [HHN.out] at hLn; omega
        have HLT : Hid (∀ v, v < n → 0 ≤ L.getD v 0) := fun v hv => by
          obtain ⟨y, h1, h2⟩ := right_lt hty (u := v) (by rw [HLn.out]; exact hv)
          rw [h1]
          omega
        have hmn : m ≤ n := by
          have h1 := szL_length L
          rw [HLn.out, HMe.out] at h1
          exact h1
        have hjC : j < C.length := by have := HCL.out; omega
        have hjC' : (j : Int) < C.length := by omega
        clear hat0 hmv hLn hty
        go_wp2_with fail
        refine HMA.out.mono ?_
        rintro e w4 ⟨rfl, hb4⟩
        have HBQ4 : Hid (Below w3.heap.size w3 w4) := HBQ.out.trans (hb4.mono HBQ.out.size)
        clear hb4 g0 g1 g2 g3 HMA HGR HBR HBQ
        go_wp2_with fail
        go_loopw [52] (fun i wr => ∃ (c : Nat), c ≤ m ∧ i = .int .i64 (c : Int) ∧ Hid (Below w3.heap.size w3 wr)) (fun i _ => m - (intOf i).toNat)
        case atStart => exact ⟨0, Nat.zero_le _, rfl, HBQ4⟩
        case round =>
          clear HBQ4
          obtain ⟨c, hc, rfl, HBQ⟩ := hrel
          by_cases hlc : c < m
          · have hlc' : (c : Int) < m := by omega
            have HBR : Hid (Below W.heap.size W wr) := HB3.out.trans (HBQ.out.mono HB3.out.size)
            have HGR := Lib.hid (HGN0.out.on HBR.out)
            obtain ⟨g0, g1, g2, g3⟩ := HGR.out.cells
            have hin : inE N l bs (csl C) ((j : Int) + 1) c = 0 := inE_ok HNR.out hlj (by rw [HL.out, HMe.out]; exact hlc)
            have hiv : inV N l bs (csl C) ((j : Int) + 1) c = arL l (hld L c) := by
              unfold inV
              rw [if_pos hin, show ((j : Int) + 1).toNat - 1 = j by omega, HL.out]
            have HIR := Lib.hid (inner_any N a l cap ba bs bc ca C cc ((j : Int) + 1) c wr hl hbl HGR.out.arcs HGR.out.ints HGR.out.rws)
            rw [hin, hiv] at HIR
            have HTI := Lib.hid (tc_in HC.out (show c < n by omega) HLT.out HD.out)
            obtain ⟨R, HR⟩ := named (arL l (hld L c))
            rw [HR.out] at HIR HTI
            have hR8 : R.length ≤ 8192 := by rw [← HR.out]; have := cho_len (arP l (hld L c)) l.length; unfold arL; omega
            clear hin hiv
            go_wp2_with fail
            refine HIR.out.mono ?_
            rintro e w6 ⟨rv, rfl, hrow6, hb6⟩
            have HBQ6 : Hid (Below w3.heap.size w3 w6) := HBQ.out.trans (hb6.mono HBQ.out.size)
            have HB6 : Hid (Below W.heap.size W w6) := HB3.out.trans (HBQ6.out.mono HB3.out.size)
            have HR6 := Lib.hid hrow6.ints
            clear HIR hrow6 hb6 g0 g1 g2 g3 HGR HBR HBQ
            obtain ⟨x0, x1, x2⟩ := HX.out _ HB6.out
            obtain ⟨iz, oz, hiz⟩ := x2.get
            have HIZ := Lib.hid hiz
            clear x2 hiz x0
            go_wp2_with fail
            go_loop [15, 67] (fun s i => ∃ (t : Nat) (b : Bool), t ≤ ids.length ∧ i = .int .i64 (t : Int) ∧ s = .bool b ∧ Hid ((ids.take t).any (fun i => (ints R).contains i) = b)) (fun _ i => ids.length - (intOf i).toNat)
            case atStart => exact ⟨0, false, Nat.zero_le _, rfl, rfl, by show _ = _; simp⟩
            case round =>
              obtain ⟨t, b, ht, rfl, rfl, HTB⟩ := hrel
              by_cases hlt : t < ids.length
              · have hlt' : (t : Int) < ids.length := by omega
                obtain ⟨rfl, hzl, hzat⟩ := HIZ.out (by omega)
                have s0 := hzat t hlt
                have HNX := Lib.hid (any_take_I (p := fun i => (ints R).contains i) hlt)
                generalize ids.getD t 0 = x at *
                rw [HTB.out] at HNX
                clear hzat
                rcases b with _ | _
                · have HHA := Lib.hid (has_any rv (ints R) R.length x w6 (by rw [ints_len]; exact hR8) HR6.out)
                  rw [ints_len] at HHA
                  have HNX2 : Hid ((ids.take (t + 1)).any (fun i => (ints R).contains i) = (ints R).contains x) := HNX.out.trans (Bool.false_or _)
                  obtain ⟨q, HQ⟩ := named ((ints R).contains x)
                  rw [HQ.out] at HHA HNX2
                  go_wp2_with fail
                  refine HHA.out.mono ?_
                  rintro e w7 ⟨rfl, rfl⟩
                  go_wp2_with fail
                  exact ⟨⟨t + 1, q, by omega, by simp, rfl, HNX2⟩, by simp [intOf]; omega⟩
                · have HNX2 : Hid ((ids.take (t + 1)).any (fun i => (ints R).contains i) = true) := HNX.out.trans (Bool.true_or _)
                  go_wp2_with fail
                  exact ⟨⟨t + 1, true, by omega, by simp, rfl, HNX2⟩, by simp [intOf]; omega⟩
              · have hlt' : ¬ (t : Int) < ids.length := by omega
                have HTF : Hid (ids.any (fun i => (ints R).contains i) = b) := by
                  have h := HTB.out
                  rw [List.take_of_length_le (by omega)] at h
                  exact h
                rw [HTI.out] at HTF
                have hrw6 := HRW.out.on HBQ6.out
                obtain ⟨bx, ox, hbx⟩ := hrw6.get
                obtain ⟨e1, _, hcell⟩ := hbx (by rw [stC_len]; omega)
                injection e1 with e1
                injection e1 with e1 e2
                subst e1
                subst e2
                have d0 := hcell j (by rw [stC_len]; exact hjC)
                have dI := (hrw6.2 j (by rw [stC_len]; exact hjC)).1
                rw [stC_at hjC] at d0 dI
                unfold Cl.val at d0
                rw [HL.out] at d0 dI
                simp only [ints_len, Nat.zero_add] at d0
                simp only at dI
                have HHT := Lib.hid (has_any (vs j) (ints (tcL n L l ids)) (tcL n L l ids).length c w6 (by rw [ints_len]; have := cho_len (tcP L l ids ids.length) n; unfold tcL; omega) dI)
                rw [ints_len, HTF.out] at HHT
                obtain ⟨T, HT⟩ := named (tcL n L l ids).length
                rw [HT.out] at HHT d0
                have ebb : (b != b) = false := by simp
                clear hcell hbx dI hrw6 HTB HTI
                go_wp2_with fail
                refine HHT.out.mono ?_
                rintro e w8 ⟨rfl, rfl⟩
                go_wp2_with fail
                exact ⟨⟨c + 1, by omega, by simp, HBQ6⟩, by simp [intOf]; omega⟩
          · have hlc' : ¬ (c : Int) < m := by omega
            go_wp2_with fail
            exact ⟨⟨j + 1, by omega, by simp, HBQ⟩, by simp [intOf]; omega⟩
      · have hlj' : ¬ (j : Int) < bs.length := by omega
        have eqq : ((C.length : Int) == (bs.length : Int)) = true := by rw [HCL.out]; simp
        go_wp2_with fail
        go_ret
        exact ⟨rfl, HEND.out _ HBR.out⟩
  · have HSB := Lib.hid (HSA.out.mono (fun e w' h => (⟨h.2.1 hE, h.2.2⟩ : e = .returned (.tuple #[.slice none 0 0, .int .i64 E]) ∧ _)))
    have e1 : (E != 0) = true := by simpa using hE
    clear HSA
    go_wp2_with fail
    refine HSB.out.mono ?_
    rintro e w3 ⟨rfl, hb3⟩
    have HB3 : Hid (Below W.heap.size W w3) := HB2.out.trans (hb3.mono HB2.out.size)
    clear HSB hb3 g0 g1 g2 g3 x0 x1
    go_wp2_with fail
    go_ret
    exact ⟨rfl, HEND.out _ HB3.out⟩
end Go.Proofs.Ytpmjbeiclmllmaa
