/-
  nest.Children and Parent.
-/
import Derived.Test.YtpmjbeiclmllmaaNsI
namespace Go.Proofs.Ytpmjbeiclmllmaa
open Go.RowKit
/-- The children of a cell among the first. -/
def chT (ys : List Int) (L : List Nat) (q : Int) (k : Nat) : List Nat := (List.range k).filter (fun c => decide (ys.getD (L.getD c 0) 0 = q))
theorem chT_t {ys : List Int} {L : List Nat} {q : Int} {k : Nat} (h : ys.getD (L.getD k 0) 0 = q) : chT ys L q (k + 1) = chT ys L q k ++ [k] := by
  unfold chT
  rw [List.range_succ, List.filter_append, List.filter_cons, if_pos (decide_eq_true h)]
  rfl
theorem chT_f {ys : List Int} {L : List Nat} {q : Int} {k : Nat} (h : ¬ ys.getD (L.getD k 0) 0 = q) : chT ys L q (k + 1) = chT ys L q k := by
  unfold chT
  rw [List.range_succ, List.filter_append, List.filter_cons, if_neg (by rw [decide_eq_false h]; decide)]
  exact List.append_nil _
theorem chT_len (ys : List Int) (L : List Nat) (q : Int) (k : Nat) : (chT ys L q k).length ≤ k := by
  have := List.length_filter_le (fun c => decide (ys.getD (L.getD c 0) 0 = q)) (List.range k)
  simpa [chT] using this
/-- The children of a cell. -/
def chL (xs ys : List Int) (q : Int) : List Nat := chT ys (lsL xs 0 []) q (lsL xs 0 []).length
def chE (N : Int) (l : List A) (bs : List Int) (cs : List (List Int)) (k x : Int) : Int := if inE N l bs cs k x ≠ 0 then inE N l bs cs k x else if k = 1 then 111 else 0
def chV (N : Int) (l : List A) (bs : List Int) (cs : List (List Int)) (k x : Int) : List Nat := if chE N l bs cs k x = 0 then chL (lvl cs (k.toNat - 2)) (lvl cs (k.toNat - 1)) x else []
set_option maxRecDepth 100000 in
set_option maxHeartbeats 3200000 in
theorem children_any (N : Int) (a : Option Addr) (l : List A) (cap : Nat) (ba : Option Addr) (bs : List Int) (bc : Nat) (ca : Option Addr) (C : List Cl) (cc : Nat) (k x : Int) (w : World) (hl : l.length ≤ 9223372036854775807) (hbl : bs.length ≤ 9223372036854775807) (hr : Arcs w a l) (hi : Ints w ba bs) (hR : Rws w ca C) :
    Calls Try.prog 35 #[.agg #[.int .i64 N, .slice a l.length cap], .agg #[.slice ba bs.length bc, .slice ca C.length cc], .int .i64 k, .int .i64 x] w fun e w' => ∃ v c S, e = .returned (.tuple #[.slice v S.length c, .int .i64 (chE N l bs (csl C) k x)]) ∧ w'.ownsRow w.heap.size 3 1 (.slice v S.length c) S.length (cellsI (ints S)) ∧ Hid (S = chV N l bs (csl C) k x) ∧ Below w.heap.size w w' := by
  have hb0 : Below w.heap.size w ((w.alloc (.cells #[.int .i64 N, .slice a l.length cap] 24)).alloc (.cells #[.slice ba bs.length bc, .slice ca C.length cc] 28)) := (top2 w _ _).2.2.1
  have hg0 := (top2 w (.cells #[.int .i64 N, .slice a l.length cap] 24) (.cells #[.slice ba bs.length bc, .slice ca C.length cc] 28)).1
  have hg1 := (top2 w (.cells #[.int .i64 N, .slice a l.length cap] 24) (.cells #[.slice ba bs.length bc, .slice ca C.length cc] 28)).2.1
  have hsz := (top2 w (.cells #[.int .i64 N, .slice a l.length cap] 24) (.cells #[.slice ba bs.length bc, .slice ca C.length cc] 28)).2.2.2
  obtain ⟨⟨a0, a1⟩, _⟩ := two_cells hg0
  obtain ⟨⟨a2, a3⟩, _⟩ := two_cells hg1
  have HB0 := Lib.hid hb0
  have HLK := Lib.hid (lookInto_any N a l cap ba bs bc ca C cc k x _ hl hbl (hr.on hb0) (hi.on hb0) (hR.on hb0))
  have HRR := Lib.hid hR
  clear hr hi hR hb0
  generalize hp : w.heap.size = p at *
  by_cases h1 : inE N l bs (csl C) k x = 0
  · have HL := Lib.hid (HLK.out.mono (fun e w' h => (⟨h.1 h1, h.2.2⟩ : (∃ g, (∃ c, e = .returned (.tuple #[.slice (some ⟨g, 0, none⟩) bs.length c, .int .i64 0])) ∧ Hid (LvR w' g C bs)) ∧ _)))
    have hCE : chE N l bs (csl C) k x = if k = 1 then 111 else 0 := by unfold chE; rw [if_neg (by rw [h1]; simp)]
    obtain ⟨hNR, j, q, rfl, hj, rfl, hq⟩ := inE_zero h1
    have h5 := hNR.2.2.1
    clear HLK h1
    by_cases hj0 : j = 0
    · rw [if_pos (by omega)] at hCE
      have HV : Hid (chV N l bs (csl C) ((j : Int) + 1) q = []) := by show _ = _; unfold chV; rw [hCE, if_neg (by decide)]
      rw [hCE, HV.out]
      clear hCE hNR hq
      subst hj0
      go_enter Try.func35, Try.ntmps35
      go_wp2_with fail
      generalize hW : (w.alloc (.cells #[.int .i64 N, .slice a l.length cap] 24)).alloc (.cells #[.slice ba bs.length bc, .slice ca C.length cc] 28) = W at *
      clear hW
      refine HL.out.mono ?_
      rintro e w1 ⟨⟨g, ⟨c, rfl⟩, HLR⟩, hb1⟩
      have HB1 : Hid (Below p w w1) := HB0.out.trans (hb1.mono (by omega))
      clear a0 a1 a2 a3 hb1 HL hg0 hg1 HB0
      go_wp2_with fail
      go_ret2
      exact ⟨none, 0, [], rfl, World.ownsRow_nil _ _ _ _, Lib.hid rfl, HB1.out⟩
    · obtain ⟨i, rfl⟩ : ∃ i, j = i + 1 := ⟨j - 1, by omega⟩
      rw [if_neg (by omega)] at hCE
      have HV : Hid (chV N l bs (csl C) ((i + 1 : Nat) + 1 : Int) q = chL (cl C i).xs (cl C (i + 1)).xs q) := by
        show _ = _
        unfold chV
        rw [hCE, if_pos rfl, show (((i + 1 : Nat) : Int) + 1).toNat - 1 = i + 1 by omega, show (((i + 1 : Nat) : Int) + 1).toNat - 2 = i by omega, csl_at, csl_at]
      rw [hCE, HV.out]
      obtain ⟨b1, b2, _, _⟩ := hNR.lv hj
      obtain ⟨d1, d2, _, _⟩ := hNR.lv (show i < bs.length by omega)
      rw [csl_at] at b1 b2 d1 d2 hq
      have hN := (chk_zero hNR.1).2.1
      have hjc : i + 1 < C.length := by have := hNR.2.2.2.1; rw [csl_len] at this; omega
      have HIY := Lib.hid (HRR.out.2 (i + 1) hjc).1
      have HIX := Lib.hid (HRR.out.2 i (by omega)).1
      have HLS := Lib.hid (ls_right d2)
      have hLn : (lsL (cl C i).xs 0 []).length ≤ 1024 := by rw [ls_len d2]; exact Nat.le_trans (szL_length _) (by omega)
      have hxl : (cl C i).xs.length ≤ 1024 := by omega
      have hyl : (cl C (i + 1)).xs.length ≤ 1024 := by omega
      have hxy : (cl C i).xs.length ≤ (cl C (i + 1)).xs.length := by omega
      have hs1 : (szL (cl C i).xs).length ≤ 1024 := Nat.le_trans (szL_length _) hxl
      clear hCE hNR b1 b2 d1 d2
      have ej : ((i + 1 : Nat) : Int) + 1 - 1 = (i + 1 : Nat) := by omega
      have ej1 : (i : Int) + 1 + 1 - 1 = (i + 1 : Nat) := by omega
      have ej2 : (i : Int) + 1 + 1 - 2 = (i : Nat) := by omega
      have ej3 : ((i + 1 : Nat) : Int) + 1 - 2 = (i : Nat) := by omega
      have hj' : ((i + 1 : Nat) : Int) < bs.length := by omega
      have hj'' : (i : Int) < bs.length := by omega
      have hk1 : ¬ ((i + 1 : Nat) : Int) + 1 = 1 := by omega
      have hk2 : (((i + 1 : Nat) : Int) + 1 == 1) = false := by simp; omega
      obtain ⟨K, HK⟩ := named (((i + 1 : Nat) : Int) + 1)
      have eK1 : K - 1 = (i + 1 : Nat) := by rw [← HK.out]; omega
      have eK2 : K - 2 = (i : Nat) := by rw [← HK.out]; omega
      have hK1 : ¬ K = 1 := by rw [← HK.out]; omega
      have hK2 : (K == 1) = false := by simpa using hK1
      have hKb : K ≤ 5 := by rw [← HK.out]; omega
      have hKc : 2 ≤ K := by rw [← HK.out]; omega
      rw [HK.out] at HL ⊢
      obtain ⟨X, HX⟩ := named (cl C i).xs
      obtain ⟨Y, HY⟩ := named (cl C (i + 1)).xs
      rw [HX.out] at hxl hxy HIX HLS hLn hs1 ⊢
      rw [HY.out] at hyl hxy HIY ⊢
      clear ej ej1 ej2 ej3 hk1 hk2
      go_enter Try.func35, Try.ntmps35
      go_wp2_with fail
      generalize hW : (w.alloc (.cells #[.int .i64 N, .slice a l.length cap] 24)).alloc (.cells #[.slice ba bs.length bc, .slice ca C.length cc] 28) = W at *
      clear hW
      refine HL.out.mono ?_
      rintro e w1 ⟨⟨g, ⟨c, rfl⟩, HLR⟩, hb1⟩
      have HB1 : Hid (Below p w w1) := HB0.out.trans (hb1.mono (by omega))
      have hwz : p ≤ w1.heap.size := by have := hb1.size; omega
      obtain ⟨sv, sd, m0, m1, m2, _⟩ := HLR.out.2 (i + 1) hj
      obtain ⟨tv, td, n0, n1, n2, _⟩ := HLR.out.2 i (by omega)
      have hgw := HLR.out.1
      unfold Cl.val at m0 n0
      clear a0 a1 a2 a3 hb1 HL hg0 hg1 HB0 hq HV HK
      rw [HX.out] at n0 n1
      rw [HY.out] at m0 m1
      generalize (cl C i).a = xa at *
      generalize (cl C i).c = xc at *
      generalize (cl C (i + 1)).a = ya at *
      generalize (cl C (i + 1)).c = yc at *
      generalize (szL Y).length = ym at *
      obtain ⟨xm, HXM⟩ := named (szL X).length
      rw [HXM.out] at n1 hs1
      generalize bs.getD (i + 1) 0 = by1 at *
      generalize bs.getD i 0 = bx1 at *
      clear HLR
      go_wp2_with fail
      go_cut [12, 13] from 30 to 41 (fun s12 s13 wc => ∃ b1 b2, s12 = .pointer (some ⟨b1, 0, none⟩) ∧ s13 = .pointer (some ⟨b2, 0, none⟩) ∧ Hid (wc.heap[b1]? = some (.cells #[.slice ya Y.length yc, .slice sv ym sd, .int .i64 by1] 104)) ∧ Hid (wc.heap[b2]? = some (.cells #[.slice xa X.length xc, .slice tv xm td, .int .i64 bx1] 104)) ∧ Hid (Below w1.heap.size w1 wc))
      case first =>
        have hgn : g ≠ w1.heap.size := by omega
        have hgm := hgn.symm
        have hgn1 : g ≠ w1.heap.size + 1 := by omega
        have hgm1 := hgn1.symm
        clear HIX HIY HLS HB1 HRR
        go_region
        · go_wp2_with fail
          go_meet
          case rel =>
            obtain ⟨t1, t2, t3, _⟩ := top2 w1 (.cells #[.slice ya Y.length yc, .slice sv ym sd, .int .i64 by1] 104) (.cells #[.slice xa X.length xc, .slice tv xm td, .int .i64 bx1] 104)
            exact ⟨_, _, rfl, rfl, t1, t2, t3.drew⟩
        · go_wp2_with fail
          go_meet
          case rel =>
            obtain ⟨t1, t2, t3, _⟩ := top2 w1 (.cells #[.slice xa X.length xc, .slice tv xm td, .int .i64 bx1] 104) (.cells #[.slice ya Y.length yc, .slice sv ym sd, .int .i64 by1] 104)
            exact ⟨_, _, rfl, rfl, t2, t1, t3.drew⟩
      case rest =>
        obtain ⟨b1, b2, rfl, rfl, HG1, HG2, HBC⟩ := hcut
        have hb1c : b1 < wc.heap.size := lt_of_block HG1.out
        have HBW : Hid (Below p w wc) := HB1.out.trans (HBC.out.mono hwz)
        have hwcz : p ≤ wc.heap.size := Nat.le_trans hwz HBC.out.size
        obtain ⟨r0, r1, _⟩ := three_cells HG2.out
        clear m0 m1 m2 n0 n1 n2 HB1 HBC
        have HLE := Lib.hid (nsLeasts_any xa X xc tv xm td wc hxl hs1 (HIX.out.on (by rw [hp]; exact HBW.out)))
        go_wp2_with fail
        refine HLE.out.mono ?_
        rintro e w2 ⟨lv, lc, L, rfl, hown, hL, hb2⟩
        have HL := Lib.hid hL
        have HOL := Lib.hid hown
        have HB2 : Hid (Below p w w2) := HBW.out.trans (hb2.mono hwcz)
        have hk1 := (hb2.block b1 hb1c).trans HG1.out
        have HK1 := Lib.hid hk1
        have hz2 := hb2.size
        have hb12 : b1 < w2.heap.size := by omega
        clear hb2 hown hL HLE r0 r1 HG1 HG2 HBW hk1
        rw [← HL.out] at HLS hLn
        have HCH : Hid (chL X Y q = chT Y L q L.length) := by show _ = _; unfold chL; rw [← HL.out]
        have hp2 : p ≤ w2.heap.size := by omega
        obtain ⟨i3, hi3, hz3, hs3, hby3⟩ := info_parts info3
        obtain ⟨lg, lo, hlg⟩ := (own_ints HOL.out rfl).get
        have HLG := Lib.hid hlg
        clear hlg
        go_wp2_with fail
        go_loopw [14, 44] (fun s14 i wr => ∃ (k : Nat) (av : Option Addr) (cv : Nat) (S : List Nat), k ≤ L.length ∧ i = .int .i64 k ∧ s14 = .slice av S.length cv ∧ S.length ≤ k ∧ Hid (S = chT Y L q k) ∧ Hid (wr.ownsRow w2.heap.size 3 1 (.slice av S.length cv) S.length (cellsI (ints S))) ∧ Hid (Below w2.heap.size w2 wr)) (fun _ i _ => L.length - (intOf i).toNat)
        case atStart => exact ⟨0, none, 0, [], Nat.zero_le _, rfl, rfl, Nat.zero_le _, rfl, World.ownsRow_nil _ _ _ _, Below.refl _ _⟩
        case round =>
          obtain ⟨k, av, cv, S, hk, rfl, rfl, hSk, HS, HOW, HBR⟩ := hrel
          have hwr := HBR.out.size
          have HBX : Hid (Below p w wr) := HB2.out.trans (HBR.out.mono hp2)
          by_cases hlk : k < L.length
          · obtain ⟨rfl, hbl, hat⟩ := HLG.out (by rw [ints_len]; omega)
            have hlk' : (k : Int) < L.length := by omega
            have y0 := (HBR.out.cell (p := ⟨lg, lo + k, none⟩) hbl).trans (hat k (by rw [ints_len]; exact hlk))
            rw [ints_getD hlk] at y0
            obtain ⟨z0, z1, _⟩ := three_cells ((HBR.out.block b1 hb12).trans HK1.out)
            have hLY : L.getD k 0 < Y.length := by have := (HLS.out.2.1 k hlk).1; omega
            have HOF := Lib.hid (nsOf_any ya Y yc (.slice sv ym sd) (L.getD k 0) wr hLY (by omega) (HIY.out.on (by rw [hp]; exact HBX.out)))
            obtain ⟨yv, HYV⟩ := named (Y.getD (L.getD k 0) 0)
            rw [HYV.out] at HOF
            obtain ⟨u, HU⟩ := named (L.getD k 0)
            rw [HU.out] at HOF y0
            clear hat hLY
            go_wp2_with fail
            refine HOF.out.mono ?_
            rintro e w3 ⟨rfl, hb3⟩
            have HO3 := Lib.hid (own_on HOW.out hb3)
            have HB3 : Hid (Below w2.heap.size w2 w3) := HBR.out.trans (hb3.mono hwr)
            have hz3' : w2.heap.size ≤ w3.heap.size := Nat.le_trans hwr hb3.size
            clear hb3 HOF y0 z0 z1
            by_cases c : yv = q
            · have hcq : (yv == (q : Int)) = true := by simpa using c
              have HS2 : Hid (S ++ [k] = chT Y L q (k + 1)) := by show _ = _; rw [chT_t (HYV.out.trans c), HS.out]
              have HNW := Lib.hid (one_new w3 k)
              have HO2 := Lib.hid (HO3.out.alloc (.cells #[.int .i64 k] 3))
              have HBZ : Hid (w2.heap.size ≤ (w3.alloc (.cells #[.int .i64 k] 3)).heap.size) := by show _ ≤ _; rw [World.size_alloc]; omega
              have HBB : Hid (Below w2.heap.size w2 (w3.alloc (.cells #[.int .i64 k] 3))) := HB3.out.alloc hz3' _
              have HOB : Hid (∀ b, (Value.slice av S.length cv).ownBlock = some b → w2.heap.size ≤ b) := fun b hb => (HO3.out.lt b hb).1
              have HCA : Hid (cellsI (ints S) ++ [.int .i64 k] = cellsI (ints (S ++ [k]))) := by show _ = _; rw [ints_snoc, ← cellsI_snoc]
              have hs8 : S.length ≤ 1024 := by omega
              clear c
              go_wp2_with (at_builtin; refine wpList_append_own _ rfl (.tmp 55) (.tmp 57) 25 rfl w2.heap.size 3 i3 (.int .i64 0) 1 8 Try.underlying25 hi3 hz3 hs3 hby3 rfl (by decide) (.slice av S.length cv) S.length (cellsI (ints S)) rfl HO2.out ⟨w3.heap.size, 0, none⟩ 1 1 [.int .i64 k] rfl rfl HNW.out (one_i64 _) (by unfold maxLen; omega) (by omega) HBZ.out ?_; intro v6 w6 hown6 hgrow6 hnil6; obtain ⟨g6, c6, hv6, _, hc6, _, hm6⟩ := own_shape hown6 (fun e => by have := hnil6.1 e; simp at this); subst hv6; rw [HCA.out] at hown6; have h7 : w6.ownsRow w2.heap.size 3 1 (.slice (some ⟨g6, 0, none⟩) (S ++ [k]).length c6) (S ++ [k]).length (cellsI (ints (S ++ [k]))) := (by rw [List.length_append]; exact hown6); have HO7 := Lib.hid h7; have HB6 : Hid (Below w2.heap.size w2 w6) := HBB.out.grown hgrow6 HBZ.out (fun j hj => HOB.out j hj); clear hown6 hgrow6 hnil6 h7)
              exact ⟨⟨k + 1, some ⟨g6, 0, none⟩, c6, S ++ [k], by omega, by simp, by rw [List.length_append]; rfl, by rw [List.length_append]; simp; omega, HS2, HO7, HB6⟩, by simp [intOf]; omega⟩
            · have hcq : (yv == (q : Int)) = false := by simpa using c
              have HS2 : Hid (S = chT Y L q (k + 1)) := by show _ = _; rw [chT_f (fun h => c (HYV.out.symm.trans h)), HS.out]
              clear c
              go_wp2_with fail
              exact ⟨⟨k + 1, av, cv, S, by omega, by simp, rfl, by omega, HS2, HO3, HB3⟩, by simp [intOf]; omega⟩
          · have hlk' : ¬ (k : Int) < L.length := by omega
            have hkk : k = L.length := by omega
            have HS2 : Hid (S = chL X Y q) := by show _ = _; rw [HCH.out, HS.out, hkk]
            have HOF := Lib.hid (own_base HOW.out hp2)
            clear hkk
            go_wp2_with fail
            go_ret2
            exact ⟨av, cv, S, rfl, HOF.out, HS2, HBX.out⟩
  · have HL := Lib.hid (HLK.out.mono (fun e w' h => (⟨h.2.1 h1, h.2.2⟩ : e = .returned (.tuple #[.slice none 0 0, .int .i64 (inE N l bs (csl C) k x)]) ∧ _)))
    have hCE : chE N l bs (csl C) k x = inE N l bs (csl C) k x := by unfold chE; rw [if_pos h1]
    have HV : Hid (chV N l bs (csl C) k x = []) := by show _ = _; unfold chV; rw [hCE, if_neg h1]
    rw [hCE, HV.out]
    obtain ⟨F, HF⟩ := named (inE N l bs (csl C) k x)
    rw [HF.out] at HL h1 ⊢
    have e1 : (F != 0) = true := by simpa using h1
    clear HLK hCE
    go_enter Try.func35, Try.ntmps35
    go_wp2_with fail
    generalize hW : (w.alloc (.cells #[.int .i64 N, .slice a l.length cap] 24)).alloc (.cells #[.slice ba bs.length bc, .slice ca C.length cc] 28) = W at *
    clear hW
    refine HL.out.mono ?_
    rintro e w1 ⟨rfl, hb1⟩
    have HB1 : Hid (Below p w w1) := HB0.out.trans (hb1.mono (by omega))
    clear a0 a1 a2 a3 hb1 HL hg0 hg1 HB0
    go_wp2_with fail
    go_ret2
    exact ⟨none, 0, [], rfl, World.ownsRow_nil _ _ _ _, Lib.hid rfl, HB1.out⟩
end Go.Proofs.Ytpmjbeiclmllmaa
