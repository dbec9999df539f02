import Derived.Deep.DeepCutAuto
import Derived.Test.YtaafkpojjdjphaaGreatQAC
open Go.Lib (hid)
set_option maxRecDepth 100000
namespace Go.Proofs.YtaafkpojjdjphaaGreat
open Go.RowKit
theorem set3_far (w : World) (b k : Nat) (hk : k ≠ b) (x y z : Value) : (((w.setCell ⟨b, 0, none⟩ x).setCell ⟨b, 1, none⟩ y).setCell ⟨b, 2, none⟩ z).heap[k]? = w.heap[k]? :=
 (Below.heap_setCell _ _ _ _ hk).trans ((Below.heap_setCell _ _ _ _ hk).trans (Below.heap_setCell _ _ _ _ hk))
set_option maxHeartbeats 3200000 in
theorem look_ok (n : Nat) (a : Option Addr) (l : List A) (cap : Nat) (ba : Option Addr) (bs : List Int) (bc : Nat) (ca : Option Addr) (C : List Cl) (cc : Nat) (w : World) (hC : chkE n l = 0) (h1 : 1 ≤ bs.length) (h5 : bs.length ≤ 5) (hcl : C.length = bs.length) (hr : Arcs w a l) (hi : Ints w ba bs) (hR : Rws w ca C) :
  Calls Tryz.prog 80 #[.agg #[.int .i64 n, .slice a l.length cap], .agg #[.slice ba bs.length bc, .slice ca bs.length cc]] w fun e w' =>
   ((lkE n bs (csl C) 0 0 []).2 = 0 → ∃ g, (∃ c, e = .returned (.tuple #[.slice (some ⟨g, 0, none⟩) bs.length c, .int .i64 0, .int .i64 0])) ∧ Hid (LvR w' g C bs)) ∧ ((lkE n bs (csl C) 0 0 []).2 ≠ 0 → e = .returned (.tuple #[.slice none 0 0, .int .i64 ((lkE n bs (csl C) 0 0 []).1 : Nat), .int .i64 (lkE n bs (csl C) 0 0 []).2])) ∧ Below w.heap.size w w' := by
 obtain ⟨h1n, hn, hl, _⟩ := chk_zero hC
 have hb0 : Below w.heap.size w ((w.alloc (.cells #[.int .i64 n, .slice a l.length cap] 24)).alloc (.cells #[.slice ba bs.length bc, .slice ca bs.length cc] 28)) := ((Below.refl _ _).alloc (Nat.le_refl _) _).alloc (by simp) _
 have hg0 : ((w.alloc (.cells #[.int .i64 n, .slice a l.length cap] 24)).alloc (.cells #[.slice ba bs.length bc, .slice ca bs.length cc] 28)).heap[w.heap.size]? = some (.cells #[.int .i64 n, .slice a l.length cap] 24) := (Below.heap_alloc _ _ _ (by simp)).trans (heap_top w _)
 have hg1 : ((w.alloc (.cells #[.int .i64 n, .slice a l.length cap] 24)).alloc (.cells #[.slice ba bs.length bc, .slice ca bs.length cc] 28)).heap[w.heap.size + 1]? = some (.cells #[.slice ba bs.length bc, .slice ca bs.length cc] 28) := by
  have s1 : (w.alloc (.cells #[.int .i64 n, .slice a l.length cap] 24)).heap.size = w.heap.size + 1 := by simp
  exact s1 ▸ heap_top (w.alloc (.cells #[.int .i64 n, .slice a l.length cap] 24)) _
 have hsz : ((w.alloc (.cells #[.int .i64 n, .slice a l.length cap] 24)).alloc (.cells #[.slice ba bs.length bc, .slice ca bs.length cc] 28)).heap.size = w.heap.size + 2 := by simp
 obtain ⟨i69, hi69, hz69, hs69, hby69⟩ := info_parts info69
 obtain ⟨⟨a0, a1⟩, _⟩ := two_cells hg0
 obtain ⟨⟨a2, a3⟩, _⟩ := two_cells hg1
 have HAR := hid hr
 have HI := hid hi
 have HR := hid hR
 have HB0 := hid hb0
 have HC0 := hid hC
 have HCK := hid (check_any n a l cap ((w.alloc (.cells #[.int .i64 n, .slice a l.length cap] 24)).alloc (.cells #[.slice ba bs.length bc, .slice ca bs.length cc] 28)) (by omega) (hr.on hb0))
 rw [hC] at HCK
 have HSM : Hid (∀ X, Calls Tryz.prog 150 #[.slice ba bs.length bc] X fun e w' => e = .returned (.bool true) ∧ w' = X) := fun X => by
  have := nsSome_any ba bs.length bc X (by omega)
  rw [decide_eq_true ⟨h1, h5⟩] at this
  exact this
 obtain ⟨E, HE⟩ := named (lkE n bs (csl C) 0 0 [])
 rw [HE.out]
 obtain ⟨ib, ob, hib⟩ := hi.get
 obtain ⟨rfl, hibl, hiat⟩ := hib (by omega)
 obtain ⟨ic, oc, hic⟩ := hR.get
 obtain ⟨rfl, hicl, hict⟩ := hic (by omega)
 have HIAT := hid hiat
 have HICT := hid hict
 generalize hp : w.heap.size = p at *
 clear hr hi hR hb0 hC hib hic hiat hict
 go_enter Tryz.func80, Tryz.ntmps80
 go_wp2_with fail
 generalize hW : (w.alloc (.cells #[.int .i64 n, .slice a l.length cap] 24)).alloc (.cells #[.slice (some ⟨ib, ob, none⟩) bs.length bc, .slice (some ⟨ic, oc, none⟩) bs.length cc] 28) = W at *
 clear hW
 refine HCK.out.mono ?_
 rintro e w1 ⟨rfl, hb1⟩
 have HB1 : Hid (Below p w w1) := HB0.out.trans (hb1.mono (by omega))
 have hk0 := (hb1.block p (by omega)).trans hg0
 have hk1 := (hb1.block (p + 1) (by omega)).trans hg1
 have hz1 := hb1.size
 clear a0 a1 a2 a3 hb1 HCK hg0 hg1 HB0
 obtain ⟨⟨a0, a1⟩, _⟩ := two_cells hk0
 obtain ⟨⟨a2, a3⟩, _⟩ := two_cells hk1
 have HK0 := hid hk0
 have HK1 := hid hk1
 clear hk0 hk1
 go_wp2_with fail
 refine (HSM.out w1).mono ?_
 rintro e w1' ⟨rfl, rfl⟩
 have hne : ((bs.length : Int) != (bs.length : Int)) = false := by simp
 have c2 : ∀ o, (w1'.alloc o).cell? ⟨p + 1, 0, none⟩ = some (.slice (some ⟨ib, ob, none⟩) bs.length bc) := fun o => (World.cell?_of_block (a := ⟨p + 1, 0, none⟩) (Below.heap_alloc w1' o (p + 1) (by omega))).trans a2
 go_wp2_with fail
 have hbx : Below w1'.heap.size w1' (w1'.alloc (.cells #[.slice none 0 0, .slice none 0 0, .int .i64 0] 145)) := (Below.refl _ _).alloc (Nat.le_refl _) _
 have HBX : Hid (Below p w (w1'.alloc (.cells #[.slice none 0 0, .slice none 0 0, .int .i64 0] 145))) := HB1.out.trans (hbx.mono (by omega))
 have HX0 := hid ((hbx.block p (by omega)).trans HK0.out)
 have HX1 := hid ((hbx.block (p + 1) (by omega)).trans HK1.out)
 have HXQ := hid (heap_top w1' (.cells #[.slice none 0 0, .slice none 0 0, .int .i64 0] 145))
 have hzx : (w1'.alloc (.cells #[.slice none 0 0, .slice none 0 0, .int .i64 0] 145)).heap.size = w1'.heap.size + 1 := by simp
 generalize hq : w1'.heap.size = q at *
 clear hbx a0 a1 a2 a3 c2 HB1 HK0 HK1
 generalize hW2 : w1'.alloc (.cells #[.slice none 0 0, .slice none 0 0, .int .i64 0] 145) = V at *
 clear hW2 hq
 go_loopw [4, 38] (fun s4 i wr => ∃ (k : Nat) (av : Option Addr) (cv : Nat) (Ls : List Lv) (ya : Option Addr) (ys : List Int) (yc : Nat) (sv : Option Addr) (sm sc : Nat) (bb : Int), k ≤ bs.length ∧ i = .int .i64 k ∧ s4 = .slice av k cv ∧ Ls.length = k ∧ Hid (lkE n (bs.drop k) ((csl C).drop k) k bb ys = E) ∧ Hid (tdy ys 0 = true) ∧ ys.length ≤ n ∧ sm ≤ 1024 ∧ Hid (Ints w ya ys) ∧ Hid (wr.ownsRow (q + 1) 145 3 (.slice av k cv) k (cellsL Ls)) ∧ Hid (LvS wr (q + 1) C bs Ls) ∧ Hid (wr.heap[q]? = some (.cells #[.slice ya ys.length yc, .slice sv sm sc, .int .i64 bb] 145)) ∧ Hid (wr.heap[p]? = some (.cells #[.int .i64 n, .slice a l.length cap] 24)) ∧ Hid (wr.heap[p + 1]? = some (.cells #[.slice (some ⟨ib, ob, none⟩) bs.length bc, .slice (some ⟨ic, oc, none⟩) bs.length cc] 28)) ∧ Hid (Below p w wr)) (fun _ i _ => bs.length - (intOf i).toNat)
 case atStart => exact ⟨0, none, 0, [], none, [], 0, none, 0, 0, 0, Nat.zero_le _, rfl, rfl, rfl, HE, rfl, by simp, by omega, .inl rfl, World.ownsRow_nil _ _ _ _, fun j hj => absurd hj (by simp), HXQ, HX0, HX1, HBX⟩
 case round =>
  obtain ⟨k, av, cv, Ls, ya, ys, yc, sv, sm, sc, bb, hk, rfl, rfl, hLk, HS, HYT, hyn, hsm, HIY, HOW, HLS, HQ, HP0, HP1, HBR⟩ := hrel
  have hwr : q < wr.heap.size := lt_of_block HQ.out
  by_cases hlk : k < bs.length
  ·have hlk' : (k : Int) < bs.length := by omega
   have y0 := (HBR.out.cell (p := ⟨ib, ob + k, none⟩) hibl).trans (HIAT.out k hlk)
   obtain ⟨⟨a0, a1⟩, _⟩ := two_cells HP0.out
   obtain ⟨⟨a2, a3⟩, _⟩ := two_cells HP1.out
   obtain ⟨q0, q1, q2⟩ := three_cells HQ.out
   have y1 := (HBR.out.cell (p := ⟨ic, oc + k, none⟩) hicl).trans (HICT.out k (by omega))
   obtain ⟨HIX, hxl⟩ := HR.out.2 k (by omega)
   have HIX := hid HIX
   have hlE := HS.out
   rw [drop_getI hlk, show (csl C).drop k = (cl C k).xs :: (csl C).drop (k + 1) by rw [← csl_at]; exact drop_getC (by rw [csl_len]; omega)] at hlE
   unfold lkE at hlE
   unfold Cl.val at y1
   have HCL : Hid (cl C k = ⟨(cl C k).a, (cl C k).c, (cl C k).xs⟩) := rfl
   generalize (cl C k).a = xa at *
   generalize (cl C k).c = xc at *
   generalize (cl C k).xs = xs at *
   obtain ⟨b, HBD⟩ := named (bs.getD k 0)
   rw [HBD.out] at y0 hlE
   have HC : Hid (∀ X, Below wr.heap.size wr X → Calls Tryz.prog 151 #[.agg #[.slice ya ys.length yc, .slice sv sm sc, .int .i64 bb], .agg #[.int .i64 n, .slice a l.length cap], .int .i64 b, .slice xa xs.length xc] X fun e w' => (nxE n bb ys b xs = 0 → ∃ v c, e = .returned (.tuple #[.agg #[.slice xa xs.length xc, .slice v (szL xs).length c, .int .i64 b], .int .i64 0]) ∧ w'.ownsRow X.heap.size 3 1 (.slice v (szL xs).length c) (szL xs).length (cellsI (ints (szL xs)))) ∧ (nxE n bb ys b xs ≠ 0 → e = .returned (.tuple #[.agg #[.slice none 0 0, .slice none 0 0, .int .i64 0], .int .i64 (nxE n bb ys b xs)])) ∧ Below X.heap.size X w' ∧ Below wr.heap.size wr w') := fun X hX => by
    have hbX : Below w.heap.size w X := by rw [hp]; exact HBR.out.trans (hX.mono (by omega))
    refine (nsNext_any n a l cap ya ys yc sv sm sc bb b xa xs xc X HC0.out hxl HYT.out hyn hsm (HAR.out.on hbX) (HIX.out.on hbX) (HIY.out.on hbX)).mono ?_
    rintro e w' ⟨g1, g2, g3⟩
    refine ⟨fun h => ?_, g2, g3, hX.trans (g3.mono hX.size)⟩
    obtain ⟨v, c, g4, g5⟩ := g1 h
    exact ⟨v, c, g4, g5⟩
   by_cases hE : nxE n bb ys b xs = 0
   ·rw [if_neg (by simpa using hE)] at hlE
    have HLE := hid hlE
    clear hlE
    have HCo : Hid (∀ X, Below wr.heap.size wr X → Calls Tryz.prog 151 #[.agg #[.slice ya ys.length yc, .slice sv sm sc, .int .i64 bb], .agg #[.int .i64 n, .slice a l.length cap], .int .i64 b, .slice xa xs.length xc] X fun e w' => ∃ v c, e = .returned (.tuple #[.agg #[.slice xa xs.length xc, .slice v (szL xs).length c, .int .i64 b], .int .i64 0]) ∧ w'.ownsRow X.heap.size 3 1 (.slice v (szL xs).length c) (szL xs).length (cellsI (ints (szL xs))) ∧ Below X.heap.size X w' ∧ Below wr.heap.size wr w') := fun X hX => (HC.out X hX).mono (fun e w' h => by obtain ⟨v, c, h1, h2⟩ := h.1 hE; exact ⟨v, c, h1, h2, h.2.2.1, h.2.2.2⟩)
    obtain ⟨S, HSS⟩ := named (szL xs)
    rw [HSS.out] at HCo
    go_wp2_with fail
    go_cut [12, 13] from 43 to 55 (fun s12 s13 wc => ∃ h v c, s12 = .pointer (some ⟨h, 0, none⟩) ∧ s13 = .int .i64 0 ∧ wr.heap.size ≤ h ∧ Hid (wc.heap[h]? = some (.cells #[.slice xa xs.length xc, .slice v S.length c, .int .i64 b] 145)) ∧ Hid (Below wr.heap.size wr wc) ∧ Hid (wc.ownsRow (q + 1) 3 1 (.slice v S.length c) S.length (cellsI (ints S))))
    case first =>
     have hnp : p < wr.heap.size := by omega
     have hnp1 : p + 1 < wr.heap.size := by omega
     have hc1 : ic < wr.heap.size := by omega
     have hn1 : p ≠ wr.heap.size := by omega
     have hn2 : p + 1 ≠ wr.heap.size := by omega
     have hn3 : q ≠ wr.heap.size := by omega
     have hn4 : ic ≠ wr.heap.size := by omega
     have hm1 := hn1.symm
     have hm2 := hn2.symm
     have hm3 := hn3.symm
     have hm4 := hn4.symm
     have G0 := hid a0
     have G1 := hid a1
     have G3 := hid a3
     have K0 := hid q0
     have K1 := hid q1
     have K2 := hid q2
     have Y1 := hid y1
     clear HC HIX HCL HBD hE HLE HS HYT HIY HOW HLS HQ HP0 HP1 HBR a2 HSS y0
     go_region_held3 (fun w' => w'.cell? ⟨p, 0, none⟩ = some (.int .i64 n) ∧ w'.cell? ⟨p, 1, none⟩ = some (.slice a l.length cap) ∧ w'.cell? ⟨p + 1, 1, none⟩ = some (.slice (some ⟨ic, oc, none⟩) bs.length cc) ∧ w'.cell? ⟨q, 0, none⟩ = some (.slice ya ys.length yc) ∧ w'.cell? ⟨q, 1, none⟩ = some (.slice sv sm sc) ∧ w'.cell? ⟨q, 2, none⟩ = some (.int .i64 bb) ∧ w'.cell? ⟨ic, oc + k, none⟩ = some (.slice xa xs.length xc)) (go_keep) ((go_at_call 151; first | (refine (HCo.out _ ((Below.refl _ _).drew)).mono ?_; rintro e w2 ⟨v, c, rfl, hown, hbx, hbw⟩; have HOX := hid hown; have HBX2 := hid hbx; have HBW := hid hbw; have v0 := (hbw.cell (p := ⟨p, 0, none⟩) hnp).trans G0.out; have v1 := (hbw.cell (p := ⟨p, 1, none⟩) hnp).trans G1.out; have v2 := (hbw.cell (p := ⟨p + 1, 1, none⟩) hnp1).trans G3.out; have v3 := (hbw.cell (p := ⟨q, 0, none⟩) hwr).trans K0.out; have v4 := (hbw.cell (p := ⟨q, 1, none⟩) hwr).trans K1.out; have v5 := (hbw.cell (p := ⟨q, 2, none⟩) hwr).trans K2.out; have v6 := (hbw.cell (p := ⟨ic, oc + k, none⟩) hc1).trans Y1.out; clear hbx hbw hown) | (refine (HCo.out _ (((Below.refl _ _).alloc (Nat.le_refl _) (.cells #[.slice none 0 0, .slice none 0 0, .int .i64 0] 145)).drew)).mono ?_; rintro e w2 ⟨v, c, rfl, hown, hbx, hbw⟩; have zz := (hbx.block wr.heap.size (by show _ < (wr.heap.push _).size; simp)).trans (heap_top wr (.cells #[.slice none 0 0, .slice none 0 0, .int .i64 0] 145)); have HZZ := hid zz; obtain ⟨z0, z1, z2⟩ := three_cells zz; obtain ⟨t0, t1, t2⟩ := three_free zz; have HOX := hid hown; have HBX2 := hid hbx; have HBW := hid hbw; clear zz; have v0 := (hbw.cell (p := ⟨p, 0, none⟩) hnp).trans G0.out; have v1 := (hbw.cell (p := ⟨p, 1, none⟩) hnp).trans G1.out; have v2 := (hbw.cell (p := ⟨p + 1, 1, none⟩) hnp1).trans G3.out; have v3 := (hbw.cell (p := ⟨q, 0, none⟩) hwr).trans K0.out; have v4 := (hbw.cell (p := ⟨q, 1, none⟩) hwr).trans K1.out; have v5 := (hbw.cell (p := ⟨q, 2, none⟩) hwr).trans K2.out; have v6 := (hbw.cell (p := ⟨ic, oc + k, none⟩) hc1).trans Y1.out; clear hbx hbw hown)))
     ·go_wp2_with fail
      go_meet
      case rel => exact ⟨w2.heap.size, v, c, rfl, rfl, HBW.out.size, heap_top _ _, HBW.out.alloc HBW.out.size _, own_base (own_on HOX.out ((Below.refl _ _).alloc (Nat.le_refl _) _)) (show q + 1 ≤ wr.heap.size by omega)⟩
     ·go_wp2_with fail
      go_meet
      case rel => exact ⟨wr.heap.size, v, c, rfl, rfl, Nat.le_refl _, set3_at HZZ.out _ _ _, below_set3 HBW.out (Nat.le_refl _) _ _ _, own_base (own_set3 HOX.out (by show _ < (wr.heap.push _).size; simp) _ _ _) (by show _ ≤ (wr.heap.push _).size; simp; omega)⟩
    case rest =>
     obtain ⟨h, v, c, rfl, rfl, hwh, HH, HBC, HOC⟩ := hcut
     have hhc : h < wc.heap.size := lt_of_block HH.out
     have hwc := HBC.out.size
     clear a0 a1 a2 a3 q0 q1 q2 y0 y1 HC HCo
     obtain ⟨d0, d1, d2⟩ := three_cells HH.out
     have HX : Hid ((⟨⟨xa, xc, xs⟩, v, c, b⟩ : Lv).sz = .slice v S.length c) := by show Value.slice v (szL xs).length c = _; rw [HSS.out]
     have HNW : Hid (∀ j u, (cellsL [⟨⟨xa, xc, xs⟩, v, c, b⟩])[j]? = some u → (wc.alloc (.cells #[.slice xa xs.length xc, .slice v S.length c, .int .i64 b] 145)).cell? ((⟨wc.heap.size, 0, none⟩ : Addr).add j) = some u) := by
      show ∀ j u, _
      rw [← HX.out]
      exact newsL wc ⟨⟨xa, xc, xs⟩, v, c, b⟩
     have hba : Below wc.heap.size wc (wc.alloc (.cells #[.slice xa xs.length xc, .slice v S.length c, .int .i64 b] 145)) := (Below.refl _ _).alloc (Nat.le_refl _) _
     have HO2 := hid (own_on (own_on HOW.out HBC.out) hba)
     have HOC2 := hid (own_on HOC.out hba)
     have HLS2 : Hid (LvS (wc.alloc (.cells #[.slice xa xs.length xc, .slice v S.length c, .int .i64 b] 145)) (q + 1) C bs Ls) := HLS.out.map (fun _ _ _ h => own_on (own_on h HBC.out) hba)
     have HBA : Hid (Below wr.heap.size wr (wc.alloc (.cells #[.slice xa xs.length xc, .slice v S.length c, .int .i64 b] 145))) := HBC.out.trans (hba.mono hwc)
     have hza : (wc.alloc (.cells #[.slice xa xs.length xc, .slice v S.length c, .int .i64 b] 145)).heap.size = wc.heap.size + 1 := by simp
     have HH2 := hid ((hba.block h hhc).trans HH.out)
     have HQ2 := hid ((HBA.out.block q hwr).trans HQ.out)
     have HP02 := hid ((HBA.out.block p (by omega)).trans HP0.out)
     have HP12 := hid ((HBA.out.block (p + 1) (by omega)).trans HP1.out)
     have HBP : Hid (Below p w (wc.alloc (.cells #[.slice xa xs.length xc, .slice v S.length c, .int .i64 b] 145))) := HBR.out.trans (HBA.out.mono (by omega))
     have HBZ : Hid (q + 1 ≤ (wc.alloc (.cells #[.slice xa xs.length xc, .slice v S.length c, .int .i64 b] 145)).heap.size) := by show _ ≤ _; omega
     have HOL : Hid (∀ j, (Value.slice av k cv).ownBlock = some j → q + 1 ≤ j ∧ j < wr.heap.size) := fun j hj => HOW.out.lt j hj
     have HCA : Hid (cellsL Ls ++ cellsL [⟨⟨xa, xc, xs⟩, v, c, b⟩] = cellsL (Ls ++ [⟨⟨xa, xc, xs⟩, v, c, b⟩])) := (cellsL_append _ _).symm
     have HK : Hid (k + 1 ≤ 5) := by show _ ≤ _; omega
     clear hba HBC HOC HLS HQ HP0 HP1 HBR HH HOW
     go_wp2_with (at_builtin; refine wpList_append_own _ rfl (.tmp 60) (.tmp 62) 127 rfl (q + 1) 145 i69 _ 3 56 Tryz.underlying127 hi69 hz69 hs69 hby69 rfl (by decide) (.slice av k cv) k (cellsL Ls) rfl HO2.out ⟨wc.heap.size, 0, none⟩ 1 1 (cellsL [⟨⟨xa, xc, xs⟩, v, c, b⟩]) rfl rfl HNW.out (cellsL_one _) (by unfold maxLen; omega) (by omega) HBZ.out ?_; intro v6 w6 hown6 hgrow6 hnil6; obtain ⟨g6, c6, hv6, _, _, _, _⟩ := own_shape hown6 (fun e => by have := hnil6.1 e; simp at this); subst hv6; rw [HCA.out] at hown6; have HO6 := hid hown6; have HOC6 := hid (own_kept HOC2.out HO2.out (by decide) hgrow6); have HLS6 : Hid (LvS w6 (q + 1) C bs Ls) := HLS2.out.map (fun _ _ _ h => own_kept h HO2.out (by decide) hgrow6); have hh6 := (hgrow6.block h (by omega) (fun e => by have := HOL.out h e.symm; omega)).trans HH2.out; have hq6 := (hgrow6.block q (by omega) (fun e => by have := HOL.out q e.symm; omega)).trans HQ2.out; have HQ6 := hid hq6; have HP06 := hid ((hgrow6.block p (by omega) (fun e => by have := HOL.out p e.symm; omega)).trans HP02.out); have HP16 := hid ((hgrow6.block (p + 1) (by omega) (fun e => by have := HOL.out (p + 1) e.symm; omega)).trans HP12.out); have HB6 : Hid (Below p w w6) := HBP.out.grown hgrow6 (by have := HBZ.out; omega) (fun j hj => by have := HOL.out j hj; omega); obtain ⟨m0, m1, m2⟩ := three_cells hh6; obtain ⟨n0, n1, n2⟩ := three_cells hq6; obtain ⟨r0, r1, r2⟩ := three_free hq6; clear hown6 hgrow6 hnil6 hh6 hq6)
     obtain ⟨_, _, hxn, hxt, _, _⟩ := nxE_zero hE
     have hS1 : S.length ≤ 1024 := by rw [← HSS.out]; exact Nat.le_trans (szL_length _) (by omega)
     refine ⟨⟨k + 1, some ⟨g6, 0, none⟩, c6, Ls ++ [(⟨⟨xa, xc, xs⟩, v, c, b⟩ : Lv)], xa, xs, xc, v, S.length, c, b, hlk, by simp, rfl, by rw [List.length_append, hLk]; rfl, HLE, hid hxt, by omega, hS1, HIX, own_set3 (b := q) HO6.out (Nat.lt_succ_self q) _ _ _, ?_, set3_at (b := q) HQ6.out _ _ _, ?_, ?_, below_set3 (b := q) HB6.out (by omega) _ _ _⟩, by simp [intOf]; omega⟩
     ·refine LvS.snoc (HLS6.out.map (fun _ _ _ h => own_set3 (b := q) h (Nat.lt_succ_self q) _ _ _)) (by rw [hLk]; exact HCL.out.symm) (by rw [hLk]; exact HBD.out.symm) ?_
      rw [HX.out]
      show World.ownsRow _ _ _ _ _ (szL xs).length (cellsI (ints (szL xs)))
      rw [HSS.out]
      exact own_set3 (b := q) HOC6.out (Nat.lt_succ_self q) _ _ _
     ·exact (set3_far _ _ _ (by omega) _ _ _).trans HP06.out
     ·exact (set3_far _ _ _ (by omega) _ _ _).trans HP16.out
   ·rw [if_pos hE] at hlE
    have HLE := hid hlE
    clear hlE
    have HCo : Hid (∀ X, Below wr.heap.size wr X → Calls Tryz.prog 151 #[.agg #[.slice ya ys.length yc, .slice sv sm sc, .int .i64 bb], .agg #[.int .i64 n, .slice a l.length cap], .int .i64 b, .slice xa xs.length xc] X fun e w' => e = .returned (.tuple #[.agg #[.slice none 0 0, .slice none 0 0, .int .i64 0], .int .i64 (nxE n bb ys b xs)]) ∧ Below X.heap.size X w' ∧ Below wr.heap.size wr w') := fun X hX => (HC.out X hX).mono (fun e w' h => ⟨h.2.1 hE, h.2.2⟩)
    obtain ⟨F, HF⟩ := named (nxE n bb ys b xs)
    rw [HF.out] at HCo hE HLE
    have hE2 := HLE.out
    subst hE2
    have hF0 : (F != 0) = true := by simpa using hE
    have HFIN : Hid (∀ w', Below wr.heap.size wr w' → Below p w w') := fun w' h => HBR.out.trans (h.mono (by omega))
    have hnp : p < wr.heap.size := by omega
    have hnp1 : p + 1 < wr.heap.size := by omega
    have hc1 : ic < wr.heap.size := by omega
    have hn1 : p ≠ wr.heap.size := by omega
    have hn2 : p + 1 ≠ wr.heap.size := by omega
    have hn3 : q ≠ wr.heap.size := by omega
    have hn4 : ic ≠ wr.heap.size := by omega
    have hm1 := hn1.symm
    have hm2 := hn2.symm
    have hm3 := hn3.symm
    have hm4 := hn4.symm
    have G0 := hid a0
    have G1 := hid a1
    have G3 := hid a3
    have K0 := hid q0
    have K1 := hid q1
    have K2 := hid q2
    have Y1 := hid y1
    clear HC HIX HCL HBD HS HYT HIY HOW HLS HQ HP0 HP1 HBR HE
    go_wp2_with fail
    go_region_held3 (fun w' => w'.cell? ⟨p, 0, none⟩ = some (.int .i64 n) ∧ w'.cell? ⟨p, 1, none⟩ = some (.slice a l.length cap) ∧ w'.cell? ⟨p + 1, 1, none⟩ = some (.slice (some ⟨ic, oc, none⟩) bs.length cc) ∧ w'.cell? ⟨q, 0, none⟩ = some (.slice ya ys.length yc) ∧ w'.cell? ⟨q, 1, none⟩ = some (.slice sv sm sc) ∧ w'.cell? ⟨q, 2, none⟩ = some (.int .i64 bb) ∧ w'.cell? ⟨ic, oc + k, none⟩ = some (.slice xa xs.length xc)) (go_keep) ((go_at_call 151; first | (refine (HCo.out _ ((Below.refl _ _).drew)).mono ?_; rintro e w2 ⟨rfl, hbx, hbw⟩; have HBX2 := hid hbx; have HBW := hid hbw; have v0 := (hbw.cell (p := ⟨p, 0, none⟩) hnp).trans G0.out; have v1 := (hbw.cell (p := ⟨p, 1, none⟩) hnp).trans G1.out; have v2 := (hbw.cell (p := ⟨p + 1, 1, none⟩) hnp1).trans G3.out; have v3 := (hbw.cell (p := ⟨q, 0, none⟩) hwr).trans K0.out; have v4 := (hbw.cell (p := ⟨q, 1, none⟩) hwr).trans K1.out; have v5 := (hbw.cell (p := ⟨q, 2, none⟩) hwr).trans K2.out; have v6 := (hbw.cell (p := ⟨ic, oc + k, none⟩) hc1).trans Y1.out; clear hbx hbw) | (refine (HCo.out _ (((Below.refl _ _).alloc (Nat.le_refl _) (.cells #[.slice none 0 0, .slice none 0 0, .int .i64 0] 145)).drew)).mono ?_; rintro e w2 ⟨rfl, hbx, hbw⟩; have zz := (hbx.block wr.heap.size (by show _ < (wr.heap.push _).size; simp)).trans (heap_top wr (.cells #[.slice none 0 0, .slice none 0 0, .int .i64 0] 145)); have HZZ := hid zz; obtain ⟨z0, z1, z2⟩ := three_cells zz; obtain ⟨t0, t1, t2⟩ := three_free zz; have HBX2 := hid hbx; have HBW := hid hbw; clear zz; have v0 := (hbw.cell (p := ⟨p, 0, none⟩) hnp).trans G0.out; have v1 := (hbw.cell (p := ⟨p, 1, none⟩) hnp).trans G1.out; have v2 := (hbw.cell (p := ⟨p + 1, 1, none⟩) hnp1).trans G3.out; have v3 := (hbw.cell (p := ⟨q, 0, none⟩) hwr).trans K0.out; have v4 := (hbw.cell (p := ⟨q, 1, none⟩) hwr).trans K1.out; have v5 := (hbw.cell (p := ⟨q, 2, none⟩) hwr).trans K2.out; have v6 := (hbw.cell (p := ⟨ic, oc + k, none⟩) hc1).trans Y1.out; clear hbx hbw)))
    all_goals (go_wp2_with fail)
    all_goals go_ret3
    ·exact ⟨rfl, HFIN.out _ (HBW.out.alloc HBW.out.size _)⟩
    ·exact ⟨rfl, HFIN.out _ (below_set3 HBW.out (Nat.le_refl _) _ _ _)⟩
  ·have hlk' : ¬ (k : Int) < bs.length := by omega
   have hkk : k = bs.length := by omega
   have e0 : bs.drop k = [] := List.drop_eq_nil_of_le (by omega)
   have hSE := HS.out
   rw [e0] at hSE
   have hE0 : E = (0, 0) := by rw [← hSE]; rfl
   have HE0 := hid hE0
   obtain ⟨g, cg, hv, _, _, _, _⟩ := own_shape HOW.out (fun e => by injection e with _ e2 _; omega)
   injection hv with hv1 _ hv3
   subst hv1 hv3
   have HLR : Hid (LvR wr g C bs) := HLS.out.to (by omega) (hLk ▸ HOW.out) (by omega)
   clear e0 hSE hE0
   subst hkk
   go_wp2_with fail
   go_ret3
   exact ⟨fun _ => ⟨g, ⟨cv, rfl⟩, HLR⟩, fun h => absurd (by rw [HE0.out]) h, HBR.out⟩
theorem top2 (w : World) (o0 o1 : Obj) : ((w.alloc o0).alloc o1).heap[w.heap.size]? = some o0 ∧ ((w.alloc o0).alloc o1).heap[w.heap.size + 1]? = some o1 ∧ Below w.heap.size w ((w.alloc o0).alloc o1) ∧ ((w.alloc o0).alloc o1).heap.size = w.heap.size + 2 := by
 have s1 : (w.alloc o0).heap.size = w.heap.size + 1 := by simp
 refine ⟨?_, ?_, ?_, by simp⟩
 ·exact (Below.heap_alloc _ _ _ (by omega)).trans (heap_top w o0)
 ·exact s1 ▸ heap_top (w.alloc o0) o1
 ·exact ((Below.refl _ _).alloc (Nat.le_refl _) _).alloc (by omega) _
set_option maxHeartbeats 1600000 in
theorem look_any (N : Int) (a : Option Addr) (l : List A) (cap : Nat) (ba : Option Addr) (bs : List Int) (bc : Nat) (ca : Option Addr) (C : List Cl) (cc : Nat) (w : World) (hl : l.length ≤ 9223372036854775807) (hbl : bs.length ≤ 9223372036854775807) (hr : Arcs w a l) (hi : Ints w ba bs) (hR : Rws w ca C) :
  Calls Tryz.prog 80 #[.agg #[.int .i64 N, .slice a l.length cap], .agg #[.slice ba bs.length bc, .slice ca C.length cc]] w fun e w' =>
   (nsE N l bs (csl C) = 0 → ∃ g, (∃ c, e = .returned (.tuple #[.slice (some ⟨g, 0, none⟩) bs.length c, .int .i64 0, .int .i64 0])) ∧ Hid (LvR w' g C bs)) ∧ (nsE N l bs (csl C) ≠ 0 → e = .returned (.tuple #[.slice none 0 0, .int .i64 (nsW N l bs (csl C) : Nat), .int .i64 (nsE N l bs (csl C))])) ∧ Below w.heap.size w w' := by
 by_cases h1 : chkE N l = 0
 ·by_cases h2 : ¬ (1 ≤ bs.length ∧ bs.length ≤ 5) ∨ C.length ≠ bs.length
  ·have HNE : Hid (nsE N l bs (csl C) = 111) := by show _ = _; unfold nsE; rw [if_neg (by rw [h1]; simp), csl_len, if_pos h2]
   have HNW : Hid (nsW N l bs (csl C) = 0) := by show _ = _; unfold nsW; rw [if_neg (by rw [h1]; simp), csl_len, if_pos h2]
   rw [HNE.out, HNW.out]
   have hb0 : Below w.heap.size w ((w.alloc (.cells #[.int .i64 N, .slice a l.length cap] 24)).alloc (.cells #[.slice ba bs.length bc, .slice ca C.length cc] 28)) := (top2 w _ _).2.2.1
   have hg0 := (top2 w (.cells #[.int .i64 N, .slice a l.length cap] 24) (.cells #[.slice ba bs.length bc, .slice ca C.length cc] 28)).1
   have hg1 := (top2 w (.cells #[.int .i64 N, .slice a l.length cap] 24) (.cells #[.slice ba bs.length bc, .slice ca C.length cc] 28)).2.1
   have hsz := (top2 w (.cells #[.int .i64 N, .slice a l.length cap] 24) (.cells #[.slice ba bs.length bc, .slice ca C.length cc] 28)).2.2.2
   obtain ⟨⟨a0, a1⟩, _⟩ := two_cells hg0
   obtain ⟨⟨a2, a3⟩, _⟩ := two_cells hg1
   have HB0 := hid hb0
   have HCK := hid (check_any N a l cap _ hl (hr.on hb0))
   rw [h1] at HCK
   have HSM := hid (nsSome_any ba bs.length bc)
   clear hr hi hR hb0 h1
   generalize hp : w.heap.size = p at *
   go_enter Tryz.func80, Tryz.ntmps80
   go_wp2_with fail
   generalize hW : (w.alloc (.cells #[.int .i64 N, .slice a l.length cap] 24)).alloc (.cells #[.slice ba bs.length bc, .slice ca C.length cc] 28) = W at *
   clear hW
   refine HCK.out.mono ?_
   rintro e w1 ⟨rfl, hb1⟩
   have HB1 : Hid (Below p w w1) := HB0.out.trans (hb1.mono (by omega))
   have hk1 := (hb1.block (p + 1) (by omega)).trans hg1
   clear a0 a1 a2 a3 hb1 HCK hg0 hg1 HB0
   obtain ⟨⟨a2, a3⟩, _⟩ := two_cells hk1
   go_wp2_with fail
   refine (HSM.out w1 hbl).mono ?_
   rintro e w1' ⟨rfl, rfl⟩
   by_cases h3 : 1 ≤ bs.length ∧ bs.length ≤ 5
   ·have h4 : C.length ≠ bs.length := h2.resolve_left (fun h => h h3)
    have hne : ((C.length : Int) != (bs.length : Int)) = true := by simp; omega
    have hne2 : ¬ (C.length : Int) = bs.length := by omega
    rw [decide_eq_true h3]
    go_wp2_with fail
    go_ret3
    first | exact ⟨rfl, HB1.out⟩ | exact ⟨(fun h => absurd h (by decide)), (fun _ => rfl), HB1.out⟩ | exact ⟨(fun h => absurd h h1), (fun _ => rfl), HB1.out⟩
   ·rw [decide_eq_false h3]
    go_wp2_with fail
    go_ret3
    first | exact ⟨rfl, HB1.out⟩ | exact ⟨(fun h => absurd h (by decide)), (fun _ => rfl), HB1.out⟩ | exact ⟨(fun h => absurd h h1), (fun _ => rfl), HB1.out⟩
  ·have h3 : 1 ≤ bs.length ∧ bs.length ≤ 5 ∧ C.length = bs.length := by omega
   obtain ⟨h4, h5, h6⟩ := h3
   have e1 : nsE N l bs (csl C) = (lkE N bs (csl C) 0 0 []).2 := by unfold nsE; rw [if_neg (by rw [h1]; simp), csl_len, if_neg h2]
   have e2 : nsW N l bs (csl C) = (lkE N bs (csl C) 0 0 []).1 := by unfold nsW; rw [if_neg (by rw [h1]; simp), csl_len, if_neg h2]
   rw [e1, e2, h6]
   obtain ⟨n, rfl⟩ : ∃ n : Nat, N = n := ⟨N.toNat, by have := (chk_zero h1).1; omega⟩
   exact look_ok n a l cap ba bs bc ca C cc w h1 h4 h5 h6 hr hi hR
 ·have HNE : Hid (nsE N l bs (csl C) = chkE N l) := by show _ = _; unfold nsE; rw [if_pos h1]
  have HNW : Hid (nsW N l bs (csl C) = 0) := by show _ = _; unfold nsW; rw [if_pos h1]
  rw [HNE.out, HNW.out]
  have hb0 : Below w.heap.size w ((w.alloc (.cells #[.int .i64 N, .slice a l.length cap] 24)).alloc (.cells #[.slice ba bs.length bc, .slice ca C.length cc] 28)) := (top2 w _ _).2.2.1
  have hg0 := (top2 w (.cells #[.int .i64 N, .slice a l.length cap] 24) (.cells #[.slice ba bs.length bc, .slice ca C.length cc] 28)).1
  have hg1 := (top2 w (.cells #[.int .i64 N, .slice a l.length cap] 24) (.cells #[.slice ba bs.length bc, .slice ca C.length cc] 28)).2.1
  have hsz := (top2 w (.cells #[.int .i64 N, .slice a l.length cap] 24) (.cells #[.slice ba bs.length bc, .slice ca C.length cc] 28)).2.2.2
  obtain ⟨⟨a0, a1⟩, _⟩ := two_cells hg0
  obtain ⟨⟨a2, a3⟩, _⟩ := two_cells hg1
  have HB0 := hid hb0
  have HCK := hid (check_any N a l cap _ hl (hr.on hb0))
  obtain ⟨E, HE⟩ := named (chkE N l)
  rw [HE.out] at HCK h1 ⊢
  have e1 : (E != 0) = true := by simpa using h1
  clear hr hi hR hb0
  generalize hp : w.heap.size = p at *
  go_enter Tryz.func80, Tryz.ntmps80
  go_wp2_with fail
  generalize hW : (w.alloc (.cells #[.int .i64 N, .slice a l.length cap] 24)).alloc (.cells #[.slice ba bs.length bc, .slice ca C.length cc] 28) = W at *
  clear hW
  refine HCK.out.mono ?_
  rintro e w1 ⟨rfl, hb1⟩
  have HB1 : Hid (Below p w w1) := HB0.out.trans (hb1.mono (by omega))
  clear a0 a1 a2 a3 hb1 HCK hg0 hg1 HB0
  go_wp2_with fail
  go_ret3
  first | exact ⟨rfl, HB1.out⟩ | exact ⟨(fun h => absurd h (by decide)), (fun _ => rfl), HB1.out⟩ | exact ⟨(fun h => absurd h h1), (fun _ => rfl), HB1.out⟩
def atE (N : Int) (l : List A) (bs : List Int) (cs : List (List Int)) (k : Int) : Int := if nsE N l bs cs ≠ 0 then nsE N l bs cs else if k < 1 ∨ (bs.length : Int) < k then 111 else 0
theorem atE_zero {N : Int} {l : List A} {bs : List Int} {cs : List (List Int)} {k : Int} (h : atE N l bs cs k = 0) : NR N l bs cs ∧ ∃ j : Nat, k = (j : Int) + 1 ∧ j < bs.length := by
 unfold atE at h
 split at h
 ·rename_i h1; exact absurd h h1
 ·rename_i h1
  split at h
  ·cases h
  ·rename_i h2
   exact ⟨nsE_zero.1 (by simpa using h1), (k - 1).toNat, by omega, by omega⟩
theorem atE_ok {N : Int} {l : List A} {bs : List Int} {cs : List (List Int)} {j : Nat} (h : NR N l bs cs) (hj : j < bs.length) : atE N l bs cs ((j : Int) + 1) = 0 := by
 unfold atE
 rw [if_neg (by rw [nsE_zero.2 h]; simp), if_neg (by omega)]
set_option maxHeartbeats 1600000 in
theorem lookAt_any (N : Int) (a : Option Addr) (l : List A) (cap : Nat) (ba : Option Addr) (bs : List Int) (bc : Nat) (ca : Option Addr) (C : List Cl) (cc : Nat) (k : Int) (w : World) (hl : l.length ≤ 9223372036854775807) (hbl : bs.length ≤ 9223372036854775807) (hr : Arcs w a l) (hi : Ints w ba bs) (hR : Rws w ca C) :
  Calls Tryz.prog 152 #[.agg #[.int .i64 N, .slice a l.length cap], .agg #[.slice ba bs.length bc, .slice ca C.length cc], .int .i64 k] w fun e w' =>
   (atE N l bs (csl C) k = 0 → ∃ g, (∃ c, e = .returned (.tuple #[.slice (some ⟨g, 0, none⟩) bs.length c, .int .i64 0])) ∧ Hid (LvR w' g C bs)) ∧ (atE N l bs (csl C) k ≠ 0 → e = .returned (.tuple #[.slice none 0 0, .int .i64 (atE N l bs (csl C) k)])) ∧ Below w.heap.size w w' := by
 have hb0 : Below w.heap.size w ((w.alloc (.cells #[.int .i64 N, .slice a l.length cap] 24)).alloc (.cells #[.slice ba bs.length bc, .slice ca C.length cc] 28)) := (top2 w _ _).2.2.1
 have hg0 := (top2 w (.cells #[.int .i64 N, .slice a l.length cap] 24) (.cells #[.slice ba bs.length bc, .slice ca C.length cc] 28)).1
 have hg1 := (top2 w (.cells #[.int .i64 N, .slice a l.length cap] 24) (.cells #[.slice ba bs.length bc, .slice ca C.length cc] 28)).2.1
 have hsz := (top2 w (.cells #[.int .i64 N, .slice a l.length cap] 24) (.cells #[.slice ba bs.length bc, .slice ca C.length cc] 28)).2.2.2
 obtain ⟨⟨a0, a1⟩, _⟩ := two_cells hg0
 obtain ⟨⟨a2, a3⟩, _⟩ := two_cells hg1
 have HB0 := hid hb0
 have HLK := hid (look_any N a l cap ba bs bc ca C cc _ hl hbl (hr.on hb0) (hi.on hb0) (hR.on hb0))
 obtain ⟨F, HF⟩ := named (atE N l bs (csl C) k)
 rw [HF.out]
 have HF2 : Hid (atE N l bs (csl C) k = F) := HF
 clear hr hi hR hb0
 generalize hp : w.heap.size = p at *
 by_cases h1 : nsE N l bs (csl C) = 0
 ·have hFE : F = if k < 1 ∨ (bs.length : Int) < k then 111 else 0 := by rw [← HF2.out]; unfold atE; rw [if_neg (by rw [h1]; simp)]
  clear HF HF2
  have HL := hid (HLK.out.mono (fun e w' h => (⟨h.1 h1, h.2.2⟩ : (∃ g, (∃ c, e = .returned (.tuple #[.slice (some ⟨g, 0, none⟩) bs.length c, .int .i64 0, .int .i64 0])) ∧ Hid (LvR w' g C bs)) ∧ _)))
  clear HLK h1
  have HFE := hid hFE
  clear hFE
  go_enter Tryz.func152, Tryz.ntmps152
  go_wp2_with fail
  generalize hW : (w.alloc (.cells #[.int .i64 N, .slice a l.length cap] 24)).alloc (.cells #[.slice ba bs.length bc, .slice ca C.length cc] 28) = W at *
  clear hW
  refine HL.out.mono ?_
  rintro e w1 ⟨⟨g, ⟨c, rfl⟩, HLR⟩, hb1⟩
  have HB1 : Hid (Below p w w1) := HB0.out.trans (hb1.mono (by omega))
  clear a0 a1 a2 a3 hb1 HL hg0 hg1 HB0
  by_cases h2 : k < 1
  ·have e2 : F = 111 := by rw [HFE.out, if_pos (.inl h2)]
   subst e2
   go_wp2_with fail
   go_ret2
   first | exact ⟨rfl, HB1.out⟩ | exact ⟨(fun h => absurd h (by decide)), (fun _ => rfl), HB1.out⟩ | exact ⟨(fun h => absurd h h1), (fun _ => rfl), HB1.out⟩
  ·by_cases h3 : (bs.length : Int) < k
   ·have e2 : F = 111 := by rw [HFE.out, if_pos (.inr h3)]
    subst e2
    go_wp2_with fail
    go_ret2
    first | exact ⟨rfl, HB1.out⟩ | exact ⟨(fun h => absurd h (by decide)), (fun _ => rfl), HB1.out⟩ | exact ⟨(fun h => absurd h h1), (fun _ => rfl), HB1.out⟩
   ·have e2 : F = 0 := by rw [HFE.out, if_neg (by omega)]
    subst e2
    go_wp2_with fail
    go_ret2
    first | exact ⟨⟨g, ⟨c, rfl⟩, HLR⟩, HB1.out⟩ | exact ⟨(fun _ => ⟨g, ⟨c, rfl⟩, HLR⟩), (fun h => absurd rfl h), HB1.out⟩
 ·have hFE : F = nsE N l bs (csl C) := by rw [← HF2.out]; unfold atE; rw [if_pos h1]
  have HL := hid (HLK.out.mono (fun e w' h => (⟨h.2.1 h1, h.2.2⟩ : e = .returned (.tuple #[.slice none 0 0, .int .i64 (nsW N l bs (csl C) : Nat), .int .i64 (nsE N l bs (csl C))]) ∧ _)))
  rw [← hFE] at HL h1
  have e1 : (F != 0) = true := by simpa using h1
  clear HLK hFE
  generalize nsW N l bs (csl C) = nw at *
  go_enter Tryz.func152, Tryz.ntmps152
  go_wp2_with fail
  generalize hW : (w.alloc (.cells #[.int .i64 N, .slice a l.length cap] 24)).alloc (.cells #[.slice ba bs.length bc, .slice ca C.length cc] 28) = W at *
  clear hW
  refine HL.out.mono ?_
  rintro e w1 ⟨rfl, hb1⟩
  have HB1 : Hid (Below p w w1) := HB0.out.trans (hb1.mono (by omega))
  clear a0 a1 a2 a3 hb1 HL hg0 hg1 HB0
  go_wp2_with fail
  go_ret2
  first | exact ⟨rfl, HB1.out⟩ | exact ⟨(fun h => absurd h (by decide)), (fun _ => rfl), HB1.out⟩ | exact ⟨(fun h => absurd h h1), (fun _ => rfl), HB1.out⟩
end Go.Proofs.YtaafkpojjdjphaaGreat
