import Derived.Test.YtaafkpojjdjphaaGreatQAT
open Go.Lib (hid)
set_option maxRecDepth 100000
namespace Go.Proofs.YtaafkpojjdjphaaGreat
open Go.RowKit
set_option maxHeartbeats 6400000 in
theorem areOf_ok (j : Nat) (ma : Option Addr) (M : List Mt) (mc g cn : Nat) (b : Nat → Nat) (w : World) (hcn : M.length = cn) (hc8 : cn ≤ 1024) (hM : Mts w ma M) (hg : TbV w g cn 3 (fun c => .int .i64 (b c : Nat))) (hb8 : ∀ i, i < cn → b i ≤ 1024) (hf : ∀ i, i < cn → (mt M i).lv = (j : Int) + 1 ∧ (mt M i).ce = (i : Nat) ∧ epB (mt M i).ep = true ∧ (mt M i).D.length = b i * b i) :
  Calls Tryz.prog 103 #[.int .i64 ((j : Int) + 1), .slice ma cn mc, .slice (some ⟨g, 0, none⟩) cn cn] w fun e w' => e = .returned (.bool true) ∧ Below w.heap.size w w' := by
 obtain ⟨mx, mo, hmx⟩ := hM.get
 rw [hcn] at hmx
 have HMX := hid hmx
 have HG := hid hg
 have HF := hid hf
 have HB8 := hid hb8
 have hne : ((cn : Int) != (cn : Int)) = false := by simp
 clear hM hmx hg hf hb8 hcn
 generalize hp : w.heap.size = p at *
 go_enter Tryz.func103, Tryz.ntmps103
 go_wp2_with fail
 go_loopw [16] (fun q wr => ∃ (i : Nat), i ≤ cn ∧ q = .int .i64 i ∧ Hid (Below p w wr)) (fun q _ => cn - (intOf q).toNat)
 case atStart => exact ⟨0, Nat.zero_le _, rfl, Below.refl _ _⟩
 case round =>
  obtain ⟨i, hi, rfl, HBR⟩ := hrel
  by_cases hli : i < cn
  ·have hli' : (i : Int) < cn := by omega
   obtain ⟨rfl, hmbl, hmat⟩ := HMX.out (by omega)
   obtain ⟨c0, c1, c2, c3⟩ := hmat i hli
   obtain ⟨f0, f1, f2, f3⟩ := HF.out i hli
   have hb := HB8.out i hli
   have hsz := HBR.out.size
   have hglt := HG.out.lt
   rw [f0] at c0
   rw [f1] at c1
   obtain ⟨ep, HEP⟩ := named (mt M i).ep
   rw [HEP.out] at c2 f2
   obtain ⟨ya, HYA⟩ := named (mt M i).a
   obtain ⟨yc, HYC⟩ := named (mt M i).c
   obtain ⟨dl, HDL⟩ := named (mt M i).D.length
   rw [HYA.out, HYC.out, HDL.out] at c3
   rw [HDL.out] at f3
   have u0 := (HBR.out.cell (p := ⟨mx, mo + i * 4, none⟩) (by show mx < p; omega)).trans c0
   have u1 := (HBR.out.cell (p := ⟨mx, mo + i * 4 + 1, none⟩) (by show mx < p; omega)).trans c1
   have u2 := (HBR.out.cell (p := ⟨mx, mo + i * 4 + 2, none⟩) (by show mx < p; omega)).trans c2
   have u3 := (HBR.out.cell (p := ⟨mx, mo + i * 4 + 3, none⟩) (by show mx < p; omega)).trans c3
   have hbA : Below wr.heap.size wr (wr.alloc (.cells #[.int .i64 ((j : Int) + 1), .int .i64 (i : Nat), .int .i64 ep, .slice ya dl yc] 40)) := (Below.refl _ _).alloc (Nat.le_refl _) _
   have g0 := (hbA.cell (p := ⟨g, i, none⟩) (by show g < _; omega)).trans ((HBR.out.cell (p := ⟨g, i, none⟩) (by show g < p; omega)).trans (HG.out.cell hli))
   obtain ⟨⟨t0, t1, t2, t3⟩, _⟩ := four_cells (heap_top wr (.cells #[.int .i64 ((j : Int) + 1), .int .i64 (i : Nat), .int .i64 ep, .slice ya dl yc] 40))
   obtain ⟨bi, HBI⟩ := named (b i)
   rw [HBI.out] at g0 hb f3
   have hmul : IntKind.i64.wrap ((bi : Int) * (bi : Int)) = (dl : Int) := by
    have h2 : bi * bi ≤ 1024 * 1024 := Nat.mul_le_mul hb hb
    have h3 : ((bi : Int) * (bi : Int)) = ((bi * bi : Nat) : Int) := by simp
    rw [h3, f3, IntKind.wrap_i64]
    omega
   have e1 : (((j : Int) + 1) != ((j : Int) + 1)) = false := by simp
   have e2 : ((i : Int) != (i : Int)) = false := by simp
   have e3 : ((dl : Int) != (dl : Int)) = false := by simp
   have HIE := hid (fun w => isEpochO_any ep w)
   rw [f2] at HIE
   have HBA : Hid (Below p w (wr.alloc (.cells #[.int .i64 ((j : Int) + 1), .int .i64 (i : Nat), .int .i64 ep, .slice ya dl yc] 40))) := HBR.out.trans (hbA.mono (by omega))
   clear c0 c1 c2 c3 hmat f0 f1 f2 f3 hbA hb
   go_wp2_with fail
   go_region_held3 (fun w' => w'.cell? ⟨wr.heap.size, 0, none⟩ = some (.int .i64 ((j : Int) + 1)) ∧ w'.cell? ⟨wr.heap.size, 1, none⟩ = some (.int .i64 (i : Nat)) ∧ w'.cell? ⟨wr.heap.size, 2, none⟩ = some (.int .i64 ep) ∧ w'.cell? ⟨wr.heap.size, 3, none⟩ = some (.slice ya dl yc) ∧ w'.cell? ⟨g, i, none⟩ = some (.int .i64 bi)) (go_keep) ((go_at_call 95; refine (HIE.out _).mono ?_; rintro e w3 ⟨rfl, rfl⟩))
   go_wp2_with fail
   first | exact ⟨⟨i + 1, by omega, by simp, HBA.out.trans (below_drewN _ _ _)⟩, by simp [intOf]; omega⟩ | exact ⟨⟨i + 1, by omega, by simp, HBA.out.drew⟩, by simp [intOf]; omega⟩ | exact ⟨⟨i + 1, by omega, by simp, HBA⟩, by simp [intOf]; omega⟩
  ·have hli' : ¬ (i : Int) < cn := by omega
   go_wp2_with fail
   go_ret
   exact ⟨rfl, HBR.out⟩
def OvF (n : Nat) (l : List A) (bs : List Int) (cs : List (List Int)) (ep : Int) (O : List Lw) : Prop := O.length = bs.length ∧ ∀ j, j < bs.length → (lw O j).M.length = (szL (lvl cs j)).length ∧ ∀ i, i < (szL (lvl cs j)).length → MF n l bs cs ep j i (mt (lw O j).M i)
set_option maxHeartbeats 6400000 in
theorem ovCheck_ok (n : Nat) (a : Option Addr) (l : List A) (cap : Nat) (ba : Option Addr) (bs : List Int) (bc : Nat) (ca : Option Addr) (C : List Cl) (cc : Nat) (oa : Option Addr) (O : List Lw) (oc : Nat) (ep : Int) (w : World) (hNR : NR n l bs (csl C)) (he : epB ep = true) (hO : Ovs w oa O) (hF : OvF n l bs (csl C) ep O) (hl : l.length ≤ 9223372036854775807) (hbl : bs.length ≤ 9223372036854775807) (hr : Arcs w a l) (hi : Ints w ba bs) (hR : Rws w ca C) :
  Calls Tryz.prog 46 #[.agg #[.int .i64 n, .slice a l.length cap], .agg #[.slice ba bs.length bc, .slice ca C.length cc], .slice oa C.length oc] w fun e w' => e = .returned (.int .i64 0) ∧ Below w.heap.size w w' := by
 obtain ⟨hg0, hg1, hb0, hsz⟩ := top2 w (.cells #[.int .i64 n, .slice a l.length cap] 24) (.cells #[.slice ba bs.length bc, .slice ca C.length cc] 28)
 obtain ⟨⟨a0, a1⟩, _⟩ := two_cells hg0
 obtain ⟨⟨a2, a3⟩, _⟩ := two_cells hg1
 have hcl : C.length = bs.length := by have := hNR.2.2.2.1; rw [csl_len] at this; exact this
 have h5 : C.length ≤ 5 := by have := hNR.2.2.1; omega
 have h0 : 0 < C.length := by have := hNR.2.1; omega
 have h1024 : n ≤ 1024 := by have := (chk_zero hNR.1).2.1; omega
 have he2 : 0 ≤ ep ∧ ep ≤ 1073741824 := by simpa [epB] using he
 have HCK := hid (checkNest_any n a l cap ba bs bc ca C cc _ hl hbl (hr.on hb0) (hi.on hb0) (hR.on hb0))
 rw [nsE_zero.2 hNR] at HCK
 have HBS : Hid (∀ W2, Below w.heap.size w W2 → ∀ j, j < C.length → Calls Tryz.prog 102 #[.agg #[.int .i64 n, .slice a l.length cap], .agg #[.slice ba bs.length bc, .slice ca C.length cc], .int .i64 ((j : Int) + 1)] W2 fun e w' => ∃ g, e = .returned (.tuple #[.slice (some ⟨g, 0, none⟩) (szL (lvl (csl C) j)).length (szL (lvl (csl C) j)).length, .int .i64 0]) ∧ TbV w' g (szL (lvl (csl C) j)).length 3 (fun c => .int .i64 ((bdV n l bs (csl C) ((j : Int) + 1) (c : Nat)).length : Nat)) ∧ Below W2.heap.size W2 w') := fun W2 hb j hj => bsizes_any n a l cap ba bs bc ca C cc j W2 hNR (by omega) hl hbl (hr.on hb) (hi.on hb) (hR.on hb)
 have HAO : Hid (∀ W2, Below w.heap.size w W2 → ∀ j, j < C.length → ∀ g, TbV W2 g (szL (lvl (csl C) j)).length 3 (fun c => .int .i64 ((bdV n l bs (csl C) ((j : Int) + 1) (c : Nat)).length : Nat)) → Calls Tryz.prog 103 #[.int .i64 ((j : Int) + 1), .slice (lw O j).a (szL (lvl (csl C) j)).length (lw O j).c, .slice (some ⟨g, 0, none⟩) (szL (lvl (csl C) j)).length (szL (lvl (csl C) j)).length] W2 fun e w' => e = .returned (.bool true) ∧ Below W2.heap.size W2 w') := fun W2 hb j hj g hg => by
  obtain ⟨f1, f2⟩ := hF.2 j (by omega)
  have hc8 : (szL (lvl (csl C) j)).length ≤ 1024 := by
   obtain ⟨b1, b2, _⟩ := hNR.lv (k := j) (by omega)
   have h1 := szL_length (lvl (csl C) j)
   omega
  refine areOf_ok j (lw O j).a (lw O j).M (lw O j).c g _ (fun c => (bdV n l bs (csl C) ((j : Int) + 1) (c : Nat)).length) W2 f1 hc8 ((hO.2 j (by rw [hF.1]; omega)).1.on hb) hg (fun i _ => Nat.le_trans (bdV_le _ _ _ _ _ _) h1024) (fun i hi2 => ?_)
  obtain ⟨m1, m2, m3, m4⟩ := f2 i hi2
  refine ⟨m1, m2, ?_, m4⟩
  unfold epB
  rw [decide_eq_true m3.1, decide_eq_true (show (mt (lw O j).M i).ep ≤ 1073741824 by omega)]
  rfl
 obtain ⟨ox, oo, hox⟩ := hO.get
 obtain ⟨rfl, hobl, hoat⟩ := hox (by rw [hF.1]; omega)
 have HOAT : Hid (∀ j, j < C.length → w.cell? ⟨ox, oo + j, none⟩ = some (.slice (lw O j).a (szL (lvl (csl C) j)).length (lw O j).c)) := fun j hj => by
  rw [← (hF.2 j (by omega)).1]
  exact hoat j (by rw [hF.1]; omega)
 have HB0 := hid hb0
 have HG0 := hid hg0
 have HG1 := hid hg1
 have hne : ((C.length : Int) != (C.length : Int)) = false := by simp
 clear hr hi hR hb0 hg0 hg1 hNR hO hF hox hoat hcl
 generalize hp : w.heap.size = p at *
 go_enter Tryz.func46, Tryz.ntmps46
 go_wp2_with fail
 generalize (w.alloc (.cells #[.int .i64 n, .slice a l.length cap] 24)).alloc (.cells #[.slice ba bs.length bc, .slice ca C.length cc] 28) = W at *
 refine HCK.out.mono ?_
 rintro e w1 ⟨rfl, hb1⟩
 have hz1 := hb1.size
 have HB1 : Hid (Below p w w1) := HB0.out.trans (hb1.mono (by omega))
 have HK0 := hid ((hb1.block p (by omega)).trans HG0.out)
 have HK1 := hid ((hb1.block (p + 1) (by omega)).trans HG1.out)
 clear hb1 HCK HG0 HG1 HB0 a0 a1 a2 a3
 obtain ⟨⟨a0, a1⟩, _⟩ := two_cells HK0.out
 obtain ⟨⟨a2, a3⟩, _⟩ := two_cells HK1.out
 go_wp2_with fail
 clear a0 a1 a2 a3
 go_loopw [26] (fun q wr => ∃ (j : Nat), j ≤ C.length ∧ q = .int .i64 j ∧ Hid (wr.heap[p]? = some (.cells #[.int .i64 n, .slice a l.length cap] 24)) ∧ Hid (wr.heap[p + 1]? = some (.cells #[.slice ba bs.length bc, .slice ca C.length cc] 28)) ∧ Hid (Below p w wr)) (fun q _ => C.length - (intOf q).toNat)
 case atStart => exact ⟨0, Nat.zero_le _, rfl, HK0, HK1, HB1⟩
 case round =>
  clear HK0 HK1 HB1
  obtain ⟨j, hj, rfl, HK0, HK1, HBR⟩ := hrel
  have hwz := lt_of_block HK1.out
  by_cases hlj : j < C.length
  ·have hlj' : (j : Int) < C.length := by omega
   have y0 := (HBR.out.cell (p := ⟨ox, oo + j, none⟩) (by show ox < p; omega)).trans (HOAT.out j hlj)
   have HBSj := hid (HBS.out wr HBR.out j hlj)
   have HAOj := hid (fun W2 hb g hg => HAO.out W2 hb j hlj g hg)
   have hwj : IntKind.i64.wrap ((j : Int) + 1) = (j : Int) + 1 := by rw [IntKind.wrap_i64]; omega
   obtain ⟨cn, HCN⟩ := named (szL (lvl (csl C) j)).length
   rw [HCN.out] at y0 HBSj HAOj
   obtain ⟨la, HLA⟩ := named (lw O j).a
   obtain ⟨lc, HLC⟩ := named (lw O j).c
   rw [HLA.out, HLC.out] at y0 HAOj
   obtain ⟨⟨a0, a1⟩, _⟩ := two_cells HK0.out
   obtain ⟨⟨a2, a3⟩, _⟩ := two_cells HK1.out
   go_wp2_with fail
   refine HBSj.out.mono ?_
   rintro e w2 ⟨g, rfl, htb, hb2⟩
   have hz2 := hb2.size
   have HB2 : Hid (Below p w w2) := HBR.out.trans (hb2.mono (by omega))
   have HA2 := hid (HAOj.out w2 HB2.out g htb)
   have HL0 := hid ((hb2.block p (by omega)).trans HK0.out)
   have HL1 := hid ((hb2.block (p + 1) (by omega)).trans HK1.out)
   clear htb hb2 HBSj HAOj a0 a1 a2 a3 HK0 HK1
   go_wp2_with fail
   refine HA2.out.mono ?_
   rintro e w3 ⟨rfl, hb3⟩
   have HB3 : Hid (Below p w w3) := HB2.out.trans (hb3.mono (by omega))
   have HM0 := hid ((hb3.block p (by omega)).trans HL0.out)
   have HM1 := hid ((hb3.block (p + 1) (by omega)).trans HL1.out)
   clear hb3 HA2 HL0 HL1
   go_wp2_with fail
   exact ⟨⟨j + 1, by omega, by simp, HM0, HM1, HB3⟩, by simp [intOf]; omega⟩
  ·have hlj' : ¬ (j : Int) < C.length := by omega
   go_wp2_with fail
   go_ret
   exact ⟨rfl, HBR.out⟩
set_option maxHeartbeats 6400000 in
theorem late_ok (n : Nat) (a : Option Addr) (l : List A) (cap : Nat) (ba : Option Addr) (bs : List Int) (bc : Nat) (ca : Option Addr) (C : List Cl) (cc : Nat) (oa : Option Addr) (O : List Lw) (oc : Nat) (ep : Int) (w : World) (hNR : NR n l bs (csl C)) (he : epB ep = true) (hO : Ovs w oa O) (hF : OvF n l bs (csl C) ep O) (hl : l.length ≤ 9223372036854775807) (hbl : bs.length ≤ 9223372036854775807) (hr : Arcs w a l) (hi : Ints w ba bs) (hR : Rws w ca C) :
  Calls Tryz.prog 48 #[.agg #[.int .i64 n, .slice a l.length cap], .agg #[.slice ba bs.length bc, .slice ca C.length cc], .slice oa C.length oc] w fun e w' => ∃ L : Int, e = .returned (.tuple #[.int .i64 L, .int .i64 0]) ∧ 0 ≤ L ∧ (∀ j, j < C.length → ∀ i, i < (lw O j).M.length → (mt (lw O j).M i).ep ≤ L) ∧ (L = 0 ∨ ∃ j i, j < C.length ∧ i < (lw O j).M.length ∧ (mt (lw O j).M i).ep = L) ∧ Below w.heap.size w w' := by
 obtain ⟨hg0, hg1, hb0, hsz⟩ := top2 w (.cells #[.int .i64 n, .slice a l.length cap] 24) (.cells #[.slice ba bs.length bc, .slice ca C.length cc] 28)
 obtain ⟨⟨a0, a1⟩, _⟩ := two_cells hg0
 obtain ⟨⟨a2, a3⟩, _⟩ := two_cells hg1
 have hcl : C.length = bs.length := by have := hNR.2.2.2.1; rw [csl_len] at this; exact this
 have h5 : C.length ≤ 5 := by have := hNR.2.2.1; omega
 have h0 : 0 < C.length := by have := hNR.2.1; omega
 have h1024 : n ≤ 1024 := by have := (chk_zero hNR.1).2.1; omega
 have HCK := hid (ovCheck_ok n a l cap ba bs bc ca C cc oa O oc ep _ hNR he (hO.on hb0) hF hl hbl (hr.on hb0) (hi.on hb0) (hR.on hb0))
 have HML : Hid (∀ j, j < C.length → (lw O j).M.length ≤ 1024) := fun j hj => by
  rw [(hF.2 j (by omega)).1]
  obtain ⟨b1, b2, _⟩ := hNR.lv (k := j) (by omega)
  have h1 := szL_length (lvl (csl C) j)
  omega
 obtain ⟨ox, oo, hox⟩ := hO.get
 obtain ⟨rfl, hobl, hoat⟩ := hox (by rw [hF.1]; omega)
 have HOAT : Hid (∀ j, j < C.length → w.cell? ⟨ox, oo + j, none⟩ = some (.slice (lw O j).a (lw O j).M.length (lw O j).c)) := fun j hj => hoat j (by rw [hF.1]; omega)
 have HMT : Hid (∀ j, j < C.length → Mts w (lw O j).a (lw O j).M) := fun j hj => (hO.2 j (by rw [hF.1]; omega)).1
 have HB0 := hid hb0
 clear hr hi hR hb0 hg0 hg1 hNR hO hF hox hoat hcl
 generalize hp : w.heap.size = p at *
 go_enter Tryz.func48, Tryz.ntmps48
 go_wp2_with fail
 generalize (w.alloc (.cells #[.int .i64 n, .slice a l.length cap] 24)).alloc (.cells #[.slice ba bs.length bc, .slice ca C.length cc] 28) = W at *
 refine HCK.out.mono ?_
 rintro e w1 ⟨rfl, hb1⟩
 have hz1 := hb1.size
 have HB1 : Hid (Below p w w1) := HB0.out.trans (hb1.mono (by omega))
 clear hb1 HCK HB0 a0 a1 a2 a3
 go_wp2_with fail
 go_loopw [9, 23] (fun s9 q wr => ∃ (j : Nat) (L : Int), j ≤ C.length ∧ s9 = .int .i64 L ∧ q = .int .i64 j ∧ Hid (0 ≤ L) ∧ Hid (∀ k, k < j → ∀ i, i < (lw O k).M.length → (mt (lw O k).M i).ep ≤ L) ∧ Hid (L = 0 ∨ ∃ j i, j < C.length ∧ i < (lw O j).M.length ∧ (mt (lw O j).M i).ep = L) ∧ Hid (Below p w wr)) (fun _ q _ => C.length - (intOf q).toNat)
 case atStart => exact ⟨0, 0, Nat.zero_le _, rfl, rfl, Int.le_refl _, fun k hk => absurd hk (by omega), Or.inl rfl, HB1⟩
 case round =>
  clear HB1
  obtain ⟨j, L, hj, rfl, rfl, HL0, HLA, HLE, HBR⟩ := hrel
  by_cases hlj : j < C.length
  ·have hlj' : (j : Int) < C.length := by omega
   have y0 := (HBR.out.cell (p := ⟨ox, oo + j, none⟩) (by show ox < p; omega)).trans (HOAT.out j hlj)
   have hml := HML.out j hlj
   obtain ⟨mx, mo, hmx⟩ := (HMT.out j hlj).get
   obtain ⟨la, HLLA⟩ := named (lw O j).a
   obtain ⟨lc, HLLC⟩ := named (lw O j).c
   rw [HLLA.out] at hmx
   have HMX := hid hmx
   obtain ⟨ml, HMLL⟩ := named (lw O j).M.length
   rw [HMLL.out] at y0 hml HMX
   rw [HLLA.out, HLLC.out] at y0
   clear hmx
   go_wp2_with fail
   go_loopw [9, 29] (fun s9 q wr => ∃ (i : Nat) (L : Int), i ≤ ml ∧ s9 = .int .i64 L ∧ q = .int .i64 i ∧ Hid (0 ≤ L) ∧ Hid (∀ k, k < j → ∀ i, i < (lw O k).M.length → (mt (lw O k).M i).ep ≤ L) ∧ Hid (∀ t, t < i → (mt (lw O j).M t).ep ≤ L) ∧ Hid (L = 0 ∨ ∃ j i, j < C.length ∧ i < (lw O j).M.length ∧ (mt (lw O j).M i).ep = L) ∧ Hid (Below p w wr)) (fun _ q _ => ml - (intOf q).toNat)
   case atStart => exact ⟨0, L, Nat.zero_le _, rfl, rfl, HL0, HLA, fun t ht => absurd ht (by omega), HLE, HBR⟩
   case round =>
    clear HL0 HLA HLE HBR
    obtain ⟨i, L, hi, rfl, rfl, HL0, HLA, HLB, HLE, HBR⟩ := hrel
    by_cases hli : i < ml
    ·have hli' : (i : Int) < ml := by omega
     obtain ⟨rfl, hmbl, hmat⟩ := HMX.out (by omega)
     obtain ⟨c0, c1, c2, c3⟩ := hmat i hli
     have HEE : Hid (j < C.length ∧ i < (lw O j).M.length) := ⟨hlj, by rw [HMLL.out]; exact hli⟩
     obtain ⟨x, HX⟩ := named (mt (lw O j).M i).ep
     rw [HX.out] at c2
     have u0 := (HBR.out.cell (p := ⟨mx, mo + i * 4, none⟩) (by show mx < p; omega)).trans c0
     have u1 := (HBR.out.cell (p := ⟨mx, mo + i * 4 + 1, none⟩) (by show mx < p; omega)).trans c1
     have u2 := (HBR.out.cell (p := ⟨mx, mo + i * 4 + 2, none⟩) (by show mx < p; omega)).trans c2
     have u3 := (HBR.out.cell (p := ⟨mx, mo + i * 4 + 3, none⟩) (by show mx < p; omega)).trans c3
     obtain ⟨z0, HZ0⟩ := named (mt (lw O j).M i).lv
     obtain ⟨z1, HZ1⟩ := named (mt (lw O j).M i).ce
     obtain ⟨za, HZA⟩ := named (mt (lw O j).M i).a
     obtain ⟨zl, HZL⟩ := named (mt (lw O j).M i).D.length
     obtain ⟨zc, HZC⟩ := named (mt (lw O j).M i).c
     rw [HZ0.out] at u0
     rw [HZ1.out] at u1
     rw [HZA.out, HZL.out, HZC.out] at u3
     have hbA : Below wr.heap.size wr (wr.alloc (.cells #[.int .i64 z0, .int .i64 z1, .int .i64 x, .slice za zl zc] 40)) := (Below.refl _ _).alloc (Nat.le_refl _) _
     obtain ⟨⟨t0, t1, t2, t3⟩, _⟩ := four_cells (heap_top wr (.cells #[.int .i64 z0, .int .i64 z1, .int .i64 x, .slice za zl zc] 40))
     have HBA : Hid (Below p w (wr.alloc (.cells #[.int .i64 z0, .int .i64 z1, .int .i64 x, .slice za zl zc] 40))) := HBR.out.trans (hbA.mono (by have := HBR.out.size; omega))
     have HN0 : Hid (0 ≤ max L x) := by have := HL0.out; show _ ≤ _; omega
     have HNA : Hid (∀ k, k < j → ∀ i, i < (lw O k).M.length → (mt (lw O k).M i).ep ≤ max L x) := fun k hk i hi => by have := HLA.out k hk i hi; omega
     have HNB : Hid (∀ t, t < i + 1 → (mt (lw O j).M t).ep ≤ max L x) := fun t ht => by
      by_cases e : t = i
      ·subst e; rw [HX.out]; omega
      ·have := HLB.out t (by omega); omega
     have HNE : Hid (max L x = 0 ∨ ∃ j i, j < C.length ∧ i < (lw O j).M.length ∧ (mt (lw O j).M i).ep = max L x) := by
      by_cases e : L ≤ x
      ·exact Or.inr ⟨j, i, HEE.out.1, HEE.out.2, by rw [HX.out]; omega⟩
      ·have e2 : max L x = L := by omega
       rw [e2]
       exact HLE.out
     obtain ⟨mm, HMM⟩ := named (max L x)
     have hmm : max L x = mm := HMM.out
     rw [HMM.out] at HN0 HNA HNB HNE
     clear c0 c1 c2 c3 hmat hbA
     go_wp2_with fail
     exact ⟨⟨i + 1, mm, by omega, rfl, by simp, HN0, HNA, HNB, HNE, HBA⟩, by simp [intOf]; omega⟩
    ·have hli' : ¬ (i : Int) < ml := by omega
     obtain rfl : i = ml := by omega
     have HNA : Hid (∀ k, k < j + 1 → ∀ i, i < (lw O k).M.length → (mt (lw O k).M i).ep ≤ L) := fun k hk i hi2 => by
      by_cases e : k = j
      ·subst e; rw [HMLL.out] at hi2; exact HLB.out i hi2
      ·exact HLA.out k (by omega) i hi2
     go_wp2_with fail
     exact ⟨⟨j + 1, L, by omega, rfl, by simp, HL0, HNA, HLE, HBR⟩, by simp [intOf]; omega⟩
  ·have hlj' : ¬ (j : Int) < C.length := by omega
   obtain rfl : j = C.length := by omega
   go_wp2_with fail
   go_ret2
   first | exact ⟨L, rfl, HL0.out, HLA.out, HLE.out, HBR.out⟩ | exact ⟨L, rfl, HL0.out, HLA.out, HLE.out.imp id (fun ⟨j, i, h1, h2, h3⟩ => ⟨j, h1, i, h2, h3⟩), HBR.out⟩
def smX (c : Nat) (v : Int) (ids : List Int) : List Int := (List.range c).map (fun i => if ((i : Nat) : Int) ∈ ids then v else 0)
theorem smX_len (c : Nat) (v : Int) (ids : List Int) : (smX c v ids).length = c := by simp [smX]
theorem smX_at {c : Nat} {v : Int} {ids : List Int} {i : Nat} (h : i < c) : (smX c v ids).getD i 0 = if ((i : Nat) : Int) ∈ ids then v else 0 := by
 unfold smX
 rw [List.getD_eq_getElem?_getD, List.getElem?_map, List.getElem?_range h]
 rfl
theorem smX_nil (c : Nat) (v : Int) : smX c v [] = List.replicate c 0 := by
 unfold smX
 rw [List.map_congr_left (g := fun _ => (0 : Int)) (fun i _ => by simp), List.map_const']
 simp
theorem smX_step (c : Nat) (v : Int) (ids : List Int) (x : Nat) : (smX c v ids).set x v = smX c v (ids ++ [(x : Int)]) := by
 apply List.ext_getElem?
 intro i
 rw [List.getElem?_set]
 unfold smX
 by_cases hi : i < c
 ·rw [List.getElem?_map, List.getElem?_map, List.getElem?_range hi]
  by_cases e : x = i
  ·subst e
   simp [hi]
  ·rw [if_neg e]
   have : ((i : Nat) : Int) ∈ ids ++ [(x : Int)] ↔ ((i : Nat) : Int) ∈ ids := by simp; omega
   simp only [Option.map_some, this]
 ·have h1 : (List.map (fun i => if ((i : Nat) : Int) ∈ ids then v else 0) (List.range c))[i]? = none := List.getElem?_eq_none (by simp; omega)
  have h2 : (List.map (fun i => if ((i : Nat) : Int) ∈ ids ++ [(x : Int)] then v else 0) (List.range c))[i]? = none := List.getElem?_eq_none (by simp; omega)
  rw [h1, h2]
  by_cases e : x = i
  ·rw [if_pos e, if_neg (by simp; omega)]
  ·rw [if_neg e]
set_option maxHeartbeats 6400000 in
theorem someMade_any (n : Nat) (l : List A) (ba : Option Addr) (bs : List Int) (bc : Nat) (ca : Option Addr) (C : List Cl) (cc : Nat) (sa : Option Addr) (T : List Cl) (sc m : Nat) (w : World) (hNR : NR n l bs (csl C)) (hR : Rws w ca C) (hCm : C.length = m) (hTm : T.length = m) (hT : Rws w sa T) (hTx : ∀ j, j < m → (cl T j).xs.length ≤ 1024 ∧ ∀ t, t < (cl T j).xs.length → ∃ x : Nat, (cl T j).xs.getD t 0 = x ∧ x < (szL (lvl (csl C) j)).length) :
  Calls Tryz.prog 98 #[.agg #[.slice ba bs.length bc, .slice ca m cc], .slice sa m sc] w fun e w' => ∃ g gs, e = .returned (.slice (some ⟨g, 0, none⟩) m m) ∧ FT w' (g + 1) g m gs (fun j => smX (szL (lvl (csl C) j)).length (mdF j) (cl T j).xs) m ∧ Below w.heap.size w w' := by
 have hcl : m = bs.length := by have := hNR.2.2.2.1; rw [csl_len] at this; omega
 have h5 : m ≤ 5 := by have := hNR.2.2.1; omega
 have h0 : 0 < m := by have := hNR.2.1; omega
 have h1024 := (chk_zero hNR.1).2.1
 have h0N := (chk_zero hNR.1).1
 have HMC : Hid (∀ k, k < m → ∀ W2, Below w.heap.size w W2 → Calls Tryz.prog 167 #[(cl C k).val] W2 fun e w' => e = .returned (.int .i64 ((szL (lvl (csl C) k)).length : Nat)) ∧ w' = W2) := fun k hk W2 hb => by
  obtain ⟨b1, b2, _⟩ := hNR.lv (k := k) (by omega)
  rw [csl_at] at b1 b2 ⊢
  exact manyCells_any (cl C k).a (cl C k).xs (cl C k).c W2 b2 (by omega) (by omega) ((hR.2 k (by omega)).1.on hb)
 have HCN : Hid (∀ k, k < m → (szL (lvl (csl C) k)).length ≤ 1024) := fun k hk => by
  obtain ⟨b1, b2, _⟩ := hNR.lv (k := k) (by omega)
  have h1 := szL_length (lvl (csl C) k)
  omega
 obtain ⟨bx, ox, hbx⟩ := hR.get
 obtain ⟨rfl, hbl, hat⟩ := hbx (by omega)
 have HAT := hid hat
 obtain ⟨tx, ty, htx⟩ := hT.get
 obtain ⟨rfl, htl, htat⟩ := htx (by omega)
 have HTAT := hid htat
 have HTR : Hid (∀ j, j < m → Ints w (cl T j).a (cl T j).xs) := fun j hj => (hT.2 j (by omega)).1
 have HTX := hid hTx
 have HCM := hid hCm
 have HTM := hid hTm
 obtain ⟨i0, hi0, hz0, hs0, hby0⟩ := info_parts info209
 obtain ⟨i1, hi1, hz1, hs1, hby1⟩ := info_parts info210
 have hmk : ∀ w, (Instr.makeSlice 152 (.int .i64 m) (.int .i64 m)).run Tryz.prog w = .ok (.slice (some ⟨w.heap.size, 0, none⟩) m m) (w.alloc (.cells ((List.range m).map (fun _ => Value.slice none 0 0)).toArray 209)) := fun w => by
  have := run_make (P := Tryz.prog) w 152 209 i0 (.slice none 0 0) Tryz.underlying152 hi0 hz0 .i64 .i64 m m (by omega) (by omega) (by rw [hby0]; omega) (by omega)
  rw [hs0] at this
  rw [this, Int.toNat_natCast, made_sl]
 have HMK2 : Hid (∀ (c : Nat), c ≤ 1024 → ∀ w, (Instr.makeSlice 209 (.int .i64 c) (.int .i64 c)).run Tryz.prog w = .ok (.slice (some ⟨w.heap.size, 0, none⟩) c c) (w.alloc (.cells (cellsI (List.replicate c 0)).toArray 210))) := fun c hc w => by
  have := run_make (P := Tryz.prog) w 209 210 i1 (.int .i64 0) Tryz.underlying209 hi1 hz1 .i64 .i64 c c (by omega) (by omega) (by rw [hby1]; omega) (by omega)
  rw [hs1] at this
  rw [this, Int.toNat_natCast, made_int, cellsI_rep]
 obtain ⟨hg0, hg1, hb0, hsz⟩ := top2 w (.cells #[.slice ba bs.length bc, .slice (some ⟨bx, ox, none⟩) m cc] 28) (.cells ((List.range m).map (fun _ => Value.slice none 0 0)).toArray 209)
 obtain ⟨⟨a0, a1⟩, _⟩ := two_cells (heap_top w (.cells #[.slice ba bs.length bc, .slice (some ⟨bx, ox, none⟩) m cc] 28))
 obtain ⟨⟨b0, b1⟩, _⟩ := two_cells hg0
 have HF0 : Hid (FT ((w.alloc (.cells #[.slice ba bs.length bc, .slice (some ⟨bx, ox, none⟩) m cc] 28)).alloc (.cells ((List.range m).map (fun _ => Value.slice none 0 0)).toArray 209)) (w.heap.size + 1 + 1) (w.heap.size + 1) m (fun _ => 0) (fun j => smX (szL (lvl (csl C) j)).length (mdF j) (cl T j).xs) 0) := ⟨hg1, by omega, fun j hj => absurd hj (by omega), fun i j _ hj => absurd hj (by omega)⟩
 have HB0 := hid hb0
 clear hR hT hbx hat htx htat hg0 hg1 hb0 hcl h1024 h0N hNR hCm hTm hTx
 generalize hp : w.heap.size = p at *
 go_enter Tryz.func98, Tryz.ntmps98
 go_wp2_with fail
 generalize (w.alloc (.cells #[.slice ba bs.length bc, .slice (some ⟨bx, ox, none⟩) m cc] 28)).alloc (.cells ((List.range m).map (fun _ => Value.slice none 0 0)).toArray 209) = V at *
 clear hmk a0 a1 b0 b1
 go_loopw [17] (fun i wr => ∃ (k : Nat) (gs : Nat → Nat), k ≤ m ∧ i = .int .i64 k ∧ Hid (FT wr (p + 1 + 1) (p + 1) m gs (fun j => smX (szL (lvl (csl C) j)).length (mdF j) (cl T j).xs) k) ∧ Hid (Below p w wr)) (fun i _ => m - (intOf i).toNat)
 case atStart => exact ⟨0, fun _ => 0, Nat.zero_le _, rfl, HF0, HB0⟩
 case round =>
  clear HF0 HB0
  obtain ⟨k, gs, hk, rfl, HFT, HBR⟩ := hrel
  have hwz := HFT.out.tb.lt
  by_cases hlk : k < m
  ·have hlk' : (k : Int) < m := by omega
   have y0 := (HBR.out.cell (p := ⟨bx, ox + k, none⟩) (by show bx < _; omega)).trans (HAT.out k (by rw [HCM.out]; exact hlk))
   have hcn := HCN.out k hlk
   have HMK := hid (HMC.out k hlk wr HBR.out)
   have htx := HTX.out k hlk
   have htr := HTR.out k hlk
   have t0 := HTAT.out k (by rw [HTM.out]; exact hlk)
   have hval : (cl T k).val = .slice (cl T k).a (cl T k).xs.length (cl T k).c := rfl
   rw [hval] at t0
   obtain ⟨cn, HC⟩ := named (szL (lvl (csl C) k)).length
   rw [HC.out] at HMK hcn htx
   obtain ⟨v, HV⟩ := named (mdF k)
   obtain ⟨ids, HIDS⟩ := named (cl T k).xs
   rw [HIDS.out] at htx htr t0
   obtain ⟨va, HVA⟩ := named (cl T k).a
   obtain ⟨vc, HVC⟩ := named (cl T k).c
   rw [HVA.out] at t0 htr
   rw [HVC.out] at t0
   obtain ⟨il, HIL⟩ := named ids.length
   have hil8 : il ≤ 1024 := by rw [← HIL.out]; exact htx.1
   have HTXX := hid htx.2
   have HTRR := hid htr
   rw [HIL.out] at t0 HTXX
   have hmk2 := HMK2.out cn hcn
   obtain ⟨mkW, HMW⟩ : ∃ f : World → World, Hid (∀ w, f w = w.alloc (.cells (cellsI (List.replicate cn 0)).toArray 210)) := ⟨_, fun _ => rfl⟩
   have hmk3 : ∀ w, (Instr.makeSlice 209 (.int .i64 cn) (.int .i64 cn)).run Tryz.prog w = .ok (.slice (some ⟨w.heap.size, 0, none⟩) cn cn) (mkW w) := fun w => by rw [hmk2, HMW.out]
   clear hmk2
   obtain ⟨vk, HVK⟩ := named (cl C k).val
   rw [HVK.out] at y0 HMK
   have hbA : Below wr.heap.size wr (mkW wr) := by rw [HMW.out]; exact (Below.refl _ _).alloc (Nat.le_refl _) _
   have hgA : (mkW wr).heap[wr.heap.size]? = some (.cells (cellsI (List.replicate cn 0)).toArray 210 (0, 0)) := by rw [HMW.out]; exact heap_top wr _
   have hFA := HFT.out.on hbA
   have HPUT := hid (hFA.put (b := wr.heap.size) (ys := List.replicate cn 0) (by omega) (fun j hj => lt_of_block (HFT.out.ro j hj).2) hgA)
   rw [List.length_replicate] at HPUT
   have HB6 : Hid (Below p w ((mkW wr).setCell ⟨p + 1, k, none⟩ (.slice (some ⟨wr.heap.size, 0, none⟩) cn cn))) := (HBR.out.trans (hbA.mono (by omega))).setCell (p := ⟨p + 1, k, none⟩) (by show p ≤ p + 1; omega) _
   have f0 := hFA.tb.cell hlk
   have f1 := hFA.tb.free k
   rw [if_neg (by omega)] at f0
   have t1 : ((mkW wr).setCell ⟨p + 1, k, none⟩ (.slice (some ⟨wr.heap.size, 0, none⟩) cn cn)).cell? ⟨tx, ty + k, none⟩ = some (.slice va il vc) := (HB6.out.cell (p := ⟨tx, ty + k, none⟩) (by show tx < p; omega)).trans t0
   clear hFA hgA hbA htx htr t0 hval
   go_wp2_with fail
   refine HMK.out.mono ?_
   rintro e w2 ⟨rfl, hw2⟩
   subst hw2
   go_wp2_with fail
   generalize hW6 : (mkW w2).setCell ⟨p + 1, k, none⟩ (.slice (some ⟨w2.heap.size, 0, none⟩) cn cn) = w6 at *
   clear hW6 hmk3 f0 f1 t1 HMW
   generalize hbb : w2.heap.size = b at *
   have HSTART : Hid (FT w6 (p + 1 + 1) (p + 1) m (fun j => if j = k then b else gs j) (fun j => if j = k then smX cn v (ids.take 0) else smX (szL (lvl (csl C) j)).length (mdF j) (cl T j).xs) (k + 1)) := by
    rw [List.take_zero, smX_nil]
    exact HPUT.out
   clear HPUT
   go_loopw [33] (fun i wr => ∃ (t : Nat), t ≤ il ∧ i = .int .i64 t ∧ Hid (FT wr (p + 1 + 1) (p + 1) m (fun j => if j = k then b else gs j) (fun j => if j = k then smX cn v (ids.take t) else smX (szL (lvl (csl C) j)).length (mdF j) (cl T j).xs) (k + 1)) ∧ Hid (Below p w wr)) (fun i _ => il - (intOf i).toNat)
   case atStart => exact ⟨0, Nat.zero_le _, rfl, HSTART, HB6⟩
   case round =>
    clear HSTART HB6
    obtain ⟨t, ht, rfl, HF, HBQ⟩ := hrel
    by_cases hlt : t < il
    ·have hlt' : (t : Int) < il := by omega
     obtain ⟨x, hx, hxc⟩ := HTXX.out t hlt
     obtain ⟨ix, iy, hix⟩ := HTRR.out.get
     obtain ⟨hva, hibl, hiat⟩ := hix (by rw [HIL.out]; omega)
     have s0 := (HBQ.out.cell (p := ⟨ix, iy + t, none⟩) (by show ix < p; omega)).trans (hiat t (by rw [HIL.out]; exact hlt))
     rw [hx] at s0
     have c0 := HF.out.tb.cell hlk
     rw [if_pos (by omega), if_pos rfl, if_pos rfl, smX_len] at c0
     have hrow := HF.out.ro k (by omega)
     rw [if_pos rfl, if_pos rfl] at hrow
     have r0 := World.news_of_block hrow.2 x _ (cellsI_getD _ x (by rw [smX_len]; exact hxc))
     rw [add_off] at r0
     have r1 : wr.frozen? ⟨b, x, none⟩ = false := by simp [World.frozen?, hrow.2]
     have hxc' : (x : Int) < cn := by omega
     have hwk : IntKind.i64.wrap ((k : Int) + 1) = (k : Int) + 1 := by rw [IntKind.wrap_i64]; omega
     have hturn := HF.out.turn x v
     rw [if_pos rfl, if_pos rfl, smX_step, ← hx] at hturn
     have htk : ids.take t ++ [ids.getD t 0] = ids.take (t + 1) := (take_snocI (by rw [HIL.out]; exact hlt)).symm
     rw [htk] at hturn
     have HTURN : Hid (FT (wr.setCell ⟨b, x, none⟩ (.int .i64 v)) (p + 1 + 1) (p + 1) m (fun j => if j = k then b else gs j) (fun j => if j = k then smX cn v (ids.take (t + 1)) else smX (szL (lvl (csl C) j)).length (mdF j) (cl T j).xs) (k + 1)) := by
      have e : (fun j => if j = k then smX cn v (ids.take (t + 1)) else smX (szL (lvl (csl C) j)).length (mdF j) (cl T j).xs) = fun j => if j = k then smX cn v (ids.take (t + 1)) else (if j = k then smX cn v (ids.take t) else smX (szL (lvl (csl C) j)).length (mdF j) (cl T j).xs) := by
       funext j
       by_cases e : j = k
       ·rw [if_pos e, if_pos e]
       ·rw [if_neg e, if_neg e, if_neg e]
      rw [e]
      exact hturn
     have HBT : Hid (Below p w (wr.setCell ⟨b, x, none⟩ (.int .i64 v))) := HBQ.out.setCell (p := ⟨b, x, none⟩) (by show p ≤ b; omega) _
     have HMD := hid (fun w => made_any k w)
     rw [HV.out] at HMD
     subst hva
     clear hturn hrow hiat hix hx htk
     go_wp2_with fail
     go_region_law (rw [if_pos (by rfl)]; go_simp; go_at_call 166; refine (HMD.out _).mono ?_; rintro e w9 ⟨rfl, rfl⟩)
     all_goals
      go_wp2_with fail
      exact ⟨⟨t + 1, by omega, by simp, HTURN.out.on ⟨rfl, rfl, rfl, Nat.le_refl _, fun _ _ => rfl⟩, HBT.out.drew⟩, by simp [intOf]; omega⟩
    ·have hlt' : ¬ (t : Int) < il := by omega
     obtain rfl : t = il := by omega
     go_wp2_with fail
     refine ⟨⟨k + 1, fun j => if j = k then b else gs j, by omega, by simp, ?_, HBQ⟩, by simp [intOf]; omega⟩
     have e : (fun j => smX (szL (lvl (csl C) j)).length (mdF j) (cl T j).xs) = fun j => if j = k then smX cn v (ids.take t) else smX (szL (lvl (csl C) j)).length (mdF j) (cl T j).xs := by
      funext j
      by_cases e : j = k
      ·subst e; rw [if_pos rfl, HC.out, HV.out, HIDS.out, ← HIL.out, List.take_length]
      ·rw [if_neg e]
     show FT _ _ _ _ _ _ _
     rw [e]
     exact HF.out
  ·have hlk' : ¬ (k : Int) < m := by omega
   obtain rfl : k = m := by omega
   go_wp2_with fail
   go_ret
   first | exact ⟨p + 1, gs, rfl, HFT.out, HBR.out⟩ | exact ⟨p + 1, rfl, ⟨gs, HFT.out⟩, HBR.out⟩
end Go.Proofs.YtaafkpojjdjphaaGreat
