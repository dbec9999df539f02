import Derived.Test.YtaafkpojjdjphaaGreatQAF
open Go.Lib (hid)
set_option maxRecDepth 100000
namespace Go.Proofs.YtaafkpojjdjphaaGreat
open Go.RowKit
set_option maxHeartbeats 1600000 in
theorem between_any (N : Int) (a : Option Addr) (l : List A) (cap : Nat) (ba : Option Addr) (bs : List Int) (bc : Nat) (ca : Option Addr) (C : List Cl) (cc : Nat) (k x : Int) (w : World) (hl : l.length ≤ 9223372036854775807) (hbl : bs.length ≤ 9223372036854775807) (hr : Arcs w a l) (hi : Ints w ba bs) (hR : Rws w ca C) :
  Calls Tryz.prog 34 #[.agg #[.int .i64 N, .slice a l.length cap], .agg #[.slice ba bs.length bc, .slice ca C.length cc], .int .i64 k, .int .i64 x] w fun e w' => ∃ v, e = .returned (.tuple #[.slice v (btV N l bs (csl C) k x).length (btV N l bs (csl C) k x).length, .int .i64 (btE N l bs (csl C) k x)]) ∧ RowI w' w.heap.size v (ints (btV N l bs (csl C) k x)) ∧ Below w.heap.size w w' := by
 have hb0 : Below w.heap.size w (((w.alloc (.cells #[.int .i64 N, .slice a l.length cap] 24)).alloc (.cells #[.slice ba bs.length bc, .slice ca C.length cc] 28)).alloc (.cells #[.int .i64 x] 3)) := (top3 w _ _ _).2.2.2.1
 have hg0 := (top3 w (.cells #[.int .i64 N, .slice a l.length cap] 24) (.cells #[.slice ba bs.length bc, .slice ca C.length cc] 28) (.cells #[.int .i64 x] 3)).1
 have hg1 := (top3 w (.cells #[.int .i64 N, .slice a l.length cap] 24) (.cells #[.slice ba bs.length bc, .slice ca C.length cc] 28) (.cells #[.int .i64 x] 3)).2.1
 have hg2 := (top3 w (.cells #[.int .i64 N, .slice a l.length cap] 24) (.cells #[.slice ba bs.length bc, .slice ca C.length cc] 28) (.cells #[.int .i64 x] 3)).2.2.1
 have hsz := (top3 w (.cells #[.int .i64 N, .slice a l.length cap] 24) (.cells #[.slice ba bs.length bc, .slice ca C.length cc] 28) (.cells #[.int .i64 x] 3)).2.2.2.2
 obtain ⟨⟨a0, a1⟩, _⟩ := two_cells hg0
 obtain ⟨⟨a2, a3⟩, _⟩ := two_cells hg1
 have a4 := cell_of_one hg2
 have HB0 := hid hb0
 have HG0 := hid hg0
 have HG1 := hid hg1
 have HG2 := hid hg2
 have HLK := hid (ceLook_any N a l cap ba bs bc ca C cc k x _ hl hbl (hr.on hb0) (hi.on hb0) (hR.on hb0))
 obtain ⟨E, HE⟩ := named (inE N l bs (csl C) k x)
 have HEE := HE
 rw [HE.out] at HLK
 clear HE
 by_cases h1 : E = 0
 ·subst h1
  obtain ⟨hNR, j, q, rfl, hj, rfl, hq⟩ := inE_zero HEE.out
  have hcl : C.length = bs.length := by have := hNR.2.2.2.1; rw [csl_len] at this; exact this
  have hjC : j < C.length := by omega
  obtain ⟨hlv, hty, _, _⟩ := hNR.lv hj
  rw [csl_at] at hlv hty
  have hC0 : chkE ((cl C j).xs.length : Nat) l = 0 := by rw [hlv]; exact hNR.1
  have hN : N = ((cl C j).xs.length : Nat) := hlv.symm
  have hL : (cl C j).xs.length ≤ 1024 := by have := (chk_zero hC0).2.1; omega
  have hl8 : l.length ≤ 8192 := (chk_zero hC0).2.2.1
  have ej : ((j : Int) + 1).toNat - 1 = j := by omega
  have HBE : Hid (btE N l bs (csl C) ((j : Int) + 1) (q : Int) = if (j : Int) + 1 = 1 then 111 else 0) := by show _ = _; unfold btE; rw [if_neg (by rw [HEE.out]; simp)]
  by_cases hj0 : j = 0
  ·subst hj0
   have HB9 : Hid (btE N l bs (csl C) (((0 : Nat) : Int) + 1) (q : Int) = 111) := HBE.out.trans (if_pos rfl)
   have HV0 : Hid (btV N l bs (csl C) (((0 : Nat) : Int) + 1) (q : Int) = []) := by show _ = _; unfold btV; rw [if_neg (by rw [HB9.out]; decide)]
   rw [HV0.out, HB9.out]
   clear HV0 HB9 HBE
   have HV0 : Hid (hld (cl C 0).xs (q : Int) = hld (cl C 0).xs (q : Int)) := rfl
   have HL := hid (HLK.out.mono (fun e w' h => (⟨h.1 rfl, h.2.2⟩ : e = .returned (.tuple #[.slice (cl C ((((0 : Nat) : Int) + 1).toNat - 1)).a (cl C ((((0 : Nat) : Int) + 1).toNat - 1)).xs.length (cl C ((((0 : Nat) : Int) + 1).toNat - 1)).c, .int .i64 0]) ∧ _)))
   rw [ej] at HL
   obtain ⟨L, va, vc, HLL, HVA, HVC⟩ : ∃ L va vc, Hid ((cl C 0).xs = L) ∧ Hid ((cl C 0).a = va) ∧ Hid ((cl C 0).c = vc) := ⟨_, _, _, rfl, rfl, rfl⟩
   rw [HLL.out] at hC0 hL HL hN HV0
   rw [HVA.out, HVC.out] at HL
   have HIL : Hid (Ints w va L) := by have := (hR.2 0 hjC).1; rw [HLL.out, HVA.out] at this; exact this
   have HC0 := hid hC0
   obtain ⟨m, HM⟩ := named L.length
   rw [HM.out] at HL hN hL
   subst hN
   have HRA := hid hr
   have e11 : (((0 : Nat) : Int) + 1 == 1) = true := by simp
   clear hR hNR
   have hmf : ∀ (fn : Fn) (first cap : Array Value) (w : World), (Instr.makeFunc fn first cap).run Tryz.prog w = .ok (.func fn first cap) w := fun _ _ _ _ => rfl
   clear hr hi hb0 HEE HLK HV0 hcl hlv hty hC0
   generalize hp : w.heap.size = p at *
   go_enter Tryz.func34, Tryz.ntmps34
   go_wp2_with fail
   generalize hW : (((w.alloc (.cells #[.int .i64 m, .slice a l.length cap] 24)).alloc (.cells #[.slice ba bs.length bc, .slice ca C.length cc] 28)).alloc (.cells #[.int .i64 q] 3)) = W at *
   clear hW
   refine HL.out.mono ?_
   rintro e w1 ⟨rfl, hb1⟩
   have HB1 : Hid (Below p w w1) := HB0.out.trans (hb1.mono (by omega))
   obtain ⟨⟨k0, k1⟩, _⟩ := two_cells (((hb1.block p (by omega)).trans HG0.out))
   obtain ⟨⟨k2, k3⟩, _⟩ := two_cells (((hb1.block (p + 1) (by omega)).trans HG1.out))
   have k4 := cell_of_one ((hb1.block (p + 1 + 1) (by omega)).trans HG2.out)
   have hw1 : p + 2 < w1.heap.size := by have := hb1.size; omega
   have HB2 : Hid (Below p w (w1.alloc (.cells #[.slice va m vc] 132))) := HB1.out.alloc (by omega) _
   have HG3 := hid (heap_top w1 (.cells #[.slice va m vc] 132))
   have j0 : (w1.alloc (.cells #[.slice va m vc] 132)).cell? ⟨p, 0, none⟩ = some (.int .i64 m) := (World.cell?_of_block (w := w1) (a := ⟨p, 0, none⟩) (Below.heap_alloc _ _ _ (by show p < _; omega))).trans k0
   have j1 : (w1.alloc (.cells #[.slice va m vc] 132)).cell? ⟨p, 1, none⟩ = some (.slice a l.length cap) := (World.cell?_of_block (w := w1) (a := ⟨p, 1, none⟩) (Below.heap_alloc _ _ _ (by show p < _; omega))).trans k1
   have j3 : (w1.alloc (.cells #[.slice va m vc] 132)).cell? ⟨p + 1, 1, none⟩ = some (.slice ca C.length cc) := (World.cell?_of_block (w := w1) (a := ⟨p + 1, 1, none⟩) (Below.heap_alloc _ _ _ (by show p + 1 < _; omega))).trans k3
   have HK4 : Hid ((w1.alloc (.cells #[.slice va m vc] 132)).cell? ⟨p + 1 + 1, 0, none⟩ = some (.int .i64 q)) := (World.cell?_of_block (w := w1) (a := ⟨p + 1 + 1, 0, none⟩) (Below.heap_alloc _ _ _ (by show p + 1 + 1 < _; omega))).trans k4
   have j5 := cell_of_one HG3.out
   clear a0 a1 a2 a3 a4 hb1 HL hg0 hg1 hg2 HB0 HG0 HG1 HG2 k0 k1 k2 k3 k4
   go_wp2_with fail
   go_ret2
   exact ⟨none, rfl, Or.inl ⟨rfl, rfl⟩, HB2.out⟩
  ·obtain ⟨i0, rfl⟩ : ∃ i0, j = i0 + 1 := ⟨j - 1, by omega⟩
   have HB9 : Hid (btE N l bs (csl C) (((i0 + 1 : Nat) : Int) + 1) (q : Int) = 0) := HBE.out.trans (if_neg (by omega))
   have ei : (((i0 + 1 : Nat) : Int) + 1).toNat - 2 = i0 := by omega
   have HV0 : Hid (btV N l bs (csl C) (((i0 + 1 : Nat) : Int) + 1) (q : Int) = arL l (btP (cl C (i0 + 1)).xs (cl C i0).xs (q : Int))) := by show _ = _; unfold btV; rw [if_pos HB9.out, ej, ei, csl_at, csl_at]
   rw [HV0.out, HB9.out]
   clear HB9 HBE ei
   have hiC : i0 < C.length := by omega
   obtain ⟨hlv2, _, _, _⟩ := hNR.lv (show i0 < bs.length by omega)
   rw [csl_at] at hlv2
   have hML : (cl C i0).xs.length = (cl C (i0 + 1)).xs.length := by omega
   obtain ⟨M, da, dc, HMM, HDA, HDC⟩ : ∃ M da dc, Hid ((cl C i0).xs = M) ∧ Hid ((cl C i0).a = da) ∧ Hid ((cl C i0).c = dc) := ⟨_, _, _, rfl, rfl, rfl⟩
   have HIM : Hid (Ints w da M) := by have := (hR.2 i0 hiC).1; rw [HMM.out, HDA.out] at this; exact this
   rw [HMM.out] at HV0 hML
   rw [HMM.out]
   obtain ⟨bx, ox, hbx⟩ := hR.get
   obtain ⟨rfl, hbl2, hcell⟩ := hbx (by omega)
   have d0 := hcell i0 hiC
   unfold Cl.val at d0
   have h5 : bs.length ≤ 5 := hNR.2.2.1
   have HL := hid (HLK.out.mono (fun e w' h => (⟨h.1 rfl, h.2.2⟩ : e = .returned (.tuple #[.slice (cl C ((((i0 + 1 : Nat) : Int) + 1).toNat - 1)).a (cl C ((((i0 + 1 : Nat) : Int) + 1).toNat - 1)).xs.length (cl C ((((i0 + 1 : Nat) : Int) + 1).toNat - 1)).c, .int .i64 0]) ∧ _)))
   rw [ej] at HL
   obtain ⟨L, va, vc, HLL, HVA, HVC⟩ : ∃ L va vc, Hid ((cl C (i0 + 1)).xs = L) ∧ Hid ((cl C (i0 + 1)).a = va) ∧ Hid ((cl C (i0 + 1)).c = vc) := ⟨_, _, _, rfl, rfl, rfl⟩
   rw [HLL.out] at hC0 hL HL hN HV0
   rw [HLL.out]
   rw [HVA.out, HVC.out] at HL
   have HIL : Hid (Ints w va L) := by have := (hR.2 (i0 + 1) hjC).1; rw [HLL.out, HVA.out] at this; exact this
   have HC0 := hid hC0
   obtain ⟨m, HM⟩ := named L.length
   rw [HM.out] at HL hN hL
   subst hN
   have HRA := hid hr
   rw [HLL.out] at hML
   rw [HMM.out, HDA.out, HDC.out, hML, HM.out] at d0
   have HMLm : Hid (M.length = m) := by show _ = _; rw [hML, HM.out]
   have HD0 := hid d0
   have e11 : (((i0 + 1 : Nat) : Int) + 1 == 1) = false := by simp; omega
   have e12 : (((i0 + 1 : Nat) : Int) + 1 - 2) = i0 := by omega
   have hi' : (i0 : Int) < C.length := by omega
   have hC5 : C.length ≤ 5 := by omega
   clear hR hNR d0 hcell hbx hlv2 hML
   have hmf : ∀ (fn : Fn) (first cap : Array Value) (w : World), (Instr.makeFunc fn first cap).run Tryz.prog w = .ok (.func fn first cap) w := fun _ _ _ _ => rfl
   clear hr hi hb0 HEE HLK HV0 hcl hlv hty hC0
   generalize hp : w.heap.size = p at *
   go_enter Tryz.func34, Tryz.ntmps34
   go_wp2_with fail
   generalize hW : (((w.alloc (.cells #[.int .i64 m, .slice a l.length cap] 24)).alloc (.cells #[.slice ba bs.length bc, .slice (some ⟨bx, ox, none⟩) C.length cc] 28)).alloc (.cells #[.int .i64 q] 3)) = W at *
   clear hW
   refine HL.out.mono ?_
   rintro e w1 ⟨rfl, hb1⟩
   have HB1 : Hid (Below p w w1) := HB0.out.trans (hb1.mono (by omega))
   obtain ⟨⟨k0, k1⟩, _⟩ := two_cells (((hb1.block p (by omega)).trans HG0.out))
   obtain ⟨⟨k2, k3⟩, _⟩ := two_cells (((hb1.block (p + 1) (by omega)).trans HG1.out))
   have k4 := cell_of_one ((hb1.block (p + 1 + 1) (by omega)).trans HG2.out)
   have hw1 : p + 2 < w1.heap.size := by have := hb1.size; omega
   have HB2 : Hid (Below p w (w1.alloc (.cells #[.slice va m vc] 132))) := HB1.out.alloc (by omega) _
   have HG3 := hid (heap_top w1 (.cells #[.slice va m vc] 132))
   have j0 : (w1.alloc (.cells #[.slice va m vc] 132)).cell? ⟨p, 0, none⟩ = some (.int .i64 m) := (World.cell?_of_block (w := w1) (a := ⟨p, 0, none⟩) (Below.heap_alloc _ _ _ (by show p < _; omega))).trans k0
   have j1 : (w1.alloc (.cells #[.slice va m vc] 132)).cell? ⟨p, 1, none⟩ = some (.slice a l.length cap) := (World.cell?_of_block (w := w1) (a := ⟨p, 1, none⟩) (Below.heap_alloc _ _ _ (by show p < _; omega))).trans k1
   have j3 : (w1.alloc (.cells #[.slice va m vc] 132)).cell? ⟨p + 1, 1, none⟩ = some (.slice (some ⟨bx, ox, none⟩) C.length cc) := (World.cell?_of_block (w := w1) (a := ⟨p + 1, 1, none⟩) (Below.heap_alloc _ _ _ (by show p + 1 < _; omega))).trans k3
   have HK4 : Hid ((w1.alloc (.cells #[.slice va m vc] 132)).cell? ⟨p + 1 + 1, 0, none⟩ = some (.int .i64 q)) := (World.cell?_of_block (w := w1) (a := ⟨p + 1 + 1, 0, none⟩) (Below.heap_alloc _ _ _ (by show p + 1 + 1 < _; omega))).trans k4
   have j5 := cell_of_one HG3.out
   clear a0 a1 a2 a3 a4 hb1 HL hg0 hg1 hg2 HB0 HG0 HG1 HG2 k0 k1 k2 k3 k4
   have y0 : (w1.alloc (.cells #[.slice va m vc] 132)).cell? ⟨bx, ox + i0, none⟩ = some (.slice da m dc) := (HB2.out.cell (p := ⟨bx, ox + i0, none⟩) (hp ▸ hbl2)).trans HD0.out
   have hv1 : (w1.alloc (.cells #[.slice va m vc] 132)).heap.size = w1.heap.size + 1 := by simp
   have HJ0 := hid j0
   have HJ1 := hid j1
   have V2 : Below p w ((w1.alloc (.cells #[.slice va m vc] 132)).alloc (.cells #[.slice da m dc] 132)) := HB2.out.alloc (by omega) _
   have HV2 := hid V2
   have HVV : Hid (Below (w1.alloc (.cells #[.slice va m vc] 132)).heap.size (w1.alloc (.cells #[.slice va m vc] 132)) ((w1.alloc (.cells #[.slice va m vc] 132)).alloc (.cells #[.slice da m dc] 132))) := (Below.refl _ _).alloc (Nat.le_refl _) _
   have HG5 := hid (heap_top (w1.alloc (.cells #[.slice va m vc] 132)) (.cells #[.slice da m dc] 132))
   rw [hv1] at HG5
   have f0 := (HVV.out.cell (p := ⟨p, 0, none⟩) (by show p < _; omega)).trans HJ0.out
   have f1 := (HVV.out.cell (p := ⟨p, 1, none⟩) (by show p < _; omega)).trans HJ1.out
   have HF4 : Hid (((w1.alloc (.cells #[.slice va m vc] 132)).alloc (.cells #[.slice da m dc] 132)).cell? ⟨p + 1 + 1, 0, none⟩ = some (.int .i64 q)) := (HVV.out.cell (p := ⟨p + 1 + 1, 0, none⟩) (by show p + 1 + 1 < _; omega)).trans HK4.out
   have HF3 : Hid (((w1.alloc (.cells #[.slice va m vc] 132)).alloc (.cells #[.slice da m dc] 132)).cell? ⟨w1.heap.size, 0, none⟩ = some (.slice va m vc)) := (HVV.out.cell (p := ⟨w1.heap.size, 0, none⟩) (by show w1.heap.size < _; omega)).trans (cell_of_one HG3.out)
   have hv2 : ((w1.alloc (.cells #[.slice va m vc] 132)).alloc (.cells #[.slice da m dc] 132)).heap.size = w1.heap.size + 2 := by simp
   clear HD0 V2 HVV
   go_wp2_with fail
   generalize hV : (w1.alloc (.cells #[.slice va m vc] 132)).alloc (.cells #[.slice da m dc] 132) = V at *
   clear hV
   refine (cArcsB_any m (.pointer (some ⟨w1.heap.size, 0, none⟩)) (.pointer (some ⟨p + 1 + 1, 0, none⟩)) (.pointer (some ⟨w1.heap.size + 1, 0, none⟩)) a l cap (btP L M q) V hl8 (HRA.out.on (hp ▸ HV2.out)) (fun i hi W2 hb => ?_)).mono ?_
   ·have hbw : Below p w W2 := HV2.out.trans (hb.mono (by omega))
    have hvz := hb.size
    refine ceW1_any w1.heap.size (p + 1 + 1) (w1.heap.size + 1) va L vc da M dc q _ W2 (chk_in HC0.out hi) (by rw [HM.out]; exact hL) (by rw [HMLm.out, HM.out]) ?_ ((hb.cell (p := ⟨p + 1 + 1, 0, none⟩) (by show p + 1 + 1 < _; omega)).trans HF4.out) ?_ (HIL.out.on (hp ▸ hbw)) (HIM.out.on (hp ▸ hbw))
    ·rw [HM.out]
     exact (hb.cell (p := ⟨w1.heap.size, 0, none⟩) (by show w1.heap.size < _; omega)).trans HF3.out
    ·rw [HMLm.out]
     exact (hb.cell (p := ⟨w1.heap.size + 1, 0, none⟩) (by show w1.heap.size + 1 < _; omega)).trans (cell_of_one HG5.out)
   ·rintro e w3 ⟨v, rfl, hrow, hb3⟩
    have HR3 := hid (hrow.base (C := p) (by omega))
    have HB3 : Hid (Below p w w3) := HV2.out.trans (hb3.mono (by omega))
    clear hrow hb3 j0 j1 f0 f1
    go_wp2_with fail
    go_ret2
    exact ⟨v, rfl, HR3.out, HB3.out⟩
 ·have e1 : (E != 0) = true := by simpa using h1
  have HBE : Hid (btE N l bs (csl C) k x = E) := by show _ = _; unfold btE; rw [if_pos (by rw [HEE.out]; exact h1), HEE.out]
  have HV0 : Hid (btV N l bs (csl C) k x = []) := by show _ = _; unfold btV; rw [if_neg (by rw [HBE.out]; exact h1)]
  rw [HV0.out, HBE.out]
  have HL := hid (HLK.out.mono (fun e w' h => (⟨h.2.1 h1, h.2.2⟩ : e = .returned (.tuple #[.slice none 0 0, .int .i64 E]) ∧ _)))
  clear hr hi hR hb0 HEE HLK HV0 HBE
  generalize hp : w.heap.size = p at *
  go_enter Tryz.func34, Tryz.ntmps34
  go_wp2_with fail
  generalize hW : (((w.alloc (.cells #[.int .i64 N, .slice a l.length cap] 24)).alloc (.cells #[.slice ba bs.length bc, .slice ca C.length cc] 28)).alloc (.cells #[.int .i64 x] 3)) = W at *
  clear hW
  refine HL.out.mono ?_
  rintro e w1 ⟨rfl, hb1⟩
  have HB1 : Hid (Below p w w1) := HB0.out.trans (hb1.mono (by omega))
  clear a0 a1 a2 a3 a4 hb1 HL hg0 hg1 hg2 HB0 HG0 HG1 HG2
  have HB2 : Hid (Below p w (w1.alloc (.cells #[.slice none 0 0] 132))) := HB1.out.alloc (by have := HB1.out.size; omega) _
  go_wp2_with fail
  go_ret2
  exact ⟨none, rfl, Or.inl ⟨rfl, rfl⟩, HB2.out⟩
set_option maxHeartbeats 1600000 in
theorem outer_any (N : Int) (a : Option Addr) (l : List A) (cap : Nat) (ba : Option Addr) (bs : List Int) (bc : Nat) (ca : Option Addr) (C : List Cl) (cc : Nat) (k : Int) (w : World) (hl : l.length ≤ 9223372036854775807) (hbl : bs.length ≤ 9223372036854775807) (hr : Arcs w a l) (hi : Ints w ba bs) (hR : Rws w ca C) :
  Calls Tryz.prog 54 #[.agg #[.int .i64 N, .slice a l.length cap], .agg #[.slice ba bs.length bc, .slice ca C.length cc], .int .i64 k] w fun e w' => ∃ v, e = .returned (.tuple #[.slice v (ouV N l bs (csl C) k).length (ouV N l bs (csl C) k).length, .int .i64 (atE N l bs (csl C) k)]) ∧ RowI w' w.heap.size v (ints (ouV N l bs (csl C) k)) ∧ Below w.heap.size w w' := by
 have hb0 : Below w.heap.size w ((w.alloc (.cells #[.int .i64 N, .slice a l.length cap] 24)).alloc (.cells #[.slice ba bs.length bc, .slice ca C.length cc] 28)) := (top2 w _ _).2.2.1
 have hg0 := (top2 w (.cells #[.int .i64 N, .slice a l.length cap] 24) (.cells #[.slice ba bs.length bc, .slice ca C.length cc] 28)).1
 have hg1 := (top2 w (.cells #[.int .i64 N, .slice a l.length cap] 24) (.cells #[.slice ba bs.length bc, .slice ca C.length cc] 28)).2.1
 have hsz := (top2 w (.cells #[.int .i64 N, .slice a l.length cap] 24) (.cells #[.slice ba bs.length bc, .slice ca C.length cc] 28)).2.2.2
 obtain ⟨⟨a0, a1⟩, _⟩ := two_cells hg0
 obtain ⟨⟨a2, a3⟩, _⟩ := two_cells hg1
 have HB0 := hid hb0
 have HLK := hid (many_any N a l cap ba bs bc ca C cc k _ hl hbl (hr.on hb0) (hi.on hb0) (hR.on hb0))
 obtain ⟨E, HE⟩ := named (atE N l bs (csl C) k)
 have HEE := HE
 rw [HE.out] at HLK
 rw [HE.out]
 obtain ⟨mv, HMV⟩ := named (manyV N l bs (csl C) k)
 rw [HMV.out] at HLK
 clear HE HMV
 by_cases h1 : E = 0
 ·subst h1
  obtain ⟨hNR, j, rfl, hj⟩ := atE_zero HEE.out
  have hcl : C.length = bs.length := by have := hNR.2.2.2.1; rw [csl_len] at this; exact this
  have hjC : j < C.length := by omega
  obtain ⟨hlv, hty, _, _⟩ := hNR.lv hj
  rw [csl_at] at hlv hty
  have hC0 : chkE ((cl C j).xs.length : Nat) l = 0 := by rw [hlv]; exact hNR.1
  have hN : N = ((cl C j).xs.length : Nat) := hlv.symm
  have hL : (cl C j).xs.length ≤ 1024 := by have := (chk_zero hC0).2.1; omega
  have hl8 : l.length ≤ 8192 := (chk_zero hC0).2.2.1
  have ej : ((j : Int) + 1).toNat - 1 = j := by omega
  have ej2 : (j : Int) + 1 - 1 = j := by omega
  have HV0 : Hid (ouV N l bs (csl C) ((j : Int) + 1) = arL l (prt (cl C j).xs)) := by show _ = _; unfold ouV; rw [if_pos HEE.out, ej, csl_at]
  rw [HV0.out]
  obtain ⟨bx, ox, hbx⟩ := hR.get
  obtain ⟨rfl, hbl2, hcell⟩ := hbx (by omega)
  have d0 := hcell j hjC
  unfold Cl.val at d0
  have h5 : bs.length ≤ 5 := hNR.2.2.1
  obtain ⟨L, va, vc, HLL, HVA, HVC⟩ : ∃ L va vc, Hid ((cl C j).xs = L) ∧ Hid ((cl C j).a = va) ∧ Hid ((cl C j).c = vc) := ⟨_, _, _, rfl, rfl, rfl⟩
  rw [HLL.out] at hC0 hL hN HV0 d0
  rw [HLL.out]
  rw [HVA.out, HVC.out] at d0
  have HIL : Hid (Ints w va L) := by have := (hR.2 j hjC).1; rw [HLL.out, HVA.out] at this; exact this
  have HC0 := hid hC0
  obtain ⟨m, HM⟩ := named L.length
  rw [HM.out] at hN hL d0
  subst hN
  have HRA := hid hr
  have HD0 := hid d0
  have HG0 := hid hg0
  have HG1 := hid hg1
  have hj' : (j : Int) < C.length := by omega
  have hj9 : (0 : Int) ≤ j := by omega
  have hC5 : C.length ≤ 5 := by omega
  have ewr : IntKind.i64.wrap ((j : Int) + 1 - 1) = j := by rw [IntKind.wrap_i64]; omega
  have ewr2 : IntKind.i64.wrap (j : Int) = j := by rw [IntKind.wrap_i64]; omega
  have hmf : ∀ (fn : Fn) (first cap : Array Value) (w : World), (Instr.makeFunc fn first cap).run Tryz.prog w = .ok (.func fn first cap) w := fun _ _ _ _ => rfl
  clear hr hi hb0 HEE HV0 hcl hlv hty hC0 hR hNR d0 hcell hbx
  generalize hp : w.heap.size = p at *
  go_enter Tryz.func54, Tryz.ntmps54
  go_wp2_with fail
  generalize hW : (w.alloc (.cells #[.int .i64 m, .slice a l.length cap] 24)).alloc (.cells #[.slice ba bs.length bc, .slice (some ⟨bx, ox, none⟩) C.length cc] 28) = W at *
  clear hW
  refine HLK.out.mono ?_
  rintro e w1 ⟨rfl, hb1⟩
  have HB1 : Hid (Below p w w1) := HB0.out.trans (hb1.mono (by omega))
  have hG0 := (hb1.block p (by omega)).trans HG0.out
  have hG1 := (hb1.block (p + 1) (by omega)).trans HG1.out
  obtain ⟨⟨k0, k1⟩, _⟩ := two_cells hG0
  obtain ⟨⟨k2, k3⟩, _⟩ := two_cells hG1
  have d0 := (HB1.out.cell (p := ⟨bx, ox + j, none⟩) (hp ▸ hbl2)).trans HD0.out
  have hw1 : p + 1 < w1.heap.size := by have := hb1.size; omega
  have HK0 := hid k0
  have HK1 := hid k1
  have HK3 := hid k3
  have HD1 := hid d0
  clear a0 a1 a2 a3 hb1 HLK hg0 hg1 HB0 HG0 HG1 HD0 hG0 hG1 k2
  have HBD : Hid (Below w1.heap.size w1 w1.drew) := (Below.refl _ _).drew
  have HCA : Hid (Calls Tryz.prog 84 #[.agg #[.int .i64 m, .slice a l.length cap], .func (.func 90) #[.slice va m vc] #[]] w1.drew fun e w' => ∃ v, e = .returned (.slice v (arL l (prt L)).length (arL l (prt L)).length) ∧ RowI w' w1.heap.size v (ints (arL l (prt L))) ∧ Below w1.heap.size w1 w') := by
   refine (cArcsO_any m (.slice va m vc) a l cap (prt L) w1.drew hl8 (HRA.out.on (hp ▸ HB1.out.trans (HBD.out.mono (by omega)))) (fun i hi W2 hb => ?_)).mono ?_
   ·have hbw : Below p w W2 := HB1.out.trans ((HBD.out.trans hb).mono (by omega))
    have h := cePart_any va L vc (l.getD i A.zero) W2 (chk_in HC0.out hi) (by rw [HM.out]; exact hL) (HIL.out.on (hp ▸ hbw))
    rw [HM.out] at h
    exact h
   ·rintro e w3 ⟨v, rfl, hrow, hb3⟩
    exact ⟨v, rfl, hrow, HBD.out.trans hb3⟩
  go_wp2_with fail
  go_region_held3 (fun w' => w'.cell? ⟨p, 0, none⟩ = some (.int .i64 m) ∧ w'.cell? ⟨p, 1, none⟩ = some (.slice a l.length cap) ∧ w'.cell? ⟨p + 1, 1, none⟩ = some (.slice (some ⟨bx, ox, none⟩) C.length cc) ∧ w'.cell? ⟨bx, ox + j, none⟩ = some (.slice va m vc)) (go_keep) ((go_at_call 84; refine HCA.out.mono ?_; rintro e w2 ⟨v, rfl, hrow, hb2⟩; have v0 := (hb2.cell (p := ⟨p, 0, none⟩) (by show p < _; omega)).trans HK0.out; have v1 := (hb2.cell (p := ⟨p, 1, none⟩) (by show p < _; omega)).trans HK1.out; have v2 := (hb2.cell (p := ⟨p + 1, 1, none⟩) (by show p + 1 < _; omega)).trans HK3.out; have v3 := (hb2.cell (p := ⟨bx, ox + j, none⟩) (by have := HB1.out.size; show bx < _; omega)).trans HD1.out; have HR2 := hid (hrow.base (C := p) (by omega)); have HB2 : Hid (Below p w w2) := HB1.out.trans (hb2.mono (by omega)); clear hb2 hrow))
  go_wp2_with fail
  go_ret2
  exact ⟨v, rfl, HR2.out, HB2.out⟩
 ·have e1 : (E != 0) = true := by simpa using h1
  have HV0 : Hid (ouV N l bs (csl C) k = []) := by show _ = _; unfold ouV; rw [if_neg (by rw [HEE.out]; exact h1)]
  rw [HV0.out]
  clear hr hi hR hb0 HEE HV0
  generalize hp : w.heap.size = p at *
  go_enter Tryz.func54, Tryz.ntmps54
  go_wp2_with fail
  generalize hW : (w.alloc (.cells #[.int .i64 N, .slice a l.length cap] 24)).alloc (.cells #[.slice ba bs.length bc, .slice ca C.length cc] 28) = W at *
  clear hW
  refine HLK.out.mono ?_
  rintro e w1 ⟨rfl, hb1⟩
  have HB1 : Hid (Below p w w1) := HB0.out.trans (hb1.mono (by omega))
  clear a0 a1 a2 a3 hb1 HLK hg0 hg1 HB0
  go_wp2_with fail
  go_ret2
  exact ⟨none, rfl, Or.inl ⟨rfl, rfl⟩, HB1.out⟩
theorem ints_block {w : World} {b : Nat} {xs : List Int} {t : TypeId} (h : w.heap[b]? = some (.cells (cellsI xs).toArray t (0, 0))) : Ints w (some ⟨b, 0, none⟩) xs := by
 by_cases h0 : xs = []
 ·exact .inl h0
 ·refine .inr ⟨b, 0, rfl, lt_of_block h, fun j hj => ?_⟩
  simp [World.cell?, h, cellsI, List.getD, hj]
theorem al6 (w : World) (o0 o1 o2 o3 o4 o5 : Obj) : ∀ W, W = (((((w.alloc o0).alloc o1).alloc o2).alloc o3).alloc o4).alloc o5 → W.heap[w.heap.size]? = some o0 ∧ W.heap[w.heap.size + 1]? = some o1 ∧ W.heap[w.heap.size + 2]? = some o2 ∧ W.heap[w.heap.size + 3]? = some o3 ∧ W.heap[w.heap.size + 4]? = some o4 ∧ W.heap[w.heap.size + 5]? = some o5 ∧ Below w.heap.size w W ∧ W.heap.size = w.heap.size + 6 := by
 rintro W rfl
 have h3 := top3 w o0 o1 o2
 have h4 := top3 (((w.alloc o0).alloc o1).alloc o2) o3 o4 o5
 generalize ((w.alloc o0).alloc o1).alloc o2 = V at *
 obtain ⟨a0, a1, a2, a3, a4⟩ := h3
 obtain ⟨b0, b1, b2, b3, b4⟩ := h4
 rw [a4] at b0 b1 b2 b4
 exact ⟨(b3.block _ (lt_of_block a0)).trans a0, (b3.block _ (lt_of_block a1)).trans a1, (b3.block _ (lt_of_block a2)).trans a2, b0, b1, b2, a3.trans (b3.mono (by omega)), by omega⟩
def wC (p : Nat) : List Cl := [⟨some ⟨p, 0, none⟩, 3, [0, 0, 1]⟩]
theorem wC_rws {w : World} {b p : Nat} (h : w.heap[b]? = some (.cells #[.slice (some ⟨p, 0, none⟩) 3 3] 25)) (h2 : w.heap[p]? = some (.cells #[.int .i64 0, .int .i64 0, .int .i64 1] 3)) : Rws w (some ⟨b, 0, none⟩) (wC p) := by
 refine ⟨.inr ⟨b, 0, rfl, lt_of_block h, fun j hj => ?_⟩, fun j hj => ?_⟩
 ·obtain rfl : j = 0 := by have : (wC p).length = 1 := rfl; omega
  simp [World.cell?, h]; rfl
 ·obtain rfl : j = 0 := by have : (wC p).length = 1 := rfl; omega
  exact ⟨ints_block (xs := [0, 0, 1]) h2, by show 3 ≤ 9223372036854775807; decide⟩
theorem bd_len {N : Int} {l : List A} {bs : List Int} {cs : List (List Int)} {k x : Int} : (bdV N l bs cs k x).length ≤ 1024 := by
 unfold bdV
 split
 ·rename_i h
  have h1 := (chk_zero (inE_zero h).1.1).2.1
  have h2 := cho_len (bdP (lvl cs (k.toNat - 1)) l x) N.toNat
  unfold bdL
  omega
 ·simp
end Go.Proofs.YtaafkpojjdjphaaGreat
