/-
  The contract of Index. Contracts of Between and Outer. The contracts of the library functions that the code calls, laid at this translation: each is one application of a theorem of the kit. The chapter's example (works), and has.
-/
import Derived.Test.YtpmjbeiclmllmaaXCea
import Derived.Ground.Names2Prog
import Derived.Shelf.Slices.SearchI
import Derived.Test.YtpmjbeiclmllmaaProg
namespace Go.Proofs.Ytpmjbeiclmllmaa
open Go.RowKit
set_option maxRecDepth 100000 in
set_option maxHeartbeats 1600000 in
/-- Between. -/
theorem between_any (N : Int) (a : Option Addr) (l : List A) (cap : Nat) (ba : Option Addr) (bs : List Int) (bc : Nat) (ca : Option Addr) (C : List Cl) (cc : Nat) (k x : Int) (w : World) (hl : l.length ≤ 9223372036854775807) (hbl : bs.length ≤ 9223372036854775807) (hr : Arcs w a l) (hi : Ints w ba bs) (hR : Rws w ca C) :
    Calls Try.prog 22 #[.agg #[.int .i64 N, .slice a l.length cap], .agg #[.slice ba bs.length bc, .slice ca C.length cc], .int .i64 k, .int .i64 x] w fun e w' => ∃ v, e = .returned (.tuple #[.slice v (btV N l bs (csl C) k x).length (btV N l bs (csl C) k x).length, .int .i64 (btE N l bs (csl C) k x)]) ∧ RowI w' w.heap.size v (ints (btV N l bs (csl C) k x)) ∧ Below w.heap.size w w' := by
  have hb0 : Below w.heap.size w (((w.alloc (.cells #[.int .i64 N, .slice a l.length cap] 24)).alloc (.cells #[.slice ba bs.length bc, .slice ca C.length cc] 28)).alloc (.cells #[.int .i64 x] 3)) := (top3 w _ _ _).2.2.2.1
  have hg0 := (top3 w (.cells #[.int .i64 N, .slice a l.length cap] 24) (.cells #[.slice ba bs.length bc, .slice ca C.length cc] 28) (.cells #[.int .i64 x] 3)).1
  have hg1 := (top3 w (.cells #[.int .i64 N, .slice a l.length cap] 24) (.cells #[.slice ba bs.length bc, .slice ca C.length cc] 28) (.cells #[.int .i64 x] 3)).2.1
  have hg2 := (top3 w (.cells #[.int .i64 N, .slice a l.length cap] 24) (.cells #[.slice ba bs.length bc, .slice ca C.length cc] 28) (.cells #[.int .i64 x] 3)).2.2.1
  have hsz := (top3 w (.cells #[.int .i64 N, .slice a l.length cap] 24) (.cells #[.slice ba bs.length bc, .slice ca C.length cc] 28) (.cells #[.int .i64 x] 3)).2.2.2.2
  obtain ⟨⟨a0, a1⟩, _⟩ := two_cells hg0
  obtain ⟨⟨a2, a3⟩, _⟩ := two_cells hg1
  have a4 := cell_of_one hg2
  have HB0 := Lib.hid hb0
  have HG0 := Lib.hid hg0
  have HG1 := Lib.hid hg1
  have HG2 := Lib.hid hg2
  have HLK := Lib.hid (ceLook_any N a l cap ba bs bc ca C cc k x _ hl hbl (hr.on hb0) (hi.on hb0) (hR.on hb0))
  obtain ⟨E, HE⟩ := named (inE N l bs (csl C) k x)
  have HEE := HE
  rw [HE.out] at HLK
  clear HE
  by_cases h1 : E = 0
  · subst h1
    obtain ⟨hNR, j, q, rfl, hj, rfl, hq⟩ := inE_zero HEE.out
    have hcl : C.length = bs.length := by have := hNR.2.2.2.1; rw [csl_len] at this; exact this
    have hjC : j < C.length := by omega
    obtain ⟨hlv, hty, _, _⟩ := hNR.lv hj
    rw [csl_at] at hlv hty
    have hC0 : chkE ((cl C j).xs.length : Nat) l = 0 := by rw [hlv]; exact hNR.1
    have hN : N = ((cl C j).xs.length : Nat) := hlv.symm
    have hL : (cl C j).xs.length ≤ 1024 := by have := (chk_zero hC0).2.1; omega
    have hl8 : l.length ≤ 8192 := (chk_zero hC0).2.2.1
    have ej : ((j : Int) + 1).toNat - 1 = j := by omega
    have HBE : Hid (btE N l bs (csl C) ((j : Int) + 1) (q : Int) = if (j : Int) + 1 = 1 then 111 else 0) := by show _ = _; unfold btE; rw [if_neg (by rw [HEE.out]; simp)]
    by_cases hj0 : j = 0
    · subst hj0
      have HB9 : Hid (btE N l bs (csl C) (((0 : Nat) : Int) + 1) (q : Int) = 111) := HBE.out.trans (if_pos rfl)
      have HV0 : Hid (btV N l bs (csl C) (((0 : Nat) : Int) + 1) (q : Int) = []) := by show _ = _; unfold btV; rw [if_neg (by rw [HB9.out]; decide)]
      rw [HV0.out, HB9.out]
      clear HV0 HB9 HBE
      have HV0 : Hid (hld (cl C 0).xs (q : Int) = hld (cl C 0).xs (q : Int)) := rfl
      have HL := Lib.hid (HLK.out.mono (fun e w' h => (⟨h.1 rfl, h.2.2⟩ : e = .returned (.tuple #[.slice (cl C ((((0 : Nat) : Int) + 1).toNat - 1)).a (cl C ((((0 : Nat) : Int) + 1).toNat - 1)).xs.length (cl C ((((0 : Nat) : Int) + 1).toNat - 1)).c, .int .i64 0]) ∧ _)))
      rw [ej] at HL
      obtain ⟨L, va, vc, HLL, HVA, HVC⟩ : ∃ L va vc, Hid ((cl C 0).xs = L) ∧ Hid ((cl C 0).a = va) ∧ Hid ((cl C 0).c = vc) := ⟨_, _, _, rfl, rfl, rfl⟩
      rw [HLL.out] at hC0 hL HL hN HV0
      rw [HVA.out, HVC.out] at HL
      have HIL : Hid (Ints w va L) := by have := (hR.2 0 hjC).1; rw [HLL.out, HVA.out] at this; exact this
      have HC0 := Lib.hid hC0
      obtain ⟨m, HM⟩ := named L.length
      rw [HM.out] at HL hN hL
      subst hN
      have HRA := Lib.hid hr
      have e11 : (((0 : Nat) : Int) + 1 == 1) = true := by simp
      clear hR hNR
      have hmf : ∀ (fn : Fn) (first cap : Array Value) (w : World), (Instr.makeFunc fn first cap).run Try.prog w = .ok (.func fn first cap) w := fun _ _ _ _ => rfl
      clear hr hi hb0 HEE HLK HV0 hcl hlv hty hC0
      generalize hp : w.heap.size = p at *
      go_enter Try.func22, Try.ntmps22
      go_wp2_with fail
      generalize hW : (((w.alloc (.cells #[.int .i64 m, .slice a l.length cap] 24)).alloc (.cells #[.slice ba bs.length bc, .slice ca C.length cc] 28)).alloc (.cells #[.int .i64 q] 3)) = W at *
      clear hW
      refine HL.out.mono ?_
      rintro e w1 ⟨rfl, hb1⟩
      have HB1 : Hid (Below p w w1) := HB0.out.trans (hb1.mono (by omega))
      obtain ⟨⟨k0, k1⟩, _⟩ := two_cells (((hb1.block p (by omega)).trans HG0.out))
      obtain ⟨⟨k2, k3⟩, _⟩ := two_cells (((hb1.block (p + 1) (by omega)).trans HG1.out))
      have k4 := cell_of_one ((hb1.block (p + 1 + 1) (by omega)).trans HG2.out)
      have hw1 : p + 2 < w1.heap.size := by have := hb1.size; omega
      have HB2 : Hid (Below p w (w1.alloc (.cells #[.slice va m vc] 80))) := HB1.out.alloc (by omega) _
      have HG3 := Lib.hid (heap_top w1 (.cells #[.slice va m vc] 80))
      have j0 : (w1.alloc (.cells #[.slice va m vc] 80)).cell? ⟨p, 0, none⟩ = some (.int .i64 m) := (World.cell?_of_block (w := w1) (a := ⟨p, 0, none⟩) (Below.heap_alloc _ _ _ (by show p < _; omega))).trans k0
      have j1 : (w1.alloc (.cells #[.slice va m vc] 80)).cell? ⟨p, 1, none⟩ = some (.slice a l.length cap) := (World.cell?_of_block (w := w1) (a := ⟨p, 1, none⟩) (Below.heap_alloc _ _ _ (by show p < _; omega))).trans k1
      have j3 : (w1.alloc (.cells #[.slice va m vc] 80)).cell? ⟨p + 1, 1, none⟩ = some (.slice ca C.length cc) := (World.cell?_of_block (w := w1) (a := ⟨p + 1, 1, none⟩) (Below.heap_alloc _ _ _ (by show p + 1 < _; omega))).trans k3
      have HK4 : Hid ((w1.alloc (.cells #[.slice va m vc] 80)).cell? ⟨p + 1 + 1, 0, none⟩ = some (.int .i64 q)) := (World.cell?_of_block (w := w1) (a := ⟨p + 1 + 1, 0, none⟩) (Below.heap_alloc _ _ _ (by show p + 1 + 1 < _; omega))).trans k4
      have j5 := cell_of_one HG3.out
      clear a0 a1 a2 a3 a4 hb1 HL hg0 hg1 hg2 HB0 HG0 HG1 HG2 k0 k1 k2 k3 k4
      go_wp2_with fail
      go_ret2
      exact ⟨none, rfl, Or.inl ⟨rfl, rfl⟩, HB2.out⟩
    · obtain ⟨i0, rfl⟩ : ∃ i0, j = i0 + 1 := ⟨j - 1, by omega⟩
      have HB9 : Hid (btE N l bs (csl C) (((i0 + 1 : Nat) : Int) + 1) (q : Int) = 0) := HBE.out.trans (if_neg (by omega))
      have ei : (((i0 + 1 : Nat) : Int) + 1).toNat - 2 = i0 := by omega
      have HV0 : Hid (btV N l bs (csl C) (((i0 + 1 : Nat) : Int) + 1) (q : Int) = arL l (btP (cl C (i0 + 1)).xs (cl C i0).xs (q : Int))) := by show _ = _; unfold btV; rw [if_pos HB9.out, ej, ei, csl_at, csl_at]
      rw [HV0.out, HB9.out]
      clear HB9 HBE ei
      have hiC : i0 < C.length := by omega
      obtain ⟨hlv2, _, _, _⟩ := hNR.lv (show i0 < bs.length by omega)
      rw [csl_at] at hlv2
      have hML : (cl C i0).xs.length = (cl C (i0 + 1)).xs.length := by omega
      obtain ⟨M, da, dc, HMM, HDA, HDC⟩ : ∃ M da dc, Hid ((cl C i0).xs = M) ∧ Hid ((cl C i0).a = da) ∧ Hid ((cl C i0).c = dc) := ⟨_, _, _, rfl, rfl, rfl⟩
      have HIM : Hid (Ints w da M) := by have := (hR.2 i0 hiC).1; rw [HMM.out, HDA.out] at this; exact this
      rw [HMM.out] at HV0 hML
      rw [HMM.out]
      obtain ⟨bx, ox, hbx⟩ := hR.get
      obtain ⟨rfl, hbl2, hcell⟩ := hbx (by omega)
      have d0 := hcell i0 hiC
      unfold Cl.val at d0
      have h5 : bs.length ≤ 5 := hNR.2.2.1
      have HL := Lib.hid (HLK.out.mono (fun e w' h => (⟨h.1 rfl, h.2.2⟩ : e = .returned (.tuple #[.slice (cl C ((((i0 + 1 : Nat) : Int) + 1).toNat - 1)).a (cl C ((((i0 + 1 : Nat) : Int) + 1).toNat - 1)).xs.length (cl C ((((i0 + 1 : Nat) : Int) + 1).toNat - 1)).c, .int .i64 0]) ∧ _)))
      rw [ej] at HL
      obtain ⟨L, va, vc, HLL, HVA, HVC⟩ : ∃ L va vc, Hid ((cl C (i0 + 1)).xs = L) ∧ Hid ((cl C (i0 + 1)).a = va) ∧ Hid ((cl C (i0 + 1)).c = vc) := ⟨_, _, _, rfl, rfl, rfl⟩
      rw [HLL.out] at hC0 hL HL hN HV0
      rw [HLL.out]
      rw [HVA.out, HVC.out] at HL
      have HIL : Hid (Ints w va L) := by have := (hR.2 (i0 + 1) hjC).1; rw [HLL.out, HVA.out] at this; exact this
      have HC0 := Lib.hid hC0
      obtain ⟨m, HM⟩ := named L.length
      rw [HM.out] at HL hN hL
      subst hN
      have HRA := Lib.hid hr
      rw [HLL.out] at hML
      rw [HMM.out, HDA.out, HDC.out, hML, HM.out] at d0
      have HMLm : Hid (M.length = m) := by show _ = _; rw [hML, HM.out]
      have HD0 := Lib.hid d0
      have e11 : (((i0 + 1 : Nat) : Int) + 1 == 1) = false := by simp; omega
      have e12 : (((i0 + 1 : Nat) : Int) + 1 - 2) = i0 := by omega
      have hi' : (i0 : Int) < C.length := by omega
      have hC5 : C.length ≤ 5 := by omega
      clear hR hNR d0 hcell hbx hlv2 hML
      have hmf : ∀ (fn : Fn) (first cap : Array Value) (w : World), (Instr.makeFunc fn first cap).run Try.prog w = .ok (.func fn first cap) w := fun _ _ _ _ => rfl
      clear hr hi hb0 HEE HLK HV0 hcl hlv hty hC0
      generalize hp : w.heap.size = p at *
      go_enter Try.func22, Try.ntmps22
      go_wp2_with fail
      generalize hW : (((w.alloc (.cells #[.int .i64 m, .slice a l.length cap] 24)).alloc (.cells #[.slice ba bs.length bc, .slice (some ⟨bx, ox, none⟩) C.length cc] 28)).alloc (.cells #[.int .i64 q] 3)) = W at *
      clear hW
      refine HL.out.mono ?_
      rintro e w1 ⟨rfl, hb1⟩
      have HB1 : Hid (Below p w w1) := HB0.out.trans (hb1.mono (by omega))
      obtain ⟨⟨k0, k1⟩, _⟩ := two_cells (((hb1.block p (by omega)).trans HG0.out))
      obtain ⟨⟨k2, k3⟩, _⟩ := two_cells (((hb1.block (p + 1) (by omega)).trans HG1.out))
      have k4 := cell_of_one ((hb1.block (p + 1 + 1) (by omega)).trans HG2.out)
      have hw1 : p + 2 < w1.heap.size := by have := hb1.size; omega
      have HB2 : Hid (Below p w (w1.alloc (.cells #[.slice va m vc] 80))) := HB1.out.alloc (by omega) _
      have HG3 := Lib.hid (heap_top w1 (.cells #[.slice va m vc] 80))
      have j0 : (w1.alloc (.cells #[.slice va m vc] 80)).cell? ⟨p, 0, none⟩ = some (.int .i64 m) := (World.cell?_of_block (w := w1) (a := ⟨p, 0, none⟩) (Below.heap_alloc _ _ _ (by show p < _; omega))).trans k0
      have j1 : (w1.alloc (.cells #[.slice va m vc] 80)).cell? ⟨p, 1, none⟩ = some (.slice a l.length cap) := (World.cell?_of_block (w := w1) (a := ⟨p, 1, none⟩) (Below.heap_alloc _ _ _ (by show p < _; omega))).trans k1
      have j3 : (w1.alloc (.cells #[.slice va m vc] 80)).cell? ⟨p + 1, 1, none⟩ = some (.slice (some ⟨bx, ox, none⟩) C.length cc) := (World.cell?_of_block (w := w1) (a := ⟨p + 1, 1, none⟩) (Below.heap_alloc _ _ _ (by show p + 1 < _; omega))).trans k3
      have HK4 : Hid ((w1.alloc (.cells #[.slice va m vc] 80)).cell? ⟨p + 1 + 1, 0, none⟩ = some (.int .i64 q)) := (World.cell?_of_block (w := w1) (a := ⟨p + 1 + 1, 0, none⟩) (Below.heap_alloc _ _ _ (by show p + 1 + 1 < _; omega))).trans k4
      have j5 := cell_of_one HG3.out
      clear a0 a1 a2 a3 a4 hb1 HL hg0 hg1 hg2 HB0 HG0 HG1 HG2 k0 k1 k2 k3 k4
      have y0 : (w1.alloc (.cells #[.slice va m vc] 80)).cell? ⟨bx, ox + i0, none⟩ = some (.slice da m dc) := (HB2.out.cell (p := ⟨bx, ox + i0, none⟩) (hp ▸ hbl2)).trans HD0.out
      have hv1 : (w1.alloc (.cells #[.slice va m vc] 80)).heap.size = w1.heap.size + 1 := by simp
      have HJ0 := Lib.hid j0
      have HJ1 := Lib.hid j1
      have V2 : Below p w ((w1.alloc (.cells #[.slice va m vc] 80)).alloc (.cells #[.slice da m dc] 80)) := HB2.out.alloc (by omega) _
      have HV2 := Lib.hid V2
      have HVV : Hid (Below (w1.alloc (.cells #[.slice va m vc] 80)).heap.size (w1.alloc (.cells #[.slice va m vc] 80)) ((w1.alloc (.cells #[.slice va m vc] 80)).alloc (.cells #[.slice da m dc] 80))) := (Below.refl _ _).alloc (Nat.le_refl _) _
      have HG5 := Lib.hid (heap_top (w1.alloc (.cells #[.slice va m vc] 80)) (.cells #[.slice da m dc] 80))
      rw [hv1] at HG5
      have f0 := (HVV.out.cell (p := ⟨p, 0, none⟩) (by show p < _; omega)).trans HJ0.out
      have f1 := (HVV.out.cell (p := ⟨p, 1, none⟩) (by show p < _; omega)).trans HJ1.out
      have HF4 : Hid (((w1.alloc (.cells #[.slice va m vc] 80)).alloc (.cells #[.slice da m dc] 80)).cell? ⟨p + 1 + 1, 0, none⟩ = some (.int .i64 q)) := (HVV.out.cell (p := ⟨p + 1 + 1, 0, none⟩) (by show p + 1 + 1 < _; omega)).trans HK4.out
      have HF3 : Hid (((w1.alloc (.cells #[.slice va m vc] 80)).alloc (.cells #[.slice da m dc] 80)).cell? ⟨w1.heap.size, 0, none⟩ = some (.slice va m vc)) := (HVV.out.cell (p := ⟨w1.heap.size, 0, none⟩) (by show w1.heap.size < _; omega)).trans (cell_of_one HG3.out)
      have hv2 : ((w1.alloc (.cells #[.slice va m vc] 80)).alloc (.cells #[.slice da m dc] 80)).heap.size = w1.heap.size + 2 := by simp
      clear HD0 V2 HVV
      go_wp2_with fail
      generalize hV : (w1.alloc (.cells #[.slice va m vc] 80)).alloc (.cells #[.slice da m dc] 80) = V at *
      clear hV
      refine (cArcsB_any m (.pointer (some ⟨w1.heap.size, 0, none⟩)) (.pointer (some ⟨p + 1 + 1, 0, none⟩)) (.pointer (some ⟨w1.heap.size + 1, 0, none⟩)) a l cap (btP L M q) V hl8 (HRA.out.on (hp ▸ HV2.out)) (fun i hi W2 hb => ?_)).mono ?_
      · have hbw : Below p w W2 := HV2.out.trans (hb.mono (by omega))
        have hvz := hb.size
        refine ceW1_any w1.heap.size (p + 1 + 1) (w1.heap.size + 1) va L vc da M dc q _ W2 (chk_in HC0.out hi) (by rw [HM.out]; exact hL) (by rw [HMLm.out, HM.out]) ?_ ((hb.cell (p := ⟨p + 1 + 1, 0, none⟩) (by show p + 1 + 1 < _; omega)).trans HF4.out) ?_ (HIL.out.on (hp ▸ hbw)) (HIM.out.on (hp ▸ hbw))
        · rw [HM.out]
          exact (hb.cell (p := ⟨w1.heap.size, 0, none⟩) (by show w1.heap.size < _; omega)).trans HF3.out
        · rw [HMLm.out]
          exact (hb.cell (p := ⟨w1.heap.size + 1, 0, none⟩) (by show w1.heap.size + 1 < _; omega)).trans (cell_of_one HG5.out)
      · rintro e w3 ⟨v, rfl, hrow, hb3⟩
        have HR3 := Lib.hid (hrow.base (C := p) (by omega))
        have HB3 : Hid (Below p w w3) := HV2.out.trans (hb3.mono (by omega))
        clear hrow hb3 j0 j1 f0 f1
        go_wp2_with fail
        go_ret2
        exact ⟨v, rfl, HR3.out, HB3.out⟩
  · have e1 : (E != 0) = true := by simpa using h1
    have HBE : Hid (btE N l bs (csl C) k x = E) := by show _ = _; unfold btE; rw [if_pos (by rw [HEE.out]; exact h1), HEE.out]
    have HV0 : Hid (btV N l bs (csl C) k x = []) := by show _ = _; unfold btV; rw [if_neg (by rw [HBE.out]; exact h1)]
    rw [HV0.out, HBE.out]
    have HL := Lib.hid (HLK.out.mono (fun e w' h => (⟨h.2.1 h1, h.2.2⟩ : e = .returned (.tuple #[.slice none 0 0, .int .i64 E]) ∧ _)))
    clear hr hi hR hb0 HEE HLK HV0 HBE
    generalize hp : w.heap.size = p at *
    go_enter Try.func22, Try.ntmps22
    go_wp2_with fail
    generalize hW : (((w.alloc (.cells #[.int .i64 N, .slice a l.length cap] 24)).alloc (.cells #[.slice ba bs.length bc, .slice ca C.length cc] 28)).alloc (.cells #[.int .i64 x] 3)) = W at *
    clear hW
    refine HL.out.mono ?_
    rintro e w1 ⟨rfl, hb1⟩
    have HB1 : Hid (Below p w w1) := HB0.out.trans (hb1.mono (by omega))
    clear a0 a1 a2 a3 a4 hb1 HL hg0 hg1 hg2 HB0 HG0 HG1 HG2
    have HB2 : Hid (Below p w (w1.alloc (.cells #[.slice none 0 0] 80))) := HB1.out.alloc (by have := HB1.out.size; omega) _
    go_wp2_with fail
    go_ret2
    exact ⟨none, rfl, Or.inl ⟨rfl, rfl⟩, HB2.out⟩
set_option maxRecDepth 100000 in
set_option maxHeartbeats 1600000 in
/-- Outer. -/
theorem outer_any (N : Int) (a : Option Addr) (l : List A) (cap : Nat) (ba : Option Addr) (bs : List Int) (bc : Nat) (ca : Option Addr) (C : List Cl) (cc : Nat) (k : Int) (w : World) (hl : l.length ≤ 9223372036854775807) (hbl : bs.length ≤ 9223372036854775807) (hr : Arcs w a l) (hi : Ints w ba bs) (hR : Rws w ca C) :
    Calls Try.prog 30 #[.agg #[.int .i64 N, .slice a l.length cap], .agg #[.slice ba bs.length bc, .slice ca C.length cc], .int .i64 k] w fun e w' => ∃ v, e = .returned (.tuple #[.slice v (ouV N l bs (csl C) k).length (ouV N l bs (csl C) k).length, .int .i64 (atE N l bs (csl C) k)]) ∧ RowI w' w.heap.size v (ints (ouV N l bs (csl C) k)) ∧ Below w.heap.size w w' := by
  have hb0 : Below w.heap.size w ((w.alloc (.cells #[.int .i64 N, .slice a l.length cap] 24)).alloc (.cells #[.slice ba bs.length bc, .slice ca C.length cc] 28)) := (top2 w _ _).2.2.1
  have hg0 := (top2 w (.cells #[.int .i64 N, .slice a l.length cap] 24) (.cells #[.slice ba bs.length bc, .slice ca C.length cc] 28)).1
  have hg1 := (top2 w (.cells #[.int .i64 N, .slice a l.length cap] 24) (.cells #[.slice ba bs.length bc, .slice ca C.length cc] 28)).2.1
  have hsz := (top2 w (.cells #[.int .i64 N, .slice a l.length cap] 24) (.cells #[.slice ba bs.length bc, .slice ca C.length cc] 28)).2.2.2
  obtain ⟨⟨a0, a1⟩, _⟩ := two_cells hg0
  obtain ⟨⟨a2, a3⟩, _⟩ := two_cells hg1
  have HB0 := Lib.hid hb0
  have HLK := Lib.hid (many_any N a l cap ba bs bc ca C cc k _ hl hbl (hr.on hb0) (hi.on hb0) (hR.on hb0))
  obtain ⟨E, HE⟩ := named (atE N l bs (csl C) k)
  have HEE := HE
  rw [HE.out] at HLK
  rw [HE.out]
  obtain ⟨mv, HMV⟩ := named (manyV N l bs (csl C) k)
  rw [HMV.out] at HLK
  clear HE HMV
  by_cases h1 : E = 0
  · subst h1
    obtain ⟨hNR, j, rfl, hj⟩ := atE_zero HEE.out
    have hcl : C.length = bs.length := by have := hNR.2.2.2.1; rw [csl_len] at this; exact this
    have hjC : j < C.length := by omega
    obtain ⟨hlv, hty, _, _⟩ := hNR.lv hj
    rw [csl_at] at hlv hty
    have hC0 : chkE ((cl C j).xs.length : Nat) l = 0 := by rw [hlv]; exact hNR.1
    have hN : N = ((cl C j).xs.length : Nat) := hlv.symm
    have hL : (cl C j).xs.length ≤ 1024 := by have := (chk_zero hC0).2.1; omega
    have hl8 : l.length ≤ 8192 := (chk_zero hC0).2.2.1
    have ej : ((j : Int) + 1).toNat - 1 = j := by omega
    have ej2 : (j : Int) + 1 - 1 = j := by omega
    have HV0 : Hid (ouV N l bs (csl C) ((j : Int) + 1) = arL l (prt (cl C j).xs)) := by show _ = _; unfold ouV; rw [if_pos HEE.out, ej, csl_at]
    rw [HV0.out]
    obtain ⟨bx, ox, hbx⟩ := hR.get
    obtain ⟨rfl, hbl2, hcell⟩ := hbx (by omega)
    have d0 := hcell j hjC
    unfold Cl.val at d0
    have h5 : bs.length ≤ 5 := hNR.2.2.1
    obtain ⟨L, va, vc, HLL, HVA, HVC⟩ : ∃ L va vc, Hid ((cl C j).xs = L) ∧ Hid ((cl C j).a = va) ∧ Hid ((cl C j).c = vc) := ⟨_, _, _, rfl, rfl, rfl⟩
    rw [HLL.out] at hC0 hL hN HV0 d0
    rw [HLL.out]
    rw [HVA.out, HVC.out] at d0
    have HIL : Hid (Ints w va L) := by have := (hR.2 j hjC).1; rw [HLL.out, HVA.out] at this; exact this
    have HC0 := Lib.hid hC0
    obtain ⟨m, HM⟩ := named L.length
    rw [HM.out] at hN hL d0
    subst hN
    have HRA := Lib.hid hr
    have HD0 := Lib.hid d0
    have HG0 := Lib.hid hg0
    have HG1 := Lib.hid hg1
    have hj' : (j : Int) < C.length := by omega
    have hj9 : (0 : Int) ≤ j := by omega
    have hC5 : C.length ≤ 5 := by omega
    have ewr : IntKind.i64.wrap ((j : Int) + 1 - 1) = j := by rw [IntKind.wrap_i64]; omega
    have ewr2 : IntKind.i64.wrap (j : Int) = j := by rw [IntKind.wrap_i64]; omega
    have hmf : ∀ (fn : Fn) (first cap : Array Value) (w : World), (Instr.makeFunc fn first cap).run Try.prog w = .ok (.func fn first cap) w := fun _ _ _ _ => rfl
    clear hr hi hb0 HEE HV0 hcl hlv hty hC0 hR hNR d0 hcell hbx
    generalize hp : w.heap.size = p at *
    go_enter Try.func30, Try.ntmps30
    go_wp2_with fail
    generalize hW : (w.alloc (.cells #[.int .i64 m, .slice a l.length cap] 24)).alloc (.cells #[.slice ba bs.length bc, .slice (some ⟨bx, ox, none⟩) C.length cc] 28) = W at *
    clear hW
    refine HLK.out.mono ?_
    rintro e w1 ⟨rfl, hb1⟩
    have HB1 : Hid (Below p w w1) := HB0.out.trans (hb1.mono (by omega))
    have hG0 := (hb1.block p (by omega)).trans HG0.out
    have hG1 := (hb1.block (p + 1) (by omega)).trans HG1.out
    obtain ⟨⟨k0, k1⟩, _⟩ := two_cells hG0
    obtain ⟨⟨k2, k3⟩, _⟩ := two_cells hG1
    have d0 := (HB1.out.cell (p := ⟨bx, ox + j, none⟩) (hp ▸ hbl2)).trans HD0.out
    have hw1 : p + 1 < w1.heap.size := by have := hb1.size; omega
    have HK0 := Lib.hid k0
    have HK1 := Lib.hid k1
    have HK3 := Lib.hid k3
    have HD1 := Lib.hid d0
    clear a0 a1 a2 a3 hb1 HLK hg0 hg1 HB0 HG0 HG1 HD0 hG0 hG1 k2
    have HBD : Hid (Below w1.heap.size w1 w1.drew) := (Below.refl _ _).drew
    have HCA : Hid (Calls Try.prog 54 #[.agg #[.int .i64 m, .slice a l.length cap], .func (.func 59) #[.slice va m vc] #[]] w1.drew fun e w' => ∃ v, e = .returned (.slice v (arL l (prt L)).length (arL l (prt L)).length) ∧ RowI w' w1.heap.size v (ints (arL l (prt L))) ∧ Below w1.heap.size w1 w') := by
      refine (cArcsO_any m (.slice va m vc) a l cap (prt L) w1.drew hl8 (HRA.out.on (hp ▸ HB1.out.trans (HBD.out.mono (by omega)))) (fun i hi W2 hb => ?_)).mono ?_
      · have hbw : Below p w W2 := HB1.out.trans ((HBD.out.trans hb).mono (by omega))
        have h := cePart_any va L vc (l.getD i A.zero) W2 (chk_in HC0.out hi) (by rw [HM.out]; exact hL) (HIL.out.on (hp ▸ hbw))
        rw [HM.out] at h
        exact h
      · rintro e w3 ⟨v, rfl, hrow, hb3⟩
        exact ⟨v, rfl, hrow, HBD.out.trans hb3⟩
    go_wp2_with fail
    go_region_held3 (fun w' => w'.cell? ⟨p, 0, none⟩ = some (.int .i64 m) ∧ w'.cell? ⟨p, 1, none⟩ = some (.slice a l.length cap) ∧ w'.cell? ⟨p + 1, 1, none⟩ = some (.slice (some ⟨bx, ox, none⟩) C.length cc) ∧ w'.cell? ⟨bx, ox + j, none⟩ = some (.slice va m vc)) (go_keep) ((go_at_call 54; refine HCA.out.mono ?_; rintro e w2 ⟨v, rfl, hrow, hb2⟩; have v0 := (hb2.cell (p := ⟨p, 0, none⟩) (by show p < _; omega)).trans HK0.out; have v1 := (hb2.cell (p := ⟨p, 1, none⟩) (by show p < _; omega)).trans HK1.out; have v2 := (hb2.cell (p := ⟨p + 1, 1, none⟩) (by show p + 1 < _; omega)).trans HK3.out; have v3 := (hb2.cell (p := ⟨bx, ox + j, none⟩) (by have := HB1.out.size; show bx < _; omega)).trans HD1.out; have HR2 := Lib.hid (hrow.base (C := p) (by omega)); have HB2 : Hid (Below p w w2) := HB1.out.trans (hb2.mono (by omega)); clear hb2 hrow))
    go_wp2_with fail
    go_ret2
    exact ⟨v, rfl, HR2.out, HB2.out⟩
  · have e1 : (E != 0) = true := by simpa using h1
    have HV0 : Hid (ouV N l bs (csl C) k = []) := by show _ = _; unfold ouV; rw [if_neg (by rw [HEE.out]; exact h1)]
    rw [HV0.out]
    clear hr hi hR hb0 HEE HV0
    generalize hp : w.heap.size = p at *
    go_enter Try.func30, Try.ntmps30
    go_wp2_with fail
    generalize hW : (w.alloc (.cells #[.int .i64 N, .slice a l.length cap] 24)).alloc (.cells #[.slice ba bs.length bc, .slice ca C.length cc] 28) = W at *
    clear hW
    refine HLK.out.mono ?_
    rintro e w1 ⟨rfl, hb1⟩
    have HB1 : Hid (Below p w w1) := HB0.out.trans (hb1.mono (by omega))
    clear a0 a1 a2 a3 hb1 HLK hg0 hg1 HB0
    go_wp2_with fail
    go_ret2
    exact ⟨none, rfl, Or.inl ⟨rfl, rfl⟩, HB1.out⟩
end Go.Proofs.Ytpmjbeiclmllmaa
namespace Go.Proofs
open Go.Shelf
def Try.laysNm237_ren : Go.Shelf.Ren := ⟨fun | 37 => 109 | n => n, fun | 3 => 3 | 4 => 4 | n => n, fun | n => n⟩
theorem Try.laysNm237 : Go.Proofs.Lays2.n37 Try.prog Try.laysNm237_ren := {
  mixed := by kernel_rfl
  f37 := Try.func109.trans (congrArg some (by kernel_rfl))
  t3 := Try.underlying3
  a3 := Try.isAgg3
  z3 := Try.sizeOf3
  v3 := Try.zeroValue3
  t4 := Try.underlying4
  a4 := Try.isAgg4
  z4 := Try.sizeOf4
  v4 := Try.zeroValue4 }
open Go.RowKit Go.Lib in
/-- cmp.isNaN[int]: 'x != x': false. (LAID: no walk: one application.) -/
theorem Try.cmp_isNaN_int2 (x : Int) (w : World) :
    Calls Try.prog 109 #[.int .i64 x] w fun e w' => e = .returned (.bool false) ∧ w' = w := Any.cmp_isNaN_int2 Try.laysNm237 x w
def Try.laysNm232_ren : Go.Shelf.Ren := ⟨fun | 32 => 87 | n => n, fun | 3 => 3 | 4 => 4 | n => n, fun | n => n⟩
theorem Try.laysNm232 : Go.Proofs.Lays2.n32 Try.prog Try.laysNm232_ren := {
  mixed := by kernel_rfl
  f32 := Try.func87.trans (congrArg some (by kernel_rfl))
  t3 := Try.underlying3
  a3 := Try.isAgg3
  z3 := Try.sizeOf3
  v3 := Try.zeroValue3
  t4 := Try.underlying4
  a4 := Try.isAgg4
  z4 := Try.sizeOf4
  v4 := Try.zeroValue4 }
open Go.RowKit Go.Lib in
/-- slices.isNaN[int]: 'x != x': false. (LAID: no walk: one application.) -/
theorem Try.slices_isNaN_int2 (x : Int) (w : World) :
    Calls Try.prog 87 #[.int .i64 x] w fun e w' => e = .returned (.bool false) ∧ w' = w := Any.slices_isNaN_int2 Try.laysNm232 x w
def Try.laysNm231_ren : Go.Shelf.Ren := ⟨fun | 31 => 86 | 37 => 109 | n => n, fun | 3 => 3 | 4 => 4 | n => n, fun | n => n⟩
theorem Try.laysNm231 : Go.Proofs.Lays2.n31 Try.prog Try.laysNm231_ren := {
  mixed := by kernel_rfl
  f31 := Try.func86.trans (congrArg some (by kernel_rfl))
  f37 := Try.func109.trans (congrArg some (by kernel_rfl))
  t3 := Try.underlying3
  a3 := Try.isAgg3
  z3 := Try.sizeOf3
  v3 := Try.zeroValue3
  t4 := Try.underlying4
  a4 := Try.isAgg4
  z4 := Try.sizeOf4
  v4 := Try.zeroValue4 }
open Go.RowKit Go.Lib in
/-- cmp.Less[int]: "Less reports whether x is less than y.": 'x < y'; the world is as it was. (LAID: no walk: one application.) -/
theorem Try.cmp_Less_int2 (x y : Int) (w : World) :
    Calls Try.prog 86 #[.int .i64 x, .int .i64 y] w fun e w' => e = .returned (.bool (decide (x < y))) ∧ w' = w := Any.cmp_Less_int2 Try.laysNm231 x y w
def Try.laysNm225_ren : Go.Shelf.Ren := ⟨fun | 25 => 52 | 31 => 86 | 32 => 87 | 37 => 109 | n => n, fun | 22 => 25 | 3 => 3 | 4 => 4 | 40 => 126 | 0 => 0 | n => n, fun | n => n⟩
theorem Try.laysNm225 : Go.Proofs.Lays2.n25 Try.prog Try.laysNm225_ren := {
  mixed := by kernel_rfl
  f25 := Try.func52.trans (congrArg some (by kernel_rfl))
  f31 := Try.func86.trans (congrArg some (by kernel_rfl))
  f32 := Try.func87.trans (congrArg some (by kernel_rfl))
  f37 := Try.func109.trans (congrArg some (by kernel_rfl))
  t0 := Try.underlying0
  a0 := Try.isAgg0
  z0 := Try.sizeOf0
  v0 := Try.zeroValue0
  t3 := Try.underlying3
  a3 := Try.isAgg3
  z3 := Try.sizeOf3
  v3 := Try.zeroValue3
  t4 := Try.underlying4
  a4 := Try.isAgg4
  z4 := Try.sizeOf4
  v4 := Try.zeroValue4
  t22 := Try.underlying25
  a22 := Try.isAgg25
  z22 := Try.sizeOf25
  v22 := Try.zeroValue25
  t40 := Try.underlying126
  a40 := Try.isAgg126
  z40 := Try.sizeOf126
  v40 := Try.zeroValue126 }
open Go.RowKit Go.Lib in
/-- slices.BinarySearch at []int: "BinarySearch searches for target in a sorted slice and returns the earliest position where target is found, or the position where target would appear in the sort order; it also returns a bool saying whether the target is really found in the slice. The slice must be sorted in increasing order.": OF A SORTED SLICE IT RETURNS how many elements are less than the target, and whether the target is among the elements; the world is as it was but for the count of draws. 'zs': what the cells behind the slice's address hold; 'zs.take n': its elements. (Of a slice that is not sorted: no contract here.) (LAID: no walk: one application.) -/
theorem Try.slices_BinarySearch_int (b off n c : Nat) (zs : List Int) (x : Int) (w : World) (hz : n ≤ zs.length) (hbig : n < 4611686018427387904) (hc : ∀ j, j < zs.length → w.cell? ⟨b, off + j, none⟩ = some (.int .i64 (zs.getD j 0))) (hs : (zs.take n).Pairwise (· ≤ ·)) :
    Calls Try.prog 52 #[.slice (some ⟨b, off, none⟩) n c, .int .i64 x] w fun e w' => e = .returned (.tuple #[.int .i64 ((zs.take n).countP (· < x) : Nat), .bool ((zs.take n).contains x)]) ∧ ∃ q, w' = w.drewN q := Any.slices_BinarySearch_int Try.laysNm225 b off n c zs x w hz hbig hc hs
end Go.Proofs
namespace Go.Proofs.Ytpmjbeiclmllmaa
open Go.RowKit
def wl : List A := [⟨0, 1, 0⟩, ⟨1, 2, 0⟩, ⟨0, 2, 0⟩]
abbrev wO : Obj := .cells #[.int .i64 0, .int .i64 1, .int .u32 0, .int .i64 1, .int .i64 2, .int .u32 0, .int .i64 0, .int .i64 2, .int .u32 0] 56
theorem wl_arcs {w : World} {b : Nat} (h : w.heap[b]? = some wO) : Arcs w (some ⟨b, 0, none⟩) wl := by
  refine .inr ⟨b, 0, rfl, lt_of_block h, fun j hj => ?_⟩
  have hj : j = 0 ∨ j = 1 ∨ j = 2 := by have : wl.length = 3 := rfl; omega
  rcases hj with rfl | rfl | rfl <;> exact ⟨by simp [World.cell?, h]; rfl, by simp [World.cell?, h]; rfl, by simp [World.cell?, h]; rfl⟩
theorem ints_block {w : World} {b : Nat} {xs : List Int} {t : TypeId} (h : w.heap[b]? = some (.cells (cellsI xs).toArray t (0, 0))) : Ints w (some ⟨b, 0, none⟩) xs := by
  by_cases h0 : xs = []
  · exact .inl h0
  · refine .inr ⟨b, 0, rfl, lt_of_block h, fun j hj => ?_⟩
    simp [World.cell?, h, cellsI, List.getD, hj]
theorem al6 (w : World) (o0 o1 o2 o3 o4 o5 : Obj) : ∀ W, W = (((((w.alloc o0).alloc o1).alloc o2).alloc o3).alloc o4).alloc o5 → W.heap[w.heap.size]? = some o0 ∧ W.heap[w.heap.size + 1]? = some o1 ∧ W.heap[w.heap.size + 2]? = some o2 ∧ W.heap[w.heap.size + 3]? = some o3 ∧ W.heap[w.heap.size + 4]? = some o4 ∧ W.heap[w.heap.size + 5]? = some o5 ∧ Below w.heap.size w W ∧ W.heap.size = w.heap.size + 6 := by
  rintro W rfl
  have h3 := top3 w o0 o1 o2
  have h4 := top3 (((w.alloc o0).alloc o1).alloc o2) o3 o4 o5
  generalize ((w.alloc o0).alloc o1).alloc o2 = V at *
  obtain ⟨a0, a1, a2, a3, a4⟩ := h3
  obtain ⟨b0, b1, b2, b3, b4⟩ := h4
  rw [a4] at b0 b1 b2 b4
  exact ⟨(b3.block _ (lt_of_block a0)).trans a0, (b3.block _ (lt_of_block a1)).trans a1, (b3.block _ (lt_of_block a2)).trans a2, b0, b1, b2, a3.trans (b3.mono (by omega)), by omega⟩
def wC (p : Nat) : List Cl := [⟨some ⟨p, 0, none⟩, 3, [0, 0, 1]⟩]
theorem wC_rws {w : World} {b p : Nat} (h : w.heap[b]? = some (.cells #[.slice (some ⟨p, 0, none⟩) 3 3] 25)) (h2 : w.heap[p]? = some (.cells #[.int .i64 0, .int .i64 0, .int .i64 1] 3)) : Rws w (some ⟨b, 0, none⟩) (wC p) := by
  refine ⟨.inr ⟨b, 0, rfl, lt_of_block h, fun j hj => ?_⟩, fun j hj => ?_⟩
  · obtain rfl : j = 0 := by have : (wC p).length = 1 := rfl; omega
    simp [World.cell?, h]; rfl
  · obtain rfl : j = 0 := by have : (wC p).length = 1 := rfl; omega
    exact ⟨ints_block (xs := [0, 0, 1]) h2, by show 3 ≤ 9223372036854775807; decide⟩
theorem w_bd (p : Nat) : bdV 3 wl [2] (csl (wC p)) 1 0 = [0, 1] ∧ inE 3 wl [2] (csl (wC p)) 1 0 = 0 := by
  show bdV 3 wl [2] [[0, 0, 1]] 1 0 = [0, 1] ∧ inE 3 wl [2] [[0, 0, 1]] 1 0 = 0
  decide
theorem w_ou (p : Nat) : ouV 3 wl [2] (csl (wC p)) 1 = [1, 2] ∧ atE 3 wl [2] (csl (wC p)) 1 = 0 := by
  show ouV 3 wl [2] [[0, 0, 1]] 1 = [1, 2] ∧ atE 3 wl [2] [[0, 0, 1]] 1 = 0
  decide
set_option maxRecDepth 100000 in
set_option maxHeartbeats 1600000 in
theorem works_any (w : World) : Calls Try.prog 12 #[] w fun e w' => e = .returned (.bool true) ∧ Below w.heap.size w w' := by
  have h6 := al6 w (.cells #[.int .i64 0, .int .i64 1, .int .u32 0, .int .i64 1, .int .i64 2, .int .u32 0, .int .i64 0, .int .i64 2, .int .u32 0] 56) (.cells #[.int .i64 3, .slice (some ⟨w.heap.size, 0, none⟩) 3 3] 24) (.cells #[.int .i64 2] 3) (.cells #[.int .i64 0, .int .i64 0, .int .i64 1] 3) (.cells #[.slice (some ⟨w.heap.size + 1 + 1 + 1, 0, none⟩) 3 3] 25) (.cells #[.slice (some ⟨w.heap.size + 1 + 1, 0, none⟩) 1 1, .slice (some ⟨w.heap.size + 1 + 1 + 1 + 1, 0, none⟩) 1 1] 28) _ rfl
  generalize hp : w.heap.size = p at *
  obtain ⟨hA, hG, hBs, hC, hR, hN, hB, hz⟩ := h6
  obtain ⟨⟨g0, g1⟩, _⟩ := two_cells hG
  obtain ⟨⟨n0, n1⟩, _⟩ := two_cells hN
  have HAR := Lib.hid (wl_arcs hA)
  have HBS := Lib.hid (ints_block (xs := [2]) hBs)
  have HRW := Lib.hid (wC_rws hR hC)
  have HGG := Lib.hid hG
  have HNN := Lib.hid hN
  have HB0 := Lib.hid hB
  clear hA hG hBs hC hR hN hB
  go_enter Try.func12, Try.ntmps12
  go_wp2_with fail
  generalize hW : ((((((w.alloc (.cells #[.int .i64 0, .int .i64 1, .int .u32 0, .int .i64 1, .int .i64 2, .int .u32 0, .int .i64 0, .int .i64 2, .int .u32 0] 56)).alloc (.cells #[.int .i64 3, .slice (some ⟨p, 0, none⟩) 3 3] 24)).alloc (.cells #[.int .i64 2] 3)).alloc (.cells #[.int .i64 0, .int .i64 0, .int .i64 1] 3)).alloc (.cells #[.slice (some ⟨p + 1 + 1 + 1, 0, none⟩) 3 3] 25)).alloc (.cells #[.slice (some ⟨p + 1 + 1, 0, none⟩) 1 1, .slice (some ⟨p + 1 + 1 + 1 + 1, 0, none⟩) 1 1] 28)) = W at *
  clear hW
  have HBD := Lib.hid (boundary_any 3 (some ⟨p, 0, none⟩) wl 3 (some ⟨p + 1 + 1, 0, none⟩) [2] 1 (some ⟨p + 1 + 1 + 1 + 1, 0, none⟩) (wC (p + 3)) 1 1 0 W (by decide) (by decide) HAR.out HBS.out HRW.out)
  rw [(w_bd (p + 3)).1, (w_bd (p + 3)).2] at HBD
  refine HBD.out.mono ?_
  rintro e w1 ⟨v1, rfl, hrow1, hb1⟩
  have HR1 := Lib.hid hrow1.ints
  have HB1 : Hid (Below p w w1) := HB0.out.trans (hb1.mono (by omega))
  obtain ⟨⟨x0, x1⟩, _⟩ := two_cells ((hb1.block (p + 1) (by omega)).trans HGG.out)
  obtain ⟨⟨y0, y1⟩, _⟩ := two_cells ((hb1.block (p + 5) (by omega)).trans HNN.out)
  have HOU := Lib.hid (outer_any 3 (some ⟨p, 0, none⟩) wl 3 (some ⟨p + 1 + 1, 0, none⟩) [2] 1 (some ⟨p + 1 + 1 + 1 + 1, 0, none⟩) (wC (p + 3)) 1 1 w1 (by decide) (by decide) (HAR.out.on hb1) (HBS.out.on hb1) (HRW.out.on hb1))
  rw [(w_ou (p + 3)).1, (w_ou (p + 3)).2] at HOU
  have hz1 : p + 6 ≤ w1.heap.size := by have := hb1.size; omega
  clear HBD hrow1 hb1 g0 g1 n0 n1 HB0
  go_wp2_with fail
  refine HOU.out.mono ?_
  rintro e w2 ⟨v2, rfl, hrow2, hb2⟩
  have HR2 := Lib.hid hrow2.ints
  have HR3 := Lib.hid (HR1.out.on hb2)
  have HB2 : Hid (Below p w w2) := HB1.out.trans (hb2.mono (by omega))
  have hz2 : p + 6 ≤ w2.heap.size := by have := hb2.size; omega
  clear HOU hrow2 hb2 x0 x1 y0 y1 HB1 HR1
  have hba : Below w2.heap.size w2 (w2.alloc (.cells #[.int .i64 0, .int .i64 1] 3)) := (Below.refl _ _).alloc (Nat.le_refl _) _
  have HS1 := Lib.hid (sameInts_any v1 (some ⟨w2.heap.size, 0, none⟩) 2 2 [0, 1] (w2.alloc (.cells #[.int .i64 0, .int .i64 1] 3)) (by decide) (HR3.out.on hba) (ints_block (xs := [0, 1]) (heap_top w2 (.cells #[.int .i64 0, .int .i64 1] 3))))
  have HBA := Lib.hid hba
  clear hba
  go_wp2_with fail
  refine HS1.out.mono ?_
  rintro e w3 ⟨rfl, hb3⟩
  have hb3' : Below w2.heap.size w2 w3 := HBA.out.trans (hb3.mono (by simp))
  have HB3 : Hid (Below p w w3) := HB2.out.trans (hb3'.mono (by omega))
  have HR4 := Lib.hid (HR2.out.on hb3')
  have hz3 : p + 6 ≤ w3.heap.size := by have := hb3'.size; omega
  clear HS1 HBA hb3 hb3' HB2 HR2 HR3
  have hba : Below w3.heap.size w3 (w3.alloc (.cells #[.int .i64 1, .int .i64 2] 3)) := (Below.refl _ _).alloc (Nat.le_refl _) _
  have HS2 := Lib.hid (sameInts_any v2 (some ⟨w3.heap.size, 0, none⟩) 2 2 [1, 2] (w3.alloc (.cells #[.int .i64 1, .int .i64 2] 3)) (by decide) (HR4.out.on hba) (ints_block (xs := [1, 2]) (heap_top w3 (.cells #[.int .i64 1, .int .i64 2] 3))))
  have HBA := Lib.hid hba
  clear hba
  go_wp2_with fail
  refine HS2.out.mono ?_
  rintro e w4 ⟨rfl, hb4⟩
  have HB4 : Hid (Below p w w4) := HB3.out.trans ((HBA.out.trans (hb4.mono (by simp))).mono (by omega))
  clear HS2 HBA hb4 HB3 HR4
  go_wp2_with fail
  go_ret
  exact ⟨rfl, HB4.out⟩
set_option maxRecDepth 100000 in
set_option maxHeartbeats 1600000 in
theorem has_any (a : Option Addr) (xs : List Int) (c : Nat) (q : Int) (w : World) (hx : xs.length ≤ 8192) (hi : Ints w a xs) :
    Calls Try.prog 34 #[.slice a xs.length c, .int .i64 q] w fun e w' => e = .returned (.bool (xs.contains q)) ∧ w' = w := by
  obtain ⟨ix, ox, hix⟩ := hi.get
  have HIX := Lib.hid hix
  clear hi hix
  obtain ⟨R, HR⟩ := named (xs.contains q)
  rw [HR.out]
  go_enter Try.func34, Try.ntmps34
  go_wp2_with fail
  go_loop [9] (fun i => ∃ (k : Nat), k ≤ xs.length ∧ i = .int .i64 k ∧ Hid ((xs.take k).contains q = false)) (fun i => xs.length - (intOf i).toNat)
  case atStart => exact ⟨0, Nat.zero_le _, rfl, by show _ = _; simp⟩
  case round =>
    obtain ⟨k, hk, rfl, HK⟩ := hrel
    by_cases hlk : k < xs.length
    · obtain ⟨rfl, hbl, hat⟩ := HIX.out (by omega)
      have hlk' : (k : Int) < xs.length := by omega
      have y0 := hat k hlk
      have HT := Lib.hid (take_snocI hlk)
      obtain ⟨y, HY⟩ := named (xs.getD k 0)
      rw [HY.out] at y0 HT
      clear hat
      by_cases h : y = q
      · have e1 : (y == q) = true := by simpa using h
        obtain rfl : R = true := by
          rw [← HR.out]
          have h3 : q ∈ xs.take (k + 1) := by rw [HT.out, h]; simp
          simpa using List.mem_of_mem_take h3
        go_wp2_with fail
        go_ret
        exact ⟨rfl, rfl⟩
      · have e1 : (y == q) = false := by simpa using h
        have HK2 : Hid ((xs.take (k + 1)).contains q = false) := by
          show _ = _
          rw [HT.out]
          have h3 : ¬ q ∈ xs.take k := by simpa using HK.out
          simp only [List.contains_eq_mem, List.mem_append, List.mem_singleton]
          exact decide_eq_false (fun h4 => h4.elim h3 (fun h5 => h h5.symm))
        clear h
        go_wp2_with fail
        exact ⟨⟨k + 1, by omega, by simp, HK2⟩, by simp [intOf]; omega⟩
    · obtain rfl : k = xs.length := by omega
      have hlk' : ¬ (xs.length : Int) < xs.length := by omega
      obtain rfl : R = false := by
        rw [← HR.out]
        have := HK.out
        rw [List.take_length] at this
        exact this
      go_wp2_with fail
      go_ret
      exact ⟨rfl, rfl⟩
end Go.Proofs.Ytpmjbeiclmllmaa
namespace Go.Proofs.Ytpmjbeiclmllmaa
open Go.RowKit
theorem cho_sorted (p : Nat → Bool) (n : Nat) : (cho p n).Pairwise (· < ·) := List.pairwise_lt_range.filter _
theorem ints_sorted {S : List Nat} (h : S.Pairwise (· < ·)) : (ints S).Pairwise (· ≤ ·) := by
  unfold ints
  rw [List.pairwise_map]
  exact h.imp (fun h => by omega)
set_option maxRecDepth 100000 in
theorem bsearch_nil (x : Int) (c : Nat) (w : World) : Calls Try.prog 52 #[.slice none 0 c, .int .i64 x] w fun e w' => e = .returned (.tuple #[.int .i64 0, .bool false]) ∧ w' = w := by
  go_enter Try.func52, Try.ntmps52
  go_wp2_with fail
  go_loop [7, 8] (fun i j => i = .int .i64 0 ∧ j = .int .i64 0) (fun _ _ => 0)
  case atStart => exact ⟨rfl, rfl⟩
  case round =>
    obtain ⟨rfl, rfl⟩ := hrel
    go_wp2_with fail
    go_ret2
    exact ⟨rfl, rfl⟩
/-- BinarySearch in a row of rising numbers. -/
theorem bsearch_any (v : Option Addr) (S : List Nat) (B : Nat) (x : Int) (w : World) (hS : S.Pairwise (· < ·)) (hn : S.length ≤ 8192) (hr : RowI w B v (ints S)) : Calls Try.prog 52 #[.slice v S.length S.length, .int .i64 x] w fun e w' => e = .returned (.tuple #[.int .i64 ((ints S).countP (· < x) : Nat), .bool ((ints S).contains x)]) ∧ Below w.heap.size w w' := by
  rcases hr with ⟨rfl, h0⟩ | ⟨g, cur, h1, h2, h3, h4⟩
  · have e0 : S = [] := by cases S with
      | nil => rfl
      | cons a r => simp [ints] at h0
    subst e0
    refine (bsearch_nil x 0 w).mono ?_
    rintro e w' ⟨rfl, rfl⟩
    exact ⟨rfl, Below.refl _ _⟩
  · subst h1
    have hi := RowI.ints (w := w) (B := B) (v := some ⟨g, 0, none⟩) (xs := ints S) (.inr ⟨g, cur, rfl, h2, h3, h4⟩)
    obtain ⟨b, o, hb⟩ := hi.get
    have h := Try.slices_BinarySearch_int g 0 S.length S.length (ints S) x w (by rw [ints_len]; exact Nat.le_refl _) (by omega) (fun j hj => by
      obtain ⟨e1, _, e3⟩ := hb (by omega)
      injection e1 with e1
      injection e1 with e1 e2
      subst e1
      subst e2
      exact e3 j hj) (by rw [List.take_of_length_le (by rw [ints_len]; exact Nat.le_refl _)]; exact ints_sorted hS)
    rw [List.take_of_length_le (by rw [ints_len]; exact Nat.le_refl _)] at h
    refine h.mono ?_
    rintro e w' ⟨rfl, q, rfl⟩
    exact ⟨rfl, below_drewN _ _ _⟩
def ixE (N : Int) (l : List A) (bs : List Int) (cs : List (List Int)) (k x v : Int) : Int := if inE N l bs cs k x ≠ 0 then inE N l bs cs k x else if (ints (bdV N l bs cs k x)).contains v then 0 else 5
def ixV (N : Int) (l : List A) (bs : List Int) (cs : List (List Int)) (k x v : Int) : Nat := if ixE N l bs cs k x v = 0 then (ints (bdV N l bs cs k x)).countP (· < v) else 0
theorem bd_sorted (N : Int) (l : List A) (bs : List Int) (cs : List (List Int)) (k x : Int) : (bdV N l bs cs k x).Pairwise (· < ·) := by
  unfold bdV
  split
  · exact cho_sorted _ _
  · exact List.Pairwise.nil
theorem bd_len {N : Int} {l : List A} {bs : List Int} {cs : List (List Int)} {k x : Int} : (bdV N l bs cs k x).length ≤ 1024 := by
  unfold bdV
  split
  · rename_i h
    have h1 := (chk_zero (inE_zero h).1.1).2.1
    have h2 := cho_len (bdP (lvl cs (k.toNat - 1)) l x) N.toNat
    unfold bdL
    omega
  · simp
set_option maxRecDepth 100000 in
set_option maxHeartbeats 1600000 in
theorem index_any (N : Int) (a : Option Addr) (l : List A) (cap : Nat) (ba : Option Addr) (bs : List Int) (bc : Nat) (ca : Option Addr) (C : List Cl) (cc : Nat) (k x v : Int) (w : World) (hl : l.length ≤ 9223372036854775807) (hbl : bs.length ≤ 9223372036854775807) (hr : Arcs w a l) (hi : Ints w ba bs) (hR : Rws w ca C) :
    Calls Try.prog 17 #[.agg #[.int .i64 N, .slice a l.length cap], .agg #[.slice ba bs.length bc, .slice ca C.length cc], .int .i64 k, .int .i64 x, .int .i64 v] w fun e w' => e = .returned (.tuple #[.int .i64 (ixV N l bs (csl C) k x v : Nat), .int .i64 (ixE N l bs (csl C) k x v)]) ∧ Below w.heap.size w w' := by
  have hb0 : Below w.heap.size w ((w.alloc (.cells #[.int .i64 N, .slice a l.length cap] 24)).alloc (.cells #[.slice ba bs.length bc, .slice ca C.length cc] 28)) := (top2 w _ _).2.2.1
  have hg0 := (top2 w (.cells #[.int .i64 N, .slice a l.length cap] 24) (.cells #[.slice ba bs.length bc, .slice ca C.length cc] 28)).1
  have hg1 := (top2 w (.cells #[.int .i64 N, .slice a l.length cap] 24) (.cells #[.slice ba bs.length bc, .slice ca C.length cc] 28)).2.1
  have hsz := (top2 w (.cells #[.int .i64 N, .slice a l.length cap] 24) (.cells #[.slice ba bs.length bc, .slice ca C.length cc] 28)).2.2.2
  obtain ⟨⟨a0, a1⟩, _⟩ := two_cells hg0
  obtain ⟨⟨a2, a3⟩, _⟩ := two_cells hg1
  have HB0 := Lib.hid hb0
  have HLK := Lib.hid (boundary_any N a l cap ba bs bc ca C cc k x _ hl hbl (hr.on hb0) (hi.on hb0) (hR.on hb0))
  have HBS := Lib.hid (bd_sorted N l bs (csl C) k x)
  have HBL : (bdV N l bs (csl C) k x).length ≤ 1024 := bd_len
  have HXE : Hid (ixE N l bs (csl C) k x v = if inE N l bs (csl C) k x ≠ 0 then inE N l bs (csl C) k x else if (ints (bdV N l bs (csl C) k x)).contains v then 0 else 5) := rfl
  have HXV : Hid (ixV N l bs (csl C) k x v = if ixE N l bs (csl C) k x v = 0 then (ints (bdV N l bs (csl C) k x)).countP (· < v) else 0) := rfl
  rw [HXV.out, HXE.out]
  clear HXV HXE
  obtain ⟨E, HE⟩ := named (inE N l bs (csl C) k x)
  rw [HE.out] at HLK
  rw [HE.out]
  clear HE
  obtain ⟨S, HS⟩ := named (bdV N l bs (csl C) k x)
  rw [HS.out] at HLK HBS HBL
  rw [HS.out]
  clear HS hr hi hR hb0
  generalize hp : w.heap.size = p at *
  by_cases h1 : E = 0
  · subst h1
    obtain ⟨b, HB⟩ := named ((ints S).contains v)
    obtain ⟨ct, HCT⟩ := named ((ints S).countP (· < v))
    rw [HB.out, HCT.out]
    rw [show (if (0 : Int) ≠ 0 then (0 : Int) else if b = true then 0 else 5) = (if b = true then 0 else 5) from if_neg (by simp)]
    go_enter Try.func17, Try.ntmps17
    go_wp2_with fail
    generalize hW : (w.alloc (.cells #[.int .i64 N, .slice a l.length cap] 24)).alloc (.cells #[.slice ba bs.length bc, .slice ca C.length cc] 28) = W at *
    clear hW
    refine HLK.out.mono ?_
    rintro e w1 ⟨va, rfl, hrow, hb1⟩
    have HB1 : Hid (Below p w w1) := HB0.out.trans (hb1.mono (by omega))
    have HSE := Lib.hid (bsearch_any va S _ v w1 HBS.out (by omega) hrow)
    rw [HB.out, HCT.out] at HSE
    have hw1 : p ≤ w1.heap.size := by have := HB1.out.size; omega
    clear a0 a1 a2 a3 hb1 HLK hg0 hg1 HB0 hrow HB HCT
    go_wp2_with fail
    refine HSE.out.mono ?_
    rintro e w2 ⟨rfl, hb2⟩
    have HB2 : Hid (Below p w w2) := HB1.out.trans (hb2.mono hw1)
    clear HSE hb2 HB1
    rcases b with _ | _
    · go_wp2_with fail
      go_ret2
      exact ⟨rfl, HB2.out⟩
    · go_wp2_with fail
      go_ret2
      exact ⟨rfl, HB2.out⟩
  · have e1 : (E != 0) = true := by simpa using h1
    rw [if_pos h1, if_neg h1]
    go_enter Try.func17, Try.ntmps17
    go_wp2_with fail
    generalize hW : (w.alloc (.cells #[.int .i64 N, .slice a l.length cap] 24)).alloc (.cells #[.slice ba bs.length bc, .slice ca C.length cc] 28) = W at *
    clear hW
    refine HLK.out.mono ?_
    rintro e w1 ⟨va, rfl, hrow, hb1⟩
    have HB1 : Hid (Below p w w1) := HB0.out.trans (hb1.mono (by omega))
    clear a0 a1 a2 a3 hb1 HLK hg0 hg1 HB0 hrow
    go_wp2_with fail
    go_ret2
    exact ⟨rfl, HB1.out⟩
end Go.Proofs.Ytpmjbeiclmllmaa
