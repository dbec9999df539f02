/-
  Contracts of Boundary, Inner, Outer, Between.
-/
import Derived.Test.YtpmjbeiclmllmaaCe5
namespace Go.Proofs.Ytpmjbeiclmllmaa
open Go.RowKit
def bdV (N : Int) (l : List A) (bs : List Int) (cs : List (List Int)) (k x : Int) : List Nat := if inE N l bs cs k x = 0 then bdL N.toNat (lvl cs (k.toNat - 1)) l x else []
def inV (N : Int) (l : List A) (bs : List Int) (cs : List (List Int)) (k x : Int) : List Nat := if inE N l bs cs k x = 0 then arL l (hld (lvl cs (k.toNat - 1)) x) else []
def btE (N : Int) (l : List A) (bs : List Int) (cs : List (List Int)) (k x : Int) : Int := if inE N l bs cs k x ≠ 0 then inE N l bs cs k x else if k = 1 then 111 else 0
def btV (N : Int) (l : List A) (bs : List Int) (cs : List (List Int)) (k x : Int) : List Nat := if btE N l bs cs k x = 0 then arL l (btP (lvl cs (k.toNat - 1)) (lvl cs (k.toNat - 2)) x) else []
def ouV (N : Int) (l : List A) (bs : List Int) (cs : List (List Int)) (k : Int) : List Nat := if atE N l bs cs k = 0 then arL l (prt (lvl cs (k.toNat - 1))) else []
set_option maxRecDepth 100000 in
set_option maxHeartbeats 1600000 in
/-- Inner. -/
theorem inner_any (N : Int) (a : Option Addr) (l : List A) (cap : Nat) (ba : Option Addr) (bs : List Int) (bc : Nat) (ca : Option Addr) (C : List Cl) (cc : Nat) (k x : Int) (w : World) (hl : l.length ≤ 9223372036854775807) (hbl : bs.length ≤ 9223372036854775807) (hr : Arcs w a l) (hi : Ints w ba bs) (hR : Rws w ca C) :
    Calls Try.prog 20 #[.agg #[.int .i64 N, .slice a l.length cap], .agg #[.slice ba bs.length bc, .slice ca C.length cc], .int .i64 k, .int .i64 x] w fun e w' => ∃ v, e = .returned (.tuple #[.slice v (inV N l bs (csl C) k x).length (inV N l bs (csl C) k x).length, .int .i64 (inE N l bs (csl C) k x)]) ∧ RowI w' w.heap.size v (ints (inV N l bs (csl C) k x)) ∧ Below w.heap.size w w' := by
  have hb0 : Below w.heap.size w (((w.alloc (.cells #[.int .i64 N, .slice a l.length cap] 24)).alloc (.cells #[.slice ba bs.length bc, .slice ca C.length cc] 28)).alloc (.cells #[.int .i64 x] 3)) := (top3 w _ _ _).2.2.2.1
  have hg0 := (top3 w (.cells #[.int .i64 N, .slice a l.length cap] 24) (.cells #[.slice ba bs.length bc, .slice ca C.length cc] 28) (.cells #[.int .i64 x] 3)).1
  have hg1 := (top3 w (.cells #[.int .i64 N, .slice a l.length cap] 24) (.cells #[.slice ba bs.length bc, .slice ca C.length cc] 28) (.cells #[.int .i64 x] 3)).2.1
  have hg2 := (top3 w (.cells #[.int .i64 N, .slice a l.length cap] 24) (.cells #[.slice ba bs.length bc, .slice ca C.length cc] 28) (.cells #[.int .i64 x] 3)).2.2.1
  have hsz := (top3 w (.cells #[.int .i64 N, .slice a l.length cap] 24) (.cells #[.slice ba bs.length bc, .slice ca C.length cc] 28) (.cells #[.int .i64 x] 3)).2.2.2.2
  obtain ⟨⟨a0, a1⟩, _⟩ := two_cells hg0
  obtain ⟨⟨a2, a3⟩, _⟩ := two_cells hg1
  have a4 := cell_of_one hg2
  have HB0 := Lib.hid hb0
  have HG0 := Lib.hid hg0
  have HG1 := Lib.hid hg1
  have HG2 := Lib.hid hg2
  have HLK := Lib.hid (ceLook_any N a l cap ba bs bc ca C cc k x _ hl hbl (hr.on hb0) (hi.on hb0) (hR.on hb0))
  obtain ⟨E, HE⟩ := named (inE N l bs (csl C) k x)
  have HEE := HE
  rw [HE.out] at HLK
  rw [HE.out]
  clear HE
  by_cases h1 : E = 0
  · subst h1
    obtain ⟨hNR, j, q, rfl, hj, rfl, hq⟩ := inE_zero HEE.out
    have hcl : C.length = bs.length := by have := hNR.2.2.2.1; rw [csl_len] at this; exact this
    have hjC : j < C.length := by omega
    obtain ⟨hlv, hty, _, _⟩ := hNR.lv hj
    rw [csl_at] at hlv hty
    have hC0 : chkE ((cl C j).xs.length : Nat) l = 0 := by rw [hlv]; exact hNR.1
    have hN : N = ((cl C j).xs.length : Nat) := hlv.symm
    have hL : (cl C j).xs.length ≤ 1024 := by have := (chk_zero hC0).2.1; omega
    have hl8 : l.length ≤ 8192 := (chk_zero hC0).2.2.1
    have ej : ((j : Int) + 1).toNat - 1 = j := by omega
    have HV0 : Hid (inV N l bs (csl C) ((j : Int) + 1) (q : Int) = arL l (hld (cl C j).xs (q : Int))) := by show _ = _; unfold inV; rw [if_pos HEE.out, ej, csl_at]
    rw [HV0.out]
    have HL := Lib.hid (HLK.out.mono (fun e w' h => (⟨h.1 rfl, h.2.2⟩ : e = .returned (.tuple #[.slice (cl C (((j : Int) + 1).toNat - 1)).a (cl C (((j : Int) + 1).toNat - 1)).xs.length (cl C (((j : Int) + 1).toNat - 1)).c, .int .i64 0]) ∧ _)))
    rw [ej] at HL
    obtain ⟨L, va, vc, HLL, HVA, HVC⟩ : ∃ L va vc, Hid ((cl C j).xs = L) ∧ Hid ((cl C j).a = va) ∧ Hid ((cl C j).c = vc) := ⟨_, _, _, rfl, rfl, rfl⟩
    rw [HLL.out] at hC0 hL HL hN HV0
    rw [HLL.out]
    rw [HVA.out, HVC.out] at HL
    have HIL : Hid (Ints w va L) := by have := (hR.2 j hjC).1; rw [HLL.out, HVA.out] at this; exact this
    have HC0 := Lib.hid hC0
    obtain ⟨m, HM⟩ := named L.length
    rw [HM.out] at HL hN hL
    subst hN
    have HRA := Lib.hid hr
    have hmf : ∀ (fn : Fn) (first cap : Array Value) (w : World), (Instr.makeFunc fn first cap).run Try.prog w = .ok (.func fn first cap) w := fun _ _ _ _ => rfl
    clear hr hi hR hb0 HEE HLK HV0 hNR hcl hlv hty hC0
    generalize hp : w.heap.size = p at *
    go_enter Try.func20, Try.ntmps20
    go_wp2_with fail
    generalize hW : (((w.alloc (.cells #[.int .i64 m, .slice a l.length cap] 24)).alloc (.cells #[.slice ba bs.length bc, .slice ca C.length cc] 28)).alloc (.cells #[.int .i64 q] 3)) = W at *
    clear hW
    refine HL.out.mono ?_
    rintro e w1 ⟨rfl, hb1⟩
    have HB1 : Hid (Below p w w1) := HB0.out.trans (hb1.mono (by omega))
    obtain ⟨⟨k0, k1⟩, _⟩ := two_cells (((hb1.block p (by omega)).trans HG0.out))
    have k4 := cell_of_one ((hb1.block (p + 1 + 1) (by omega)).trans HG2.out)
    have hw1 : p + 2 < w1.heap.size := by have := hb1.size; omega
    have HB2 : Hid (Below p w (w1.alloc (.cells #[.slice va m vc] 80))) := HB1.out.alloc (by omega) _
    have HG3 := Lib.hid (heap_top w1 (.cells #[.slice va m vc] 80))
    have j0 : (w1.alloc (.cells #[.slice va m vc] 80)).cell? ⟨p, 0, none⟩ = some (.int .i64 m) := (World.cell?_of_block (w := w1) (a := ⟨p, 0, none⟩) (Below.heap_alloc _ _ _ (by show p < _; omega))).trans k0
    have j1 : (w1.alloc (.cells #[.slice va m vc] 80)).cell? ⟨p, 1, none⟩ = some (.slice a l.length cap) := (World.cell?_of_block (w := w1) (a := ⟨p, 1, none⟩) (Below.heap_alloc _ _ _ (by show p < _; omega))).trans k1
    have HK4 : Hid ((w1.alloc (.cells #[.slice va m vc] 80)).cell? ⟨p + 1 + 1, 0, none⟩ = some (.int .i64 q)) := (World.cell?_of_block (w := w1) (a := ⟨p + 1 + 1, 0, none⟩) (Below.heap_alloc _ _ _ (by show p + 1 + 1 < _; omega))).trans k4
    clear a0 a1 a2 a3 a4 hb1 HL hg0 hg1 hg2 HB0 HG0 HG1 HG2 k0 k1 k4
    go_wp2_with fail
    have hv1 : (w1.alloc (.cells #[.slice va m vc] 80)).heap.size = w1.heap.size + 1 := by simp
    generalize hV : w1.alloc (.cells #[.slice va m vc] 80) = V at *
    clear hV
    refine (cArcsI_any m (.pointer (some ⟨w1.heap.size, 0, none⟩)) (.pointer (some ⟨p + 1 + 1, 0, none⟩)) a l cap (hld L q) V hl8 (HRA.out.on (hp ▸ HB2.out)) (fun i hi W2 hb => ?_)).mono ?_
    · have hbw : Below p w W2 := HB2.out.trans (hb.mono (by omega))
      have hvz := hb.size
      refine ceI1_any w1.heap.size (p + 1 + 1) va L vc q _ W2 (chk_in HC0.out hi) (by rw [HM.out]; exact hL) ?_ ((hb.cell (p := ⟨p + 1 + 1, 0, none⟩) (by show p + 1 + 1 < _; omega)).trans HK4.out) (HIL.out.on (hp ▸ hbw))
      rw [HM.out]
      exact (hb.cell (p := ⟨w1.heap.size, 0, none⟩) (by show w1.heap.size < _; omega)).trans (cell_of_one HG3.out)
    · rintro e w3 ⟨v, rfl, hrow, hb3⟩
      have HR3 := Lib.hid (hrow.base (C := p) (by omega))
      have HB3 : Hid (Below p w w3) := HB2.out.trans (hb3.mono (by omega))
      clear hrow hb3 j0 j1
      go_wp2_with fail
      go_ret2
      exact ⟨v, rfl, HR3.out, HB3.out⟩
  · have e1 : (E != 0) = true := by simpa using h1
    have HV0 : Hid (inV N l bs (csl C) k x = []) := by show _ = _; unfold inV; rw [if_neg (by rw [HEE.out]; exact h1)]
    rw [HV0.out]
    have HL := Lib.hid (HLK.out.mono (fun e w' h => (⟨h.2.1 h1, h.2.2⟩ : e = .returned (.tuple #[.slice none 0 0, .int .i64 E]) ∧ _)))
    clear hr hi hR hb0 HEE HLK HV0
    generalize hp : w.heap.size = p at *
    go_enter Try.func20, Try.ntmps20
    go_wp2_with fail
    generalize hW : (((w.alloc (.cells #[.int .i64 N, .slice a l.length cap] 24)).alloc (.cells #[.slice ba bs.length bc, .slice ca C.length cc] 28)).alloc (.cells #[.int .i64 x] 3)) = W at *
    clear hW
    refine HL.out.mono ?_
    rintro e w1 ⟨rfl, hb1⟩
    have HB1 : Hid (Below p w w1) := HB0.out.trans (hb1.mono (by omega))
    clear a0 a1 a2 a3 a4 hb1 HL hg0 hg1 hg2 HB0 HG0 HG1 HG2
    have HB2 : Hid (Below p w (w1.alloc (.cells #[.slice none 0 0] 80))) := HB1.out.alloc (by have := HB1.out.size; omega) _
    go_wp2_with fail
    go_ret2
    exact ⟨none, rfl, Or.inl ⟨rfl, rfl⟩, HB2.out⟩
set_option maxRecDepth 100000 in
set_option maxHeartbeats 1600000 in
/-- Boundary. -/
theorem boundary_any (N : Int) (a : Option Addr) (l : List A) (cap : Nat) (ba : Option Addr) (bs : List Int) (bc : Nat) (ca : Option Addr) (C : List Cl) (cc : Nat) (k x : Int) (w : World) (hl : l.length ≤ 9223372036854775807) (hbl : bs.length ≤ 9223372036854775807) (hr : Arcs w a l) (hi : Ints w ba bs) (hR : Rws w ca C) :
    Calls Try.prog 15 #[.agg #[.int .i64 N, .slice a l.length cap], .agg #[.slice ba bs.length bc, .slice ca C.length cc], .int .i64 k, .int .i64 x] w fun e w' => ∃ v, e = .returned (.tuple #[.slice v (bdV N l bs (csl C) k x).length (bdV N l bs (csl C) k x).length, .int .i64 (inE N l bs (csl C) k x)]) ∧ RowI w' w.heap.size v (ints (bdV N l bs (csl C) k x)) ∧ Below w.heap.size w w' := by
  have hb0 : Below w.heap.size w (((w.alloc (.cells #[.int .i64 N, .slice a l.length cap] 24)).alloc (.cells #[.slice ba bs.length bc, .slice ca C.length cc] 28)).alloc (.cells #[.int .i64 x] 3)) := (top3 w _ _ _).2.2.2.1
  have hg0 := (top3 w (.cells #[.int .i64 N, .slice a l.length cap] 24) (.cells #[.slice ba bs.length bc, .slice ca C.length cc] 28) (.cells #[.int .i64 x] 3)).1
  have hg1 := (top3 w (.cells #[.int .i64 N, .slice a l.length cap] 24) (.cells #[.slice ba bs.length bc, .slice ca C.length cc] 28) (.cells #[.int .i64 x] 3)).2.1
  have hg2 := (top3 w (.cells #[.int .i64 N, .slice a l.length cap] 24) (.cells #[.slice ba bs.length bc, .slice ca C.length cc] 28) (.cells #[.int .i64 x] 3)).2.2.1
  have hsz := (top3 w (.cells #[.int .i64 N, .slice a l.length cap] 24) (.cells #[.slice ba bs.length bc, .slice ca C.length cc] 28) (.cells #[.int .i64 x] 3)).2.2.2.2
  obtain ⟨⟨a0, a1⟩, _⟩ := two_cells hg0
  obtain ⟨⟨a2, a3⟩, _⟩ := two_cells hg1
  have a4 := cell_of_one hg2
  have HB0 := Lib.hid hb0
  have HG0 := Lib.hid hg0
  have HG1 := Lib.hid hg1
  have HG2 := Lib.hid hg2
  have HLK := Lib.hid (ceLook_any N a l cap ba bs bc ca C cc k x _ hl hbl (hr.on hb0) (hi.on hb0) (hR.on hb0))
  obtain ⟨E, HE⟩ := named (inE N l bs (csl C) k x)
  have HEE := HE
  rw [HE.out] at HLK
  rw [HE.out]
  clear HE
  by_cases h1 : E = 0
  · subst h1
    obtain ⟨hNR, j, q, rfl, hj, rfl, hq⟩ := inE_zero HEE.out
    have hcl : C.length = bs.length := by have := hNR.2.2.2.1; rw [csl_len] at this; exact this
    have hjC : j < C.length := by omega
    obtain ⟨hlv, hty, _, _⟩ := hNR.lv hj
    rw [csl_at] at hlv hty
    have hC0 : chkE ((cl C j).xs.length : Nat) l = 0 := by rw [hlv]; exact hNR.1
    have hN : N = ((cl C j).xs.length : Nat) := hlv.symm
    have hL : (cl C j).xs.length ≤ 1024 := by have := (chk_zero hC0).2.1; omega
    have hl8 : l.length ≤ 8192 := (chk_zero hC0).2.2.1
    have ej : ((j : Int) + 1).toNat - 1 = j := by omega
    have HV0 : Hid (bdV N l bs (csl C) ((j : Int) + 1) (q : Int) = cho (bdP (cl C j).xs l (q : Int)) (cl C j).xs.length) := by show _ = _; unfold bdV; rw [if_pos HEE.out, ej, csl_at, hN, Int.toNat_natCast]; rfl
    rw [HV0.out]
    have HL := Lib.hid (HLK.out.mono (fun e w' h => (⟨h.1 rfl, h.2.2⟩ : e = .returned (.tuple #[.slice (cl C (((j : Int) + 1).toNat - 1)).a (cl C (((j : Int) + 1).toNat - 1)).xs.length (cl C (((j : Int) + 1).toNat - 1)).c, .int .i64 0]) ∧ _)))
    rw [ej] at HL
    obtain ⟨L, va, vc, HLL, HVA, HVC⟩ : ∃ L va vc, Hid ((cl C j).xs = L) ∧ Hid ((cl C j).a = va) ∧ Hid ((cl C j).c = vc) := ⟨_, _, _, rfl, rfl, rfl⟩
    rw [HLL.out] at hC0 hL HL hN HV0
    rw [HLL.out]
    rw [HVA.out, HVC.out] at HL
    have HIL : Hid (Ints w va L) := by have := (hR.2 j hjC).1; rw [HLL.out, HVA.out] at this; exact this
    have HC0 := Lib.hid hC0
    obtain ⟨m, HM⟩ := named L.length
    rw [HM.out] at HL hN hL
    subst hN
    have HRA := Lib.hid hr
    rw [HM.out]
    clear hR hNR
    have hmf : ∀ (fn : Fn) (first cap : Array Value) (w : World), (Instr.makeFunc fn first cap).run Try.prog w = .ok (.func fn first cap) w := fun _ _ _ _ => rfl
    clear hr hi hb0 HEE HLK HV0 hcl hlv hty hC0
    generalize hp : w.heap.size = p at *
    go_enter Try.func15, Try.ntmps15
    go_wp2_with fail
    generalize hW : (((w.alloc (.cells #[.int .i64 m, .slice a l.length cap] 24)).alloc (.cells #[.slice ba bs.length bc, .slice ca C.length cc] 28)).alloc (.cells #[.int .i64 q] 3)) = W at *
    clear hW
    refine HL.out.mono ?_
    rintro e w1 ⟨rfl, hb1⟩
    have HB1 : Hid (Below p w w1) := HB0.out.trans (hb1.mono (by omega))
    obtain ⟨⟨k0, k1⟩, _⟩ := two_cells (((hb1.block p (by omega)).trans HG0.out))
    obtain ⟨⟨k2, k3⟩, _⟩ := two_cells (((hb1.block (p + 1) (by omega)).trans HG1.out))
    have k4 := cell_of_one ((hb1.block (p + 1 + 1) (by omega)).trans HG2.out)
    have hw1 : p + 2 < w1.heap.size := by have := hb1.size; omega
    have HB2 : Hid (Below p w (w1.alloc (.cells #[.slice va m vc] 80))) := HB1.out.alloc (by omega) _
    have HG3 := Lib.hid (heap_top w1 (.cells #[.slice va m vc] 80))
    have j0 : (w1.alloc (.cells #[.slice va m vc] 80)).cell? ⟨p, 0, none⟩ = some (.int .i64 m) := (World.cell?_of_block (w := w1) (a := ⟨p, 0, none⟩) (Below.heap_alloc _ _ _ (by show p < _; omega))).trans k0
    have j1 : (w1.alloc (.cells #[.slice va m vc] 80)).cell? ⟨p, 1, none⟩ = some (.slice a l.length cap) := (World.cell?_of_block (w := w1) (a := ⟨p, 1, none⟩) (Below.heap_alloc _ _ _ (by show p < _; omega))).trans k1
    have j3 : (w1.alloc (.cells #[.slice va m vc] 80)).cell? ⟨p + 1, 1, none⟩ = some (.slice ca C.length cc) := (World.cell?_of_block (w := w1) (a := ⟨p + 1, 1, none⟩) (Below.heap_alloc _ _ _ (by show p + 1 < _; omega))).trans k3
    have HK4 : Hid ((w1.alloc (.cells #[.slice va m vc] 80)).cell? ⟨p + 1 + 1, 0, none⟩ = some (.int .i64 q)) := (World.cell?_of_block (w := w1) (a := ⟨p + 1 + 1, 0, none⟩) (Below.heap_alloc _ _ _ (by show p + 1 + 1 < _; omega))).trans k4
    have j5 := cell_of_one HG3.out
    clear a0 a1 a2 a3 a4 hb1 HL hg0 hg1 hg2 HB0 HG0 HG1 HG2 k0 k1 k2 k3 k4
    clear j3
    go_wp2_with fail
    have hv1 : (w1.alloc (.cells #[.slice va m vc] 80)).heap.size = w1.heap.size + 1 := by simp
    have HJ0 := Lib.hid j0
    have HJ1 := Lib.hid j1
    have HCR := Lib.hid (crossed_any va L vc a l cap (w1.alloc (.cells #[.slice va m vc] 80)) HC0.out (HRA.out.on (hp ▸ HB2.out)) (HIL.out.on (hp ▸ HB2.out)))
    rw [HM.out] at HCR
    generalize hV : w1.alloc (.cells #[.slice va m vc] 80) = V at *
    clear hV j0 j1 j5
    refine HCR.out.mono ?_
    rintro e w2 ⟨g, rfl, hgV, hT, hb2⟩
    have hz2 := hb2.size
    have hgl : g < w2.heap.size := hT.lt
    have HB3 : Hid (Below p w (w2.alloc (.cells #[.slice (some ⟨g, 0, none⟩) m m] 53))) := (HB2.out.trans (hb2.mono (by omega))).alloc (by omega) _
    have HBV : Hid (Below V.heap.size V (w2.alloc (.cells #[.slice (some ⟨g, 0, none⟩) m m] 53))) := hb2.alloc (by omega) _
    have HG4 := Lib.hid (heap_top w2 (.cells #[.slice (some ⟨g, 0, none⟩) m m] 53))
    have HT3 : Hid (TbV (w2.alloc (.cells #[.slice (some ⟨g, 0, none⟩) m m] 53)) g m 4 (boV (crs L l l.length))) := hT.same (Below.heap_alloc _ _ _ hgl)
    have i0 := (HBV.out.cell (p := ⟨p, 0, none⟩) (by show p < _; omega)).trans HJ0.out
    have hu1 : (w2.alloc (.cells #[.slice (some ⟨g, 0, none⟩) m m] 53)).heap.size = w2.heap.size + 1 := by simp
    clear HCR hT hb2
    go_wp2_with fail
    generalize hU : w2.alloc (.cells #[.slice (some ⟨g, 0, none⟩) m m] 53) = U at *
    clear hU
    refine (chosenB_any m (bdP L l q) (.pointer (some ⟨w1.heap.size, 0, none⟩)) (.pointer (some ⟨p + 1 + 1, 0, none⟩)) (.pointer (some ⟨w2.heap.size, 0, none⟩)) U (by omega) (fun i hi W2 hb => ?_)).mono ?_
    · have hbw : Below p w W2 := HB3.out.trans (hb.mono (by omega))
      have hbv : Below V.heap.size V W2 := HBV.out.trans (hb.mono (by omega))
      refine ceB1_any i m w1.heap.size (p + 1 + 1) w2.heap.size g va L vc q (crs L l l.length) W2 hi HM.out hL ?_ ((hbv.cell (p := ⟨p + 1 + 1, 0, none⟩) (by show p + 1 + 1 < _; omega)).trans HK4.out) ((hb.cell (p := ⟨w2.heap.size, 0, none⟩) (by show w2.heap.size < _; omega)).trans (cell_of_one HG4.out)) (HIL.out.on (hp ▸ hbw)) (HT3.out.same (hb.block g (by omega)))
      rw [HM.out]
      exact (hbv.cell (p := ⟨w1.heap.size, 0, none⟩) (by show w1.heap.size < _; omega)).trans (cell_of_one HG3.out)
    · rintro e w3 ⟨v, rfl, hrow, hb3⟩
      have HR3 := Lib.hid (hrow.base (C := p) (by omega))
      have HB4 : Hid (Below p w w3) := HB3.out.trans (hb3.mono (by omega))
      clear hrow hb3 i0
      go_wp2_with fail
      go_ret2
      exact ⟨v, rfl, HR3.out, HB4.out⟩
  · have e1 : (E != 0) = true := by simpa using h1
    have HV0 : Hid (bdV N l bs (csl C) k x = []) := by show _ = _; unfold bdV; rw [if_neg (by rw [HEE.out]; exact h1)]
    rw [HV0.out]
    have HL := Lib.hid (HLK.out.mono (fun e w' h => (⟨h.2.1 h1, h.2.2⟩ : e = .returned (.tuple #[.slice none 0 0, .int .i64 E]) ∧ _)))
    clear hr hi hR hb0 HEE HLK HV0
    generalize hp : w.heap.size = p at *
    go_enter Try.func15, Try.ntmps15
    go_wp2_with fail
    generalize hW : (((w.alloc (.cells #[.int .i64 N, .slice a l.length cap] 24)).alloc (.cells #[.slice ba bs.length bc, .slice ca C.length cc] 28)).alloc (.cells #[.int .i64 x] 3)) = W at *
    clear hW
    refine HL.out.mono ?_
    rintro e w1 ⟨rfl, hb1⟩
    have HB1 : Hid (Below p w w1) := HB0.out.trans (hb1.mono (by omega))
    clear a0 a1 a2 a3 a4 hb1 HL hg0 hg1 hg2 HB0 HG0 HG1 HG2
    have HB2 : Hid (Below p w (w1.alloc (.cells #[.slice none 0 0] 80))) := HB1.out.alloc (by have := HB1.out.size; omega) _
    go_wp2_with fail
    go_ret2
    exact ⟨none, rfl, Or.inl ⟨rfl, rfl⟩, HB2.out⟩
end Go.Proofs.Ytpmjbeiclmllmaa
