import Derived.Test.YtaafkpojjdjphaaGreatQAE
open Go.Lib (hid)
set_option maxRecDepth 100000
namespace Go.Proofs.YtaafkpojjdjphaaGreat
open Go.RowKit
set_option maxHeartbeats 1600000 in
theorem ceB1_any (v n b1 b2 b3 g : Nat) (b : Option Addr) (L : List Int) (bc : Nat) (q : Int) (T : Nat → Bool) (w : World) (hv : v < n) (hLn : L.length = n) (hn : n ≤ 1024) (c1 : w.cell? ⟨b1, 0, none⟩ = some (.slice b L.length bc)) (c2 : w.cell? ⟨b2, 0, none⟩ = some (.int .i64 q)) (c3 : w.cell? ⟨b3, 0, none⟩ = some (.slice (some ⟨g, 0, none⟩) n n)) (hi : Ints w b L) (hT : TbV w g n 4 (boV T)) :
  Calls Tryz.prog 196 #[.int .i64 v, .pointer (some ⟨b1, 0, none⟩), .pointer (some ⟨b2, 0, none⟩), .pointer (some ⟨b3, 0, none⟩)] w fun e w' => e = .returned (.bool (decide (L.getD v 0 = q) && T v)) ∧ Below w.heap.size w w' := by
 obtain ⟨ix, ox, hix⟩ := hi.get
 obtain ⟨rfl, _, hat⟩ := hix (by omega)
 have d1 := hat v (by omega)
 have d2 := hT.cell hv
 have e2 : boV T v = .bool (T v) := rfl
 rw [e2] at d2
 have hv1 : (v : Int) < n := by omega
 rw [hLn] at c1
 clear e2 hat hix hi hT
 generalize T v = tv at *
 generalize L.getD v 0 = y at *
 clear hLn
 by_cases h1 : y = q
 ·have e1 : (y == q) = true := by simpa using h1
  rw [decide_eq_true h1, Bool.true_and]
  clear h1
  go_enter Tryz.func196, Tryz.ntmps196
  go_wp2_with fail
  go_quiet (fail)
  go_wp2_with fail
  go_ret
  exact ⟨rfl, below_drewN _ _ _⟩
 ·have e1 : (y == q) = false := by simpa using h1
  have e3 : decide (y = q) = false := decide_eq_false h1
  rw [e3, Bool.false_and]
  clear h1
  go_enter Tryz.func196, Tryz.ntmps196
  go_wp2_with fail
  go_quiet (fail)
  go_wp2_with fail
  go_ret
  exact ⟨rfl, below_drewN _ _ _⟩
set_option maxHeartbeats 1600000 in
theorem ceI1_any (b1 b2 : Nat) (b : Option Addr) (L : List Int) (bc : Nat) (q : Int) (x : A) (w : World) (hx : inA L.length x) (hL : L.length ≤ 1024) (c1 : w.cell? ⟨b1, 0, none⟩ = some (.slice b L.length bc)) (c2 : w.cell? ⟨b2, 0, none⟩ = some (.int .i64 q)) (hi : Ints w b L) :
  Calls Tryz.prog 85 #[.agg #[.int .i64 x.f, .int .i64 x.t, .int .u32 x.w], .pointer (some ⟨b1, 0, none⟩), .pointer (some ⟨b2, 0, none⟩)] w fun e w' => e = .returned (.bool (hld L q x)) ∧ Below w.heap.size w w' := by
 have hb0 : Below w.heap.size w (w.alloc (.cells #[.int .i64 x.f, .int .i64 x.t, .int .u32 x.w] 109)) := (Below.refl _ _).alloc (Nat.le_refl _) _
 have hg := heap_top w (.cells #[.int .i64 x.f, .int .i64 x.t, .int .u32 x.w] 109)
 obtain ⟨g0, g1, g2⟩ := three_cells hg
 have d1 := (hb0.cell (p := ⟨b1, 0, none⟩) (World.block_lt_of_cell? w _ c1)).trans c1
 have d2 := (hb0.cell (p := ⟨b2, 0, none⟩) (World.block_lt_of_cell? w _ c2)).trans c2
 have HH := hid (ceHold_any b L bc q x _ hx hL (hi.on hb0))
 have HB0 := hid hb0
 have hwz := hb0.size
 generalize hld L q x = R at *
 clear hi hb0 hg hx c1 c2 hL
 go_enter Tryz.func85, Tryz.ntmps85
 go_wp2_with fail
 refine HH.out.mono ?_
 rintro e w1 ⟨rfl, hb1⟩
 have HB1 : Hid (Below w.heap.size w w1) := HB0.out.trans (hb1.mono hwz)
 clear hb1 HB0 HH d1 d2 g0 g1 g2
 go_wp2_with fail
 go_ret
 exact ⟨rfl, HB1.out⟩
set_option maxHeartbeats 1600000 in
theorem ceW1_any (b1 b2 b3 : Nat) (b : Option Addr) (L : List Int) (bc : Nat) (d : Option Addr) (M : List Int) (dc : Nat) (q : Int) (x : A) (w : World) (hx : inA L.length x) (hL : L.length ≤ 1024) (hM : M.length = L.length) (c1 : w.cell? ⟨b1, 0, none⟩ = some (.slice b L.length bc)) (c2 : w.cell? ⟨b2, 0, none⟩ = some (.int .i64 q)) (c3 : w.cell? ⟨b3, 0, none⟩ = some (.slice d M.length dc)) (hi : Ints w b L) (hj : Ints w d M) :
  Calls Tryz.prog 89 #[.agg #[.int .i64 x.f, .int .i64 x.t, .int .u32 x.w], .pointer (some ⟨b1, 0, none⟩), .pointer (some ⟨b2, 0, none⟩), .pointer (some ⟨b3, 0, none⟩)] w fun e w' => e = .returned (.bool (btP L M q x)) ∧ Below w.heap.size w w' := by
 have hb0 : Below w.heap.size w (w.alloc (.cells #[.int .i64 x.f, .int .i64 x.t, .int .u32 x.w] 109)) := (Below.refl _ _).alloc (Nat.le_refl _) _
 have hg := heap_top w (.cells #[.int .i64 x.f, .int .i64 x.t, .int .u32 x.w] 109)
 have HG := hid hg
 obtain ⟨g0, g1, g2⟩ := three_cells hg
 have d1 := (hb0.cell (p := ⟨b1, 0, none⟩) (World.block_lt_of_cell? w _ c1)).trans c1
 have d2 := (hb0.cell (p := ⟨b2, 0, none⟩) (World.block_lt_of_cell? w _ c2)).trans c2
 have hl3 := World.block_lt_of_cell? w _ c3
 have C3 := hid c3
 have HH := hid (ceHold_any b L bc q x _ hx hL (hi.on hb0))
 have HP := hid (fun W2 (hb : Below w.heap.size w W2) => cePart_any d M dc x W2 (hM ▸ hx) (hM ▸ hL) (hj.on hb))
 have HB0 := hid hb0
 have hwz := hb0.size
 have HBT : Hid (btP L M q x = (hld L q x && prt M x)) := rfl
 rw [HBT.out]
 clear HBT
 generalize prt M x = R2 at *
 generalize hld L q x = R at *
 have hpw : w.heap.size < (w.alloc (.cells #[.int .i64 x.f, .int .i64 x.t, .int .u32 x.w] 109)).heap.size := by simp
 clear hi hj hb0 hg hx c1 c2 c3 hL hM
 generalize hp : w.heap.size = p at *
 go_enter Tryz.func89, Tryz.ntmps89
 go_wp2_with fail
 generalize hW : w.alloc (.cells #[.int .i64 x.f, .int .i64 x.t, .int .u32 x.w] 109) = W at *
 clear hW
 refine HH.out.mono ?_
 rintro e w1 ⟨rfl, hb1⟩
 have HB1 : Hid (Below p w w1) := HB0.out.trans (hb1.mono hwz)
 obtain ⟨k0, k1, k2⟩ := three_cells ((hb1.block p hpw).trans HG.out)
 have d3 := (HB1.out.cell (p := ⟨b3, 0, none⟩) (hp ▸ hl3)).trans C3.out
 have hz1 : p ≤ w1.heap.size := by have := hb1.size; omega
 clear hb1 HB0 HH d1 d2 g0 g1 g2 HG C3
 rcases R with _ | _
 ·clear HP
  go_wp2_with fail
  go_ret
  exact ⟨rfl, HB1.out⟩
 ·go_wp2_with fail
  refine (HP.out w1 HB1.out).mono ?_
  rintro e w2 ⟨rfl, hb2⟩
  have HB2 : Hid (Below p w w2) := HB1.out.trans (hb2.mono hz1)
  clear hb2 HB1 HP d3 k0 k1 k2
  go_wp2_with fail
  go_ret
  exact ⟨rfl, HB2.out⟩
set_option maxHeartbeats 1600000 in
theorem ceLook_any (N : Int) (a : Option Addr) (l : List A) (cap : Nat) (ba : Option Addr) (bs : List Int) (bc : Nat) (ca : Option Addr) (C : List Cl) (cc : Nat) (k x : Int) (w : World) (hl : l.length ≤ 9223372036854775807) (hbl : bs.length ≤ 9223372036854775807) (hr : Arcs w a l) (hi : Ints w ba bs) (hR : Rws w ca C) :
  Calls Tryz.prog 83 #[.agg #[.int .i64 N, .slice a l.length cap], .agg #[.slice ba bs.length bc, .slice ca C.length cc], .int .i64 k, .int .i64 x] w fun e w' => (inE N l bs (csl C) k x = 0 → e = .returned (.tuple #[.slice (cl C (k.toNat - 1)).a (cl C (k.toNat - 1)).xs.length (cl C (k.toNat - 1)).c, .int .i64 0])) ∧ (inE N l bs (csl C) k x ≠ 0 → e = .returned (.tuple #[.slice none 0 0, .int .i64 (inE N l bs (csl C) k x)])) ∧ Below w.heap.size w w' := by
 have hb0 : Below w.heap.size w ((w.alloc (.cells #[.int .i64 N, .slice a l.length cap] 24)).alloc (.cells #[.slice ba bs.length bc, .slice ca C.length cc] 28)) := (top2 w _ _).2.2.1
 have hg0 := (top2 w (.cells #[.int .i64 N, .slice a l.length cap] 24) (.cells #[.slice ba bs.length bc, .slice ca C.length cc] 28)).1
 have hg1 := (top2 w (.cells #[.int .i64 N, .slice a l.length cap] 24) (.cells #[.slice ba bs.length bc, .slice ca C.length cc] 28)).2.1
 have hsz := (top2 w (.cells #[.int .i64 N, .slice a l.length cap] 24) (.cells #[.slice ba bs.length bc, .slice ca C.length cc] 28)).2.2.2
 obtain ⟨⟨a0, a1⟩, _⟩ := two_cells hg0
 obtain ⟨⟨a2, a3⟩, _⟩ := two_cells hg1
 have HB0 := hid hb0
 have HLK := hid (members_any N a l cap ba bs bc ca C cc k x _ hl hbl (hr.on hb0) (hi.on hb0) (hR.on hb0))
 have HRW := hid hR
 obtain ⟨E, HE⟩ := named (inE N l bs (csl C) k x)
 have HEE := HE
 rw [HE.out] at HLK
 rw [HE.out]
 clear HE
 by_cases h1 : E = 0
 ·subst h1
  obtain ⟨hNR, j, q, rfl, hj, rfl, hq⟩ := inE_zero HEE.out
  have hcl : C.length = bs.length := by have := hNR.2.2.2.1; rw [csl_len] at this; exact this
  have hjC : j < C.length := by omega
  have ej : (j : Int) + 1 - 1 = j := by omega
  rw [show ((j : Int) + 1).toNat - 1 = j by omega]
  obtain ⟨bx, ox, hbx⟩ := hR.get
  obtain ⟨rfl, hbl2, hcell⟩ := hbx (by omega)
  have d0 := hcell j hjC
  unfold Cl.val at d0
  have HD0 := hid d0
  have hG3 := hid hg1
  have hj' : (j : Int) < C.length := by omega
  have h5 : bs.length ≤ 5 := hNR.2.2.1
  have hC5 : C.length ≤ 5 := by omega
  clear hr hi hR hb0 hbx hcell d0 HEE hq HRW hcl hNR
  generalize (cl C j).xs.length = m at *
  generalize (cl C j).a = va at *
  generalize (cl C j).c = vc at *
  generalize hp : w.heap.size = p at *
  go_enter Tryz.func83, Tryz.ntmps83
  go_wp2_with fail
  generalize hW : (w.alloc (.cells #[.int .i64 N, .slice a l.length cap] 24)).alloc (.cells #[.slice ba bs.length bc, .slice (some ⟨bx, ox, none⟩) C.length cc] 28) = W at *
  clear hW
  refine HLK.out.mono ?_
  rintro e w1 ⟨v, c, S, rfl, hown, hS, hb1⟩
  have HB1 : Hid (Below p w w1) := HB0.out.trans (hb1.mono (by omega))
  obtain ⟨⟨k2, k3⟩, _⟩ := two_cells ((hb1.block (p + 1) (by omega)).trans hG3.out)
  have d0 := (HB1.out.cell (p := ⟨bx, ox + j, none⟩) (hp ▸ hbl2)).trans HD0.out
  clear a0 a1 a2 a3 hb1 HLK hg0 hg1 HB0 hown hS HD0 hG3
  go_wp2_with fail
  go_ret2
  first | exact ⟨rfl, HB1.out⟩ | exact ⟨(fun _ => rfl), (fun h => absurd rfl h), HB1.out⟩
 ·have e1 : (E != 0) = true := by simpa using h1
  clear hr hi hR hb0 HEE HRW
  generalize hp : w.heap.size = p at *
  go_enter Tryz.func83, Tryz.ntmps83
  go_wp2_with fail
  generalize hW : (w.alloc (.cells #[.int .i64 N, .slice a l.length cap] 24)).alloc (.cells #[.slice ba bs.length bc, .slice ca C.length cc] 28) = W at *
  clear hW
  refine HLK.out.mono ?_
  rintro e w1 ⟨v, c, S, rfl, hown, hS, hb1⟩
  have HB1 : Hid (Below p w w1) := HB0.out.trans (hb1.mono (by omega))
  clear a0 a1 a2 a3 hb1 HLK hg0 hg1 HB0 hown hS
  go_wp2_with fail
  go_ret2
  first | exact ⟨rfl, HB1.out⟩ | exact ⟨(fun h => absurd h h1), (fun _ => rfl), HB1.out⟩
def bdV (N : Int) (l : List A) (bs : List Int) (cs : List (List Int)) (k x : Int) : List Nat := if inE N l bs cs k x = 0 then bdL N.toNat (lvl cs (k.toNat - 1)) l x else []
def inV (N : Int) (l : List A) (bs : List Int) (cs : List (List Int)) (k x : Int) : List Nat := if inE N l bs cs k x = 0 then arL l (hld (lvl cs (k.toNat - 1)) x) else []
def btE (N : Int) (l : List A) (bs : List Int) (cs : List (List Int)) (k x : Int) : Int := if inE N l bs cs k x ≠ 0 then inE N l bs cs k x else if k = 1 then 111 else 0
def btV (N : Int) (l : List A) (bs : List Int) (cs : List (List Int)) (k x : Int) : List Nat := if btE N l bs cs k x = 0 then arL l (btP (lvl cs (k.toNat - 1)) (lvl cs (k.toNat - 2)) x) else []
def ouV (N : Int) (l : List A) (bs : List Int) (cs : List (List Int)) (k : Int) : List Nat := if atE N l bs cs k = 0 then arL l (prt (lvl cs (k.toNat - 1))) else []
set_option maxHeartbeats 1600000 in
theorem inner_any (N : Int) (a : Option Addr) (l : List A) (cap : Nat) (ba : Option Addr) (bs : List Int) (bc : Nat) (ca : Option Addr) (C : List Cl) (cc : Nat) (k x : Int) (w : World) (hl : l.length ≤ 9223372036854775807) (hbl : bs.length ≤ 9223372036854775807) (hr : Arcs w a l) (hi : Ints w ba bs) (hR : Rws w ca C) :
  Calls Tryz.prog 31 #[.agg #[.int .i64 N, .slice a l.length cap], .agg #[.slice ba bs.length bc, .slice ca C.length cc], .int .i64 k, .int .i64 x] w fun e w' => ∃ v, e = .returned (.tuple #[.slice v (inV N l bs (csl C) k x).length (inV N l bs (csl C) k x).length, .int .i64 (inE N l bs (csl C) k x)]) ∧ RowI w' w.heap.size v (ints (inV N l bs (csl C) k x)) ∧ Below w.heap.size w w' := by
 have hb0 : Below w.heap.size w (((w.alloc (.cells #[.int .i64 N, .slice a l.length cap] 24)).alloc (.cells #[.slice ba bs.length bc, .slice ca C.length cc] 28)).alloc (.cells #[.int .i64 x] 3)) := (top3 w _ _ _).2.2.2.1
 have hg0 := (top3 w (.cells #[.int .i64 N, .slice a l.length cap] 24) (.cells #[.slice ba bs.length bc, .slice ca C.length cc] 28) (.cells #[.int .i64 x] 3)).1
 have hg1 := (top3 w (.cells #[.int .i64 N, .slice a l.length cap] 24) (.cells #[.slice ba bs.length bc, .slice ca C.length cc] 28) (.cells #[.int .i64 x] 3)).2.1
 have hg2 := (top3 w (.cells #[.int .i64 N, .slice a l.length cap] 24) (.cells #[.slice ba bs.length bc, .slice ca C.length cc] 28) (.cells #[.int .i64 x] 3)).2.2.1
 have hsz := (top3 w (.cells #[.int .i64 N, .slice a l.length cap] 24) (.cells #[.slice ba bs.length bc, .slice ca C.length cc] 28) (.cells #[.int .i64 x] 3)).2.2.2.2
 obtain ⟨⟨a0, a1⟩, _⟩ := two_cells hg0
 obtain ⟨⟨a2, a3⟩, _⟩ := two_cells hg1
 have a4 := cell_of_one hg2
 have HB0 := hid hb0
 have HG0 := hid hg0
 have HG1 := hid hg1
 have HG2 := hid hg2
 have HLK := hid (ceLook_any N a l cap ba bs bc ca C cc k x _ hl hbl (hr.on hb0) (hi.on hb0) (hR.on hb0))
 obtain ⟨E, HE⟩ := named (inE N l bs (csl C) k x)
 have HEE := HE
 rw [HE.out] at HLK
 rw [HE.out]
 clear HE
 by_cases h1 : E = 0
 ·subst h1
  obtain ⟨hNR, j, q, rfl, hj, rfl, hq⟩ := inE_zero HEE.out
  have hcl : C.length = bs.length := by have := hNR.2.2.2.1; rw [csl_len] at this; exact this
  have hjC : j < C.length := by omega
  obtain ⟨hlv, hty, _, _⟩ := hNR.lv hj
  rw [csl_at] at hlv hty
  have hC0 : chkE ((cl C j).xs.length : Nat) l = 0 := by rw [hlv]; exact hNR.1
  have hN : N = ((cl C j).xs.length : Nat) := hlv.symm
  have hL : (cl C j).xs.length ≤ 1024 := by have := (chk_zero hC0).2.1; omega
  have hl8 : l.length ≤ 8192 := (chk_zero hC0).2.2.1
  have ej : ((j : Int) + 1).toNat - 1 = j := by omega
  have HV0 : Hid (inV N l bs (csl C) ((j : Int) + 1) (q : Int) = arL l (hld (cl C j).xs (q : Int))) := by show _ = _; unfold inV; rw [if_pos HEE.out, ej, csl_at]
  rw [HV0.out]
  have HL := hid (HLK.out.mono (fun e w' h => (⟨h.1 rfl, h.2.2⟩ : e = .returned (.tuple #[.slice (cl C (((j : Int) + 1).toNat - 1)).a (cl C (((j : Int) + 1).toNat - 1)).xs.length (cl C (((j : Int) + 1).toNat - 1)).c, .int .i64 0]) ∧ _)))
  rw [ej] at HL
  obtain ⟨L, va, vc, HLL, HVA, HVC⟩ : ∃ L va vc, Hid ((cl C j).xs = L) ∧ Hid ((cl C j).a = va) ∧ Hid ((cl C j).c = vc) := ⟨_, _, _, rfl, rfl, rfl⟩
  rw [HLL.out] at hC0 hL HL hN HV0
  rw [HLL.out]
  rw [HVA.out, HVC.out] at HL
  have HIL : Hid (Ints w va L) := by have := (hR.2 j hjC).1; rw [HLL.out, HVA.out] at this; exact this
  have HC0 := hid hC0
  obtain ⟨m, HM⟩ := named L.length
  rw [HM.out] at HL hN hL
  subst hN
  have HRA := hid hr
  have hmf : ∀ (fn : Fn) (first cap : Array Value) (w : World), (Instr.makeFunc fn first cap).run Tryz.prog w = .ok (.func fn first cap) w := fun _ _ _ _ => rfl
  clear hr hi hR hb0 HEE HLK HV0 hNR hcl hlv hty hC0
  generalize hp : w.heap.size = p at *
  go_enter Tryz.func31, Tryz.ntmps31
  go_wp2_with fail
  generalize hW : (((w.alloc (.cells #[.int .i64 m, .slice a l.length cap] 24)).alloc (.cells #[.slice ba bs.length bc, .slice ca C.length cc] 28)).alloc (.cells #[.int .i64 q] 3)) = W at *
  clear hW
  refine HL.out.mono ?_
  rintro e w1 ⟨rfl, hb1⟩
  have HB1 : Hid (Below p w w1) := HB0.out.trans (hb1.mono (by omega))
  obtain ⟨⟨k0, k1⟩, _⟩ := two_cells (((hb1.block p (by omega)).trans HG0.out))
  have k4 := cell_of_one ((hb1.block (p + 1 + 1) (by omega)).trans HG2.out)
  have hw1 : p + 2 < w1.heap.size := by have := hb1.size; omega
  have HB2 : Hid (Below p w (w1.alloc (.cells #[.slice va m vc] 132))) := HB1.out.alloc (by omega) _
  have HG3 := hid (heap_top w1 (.cells #[.slice va m vc] 132))
  have j0 : (w1.alloc (.cells #[.slice va m vc] 132)).cell? ⟨p, 0, none⟩ = some (.int .i64 m) := (World.cell?_of_block (w := w1) (a := ⟨p, 0, none⟩) (Below.heap_alloc _ _ _ (by show p < _; omega))).trans k0
  have j1 : (w1.alloc (.cells #[.slice va m vc] 132)).cell? ⟨p, 1, none⟩ = some (.slice a l.length cap) := (World.cell?_of_block (w := w1) (a := ⟨p, 1, none⟩) (Below.heap_alloc _ _ _ (by show p < _; omega))).trans k1
  have HK4 : Hid ((w1.alloc (.cells #[.slice va m vc] 132)).cell? ⟨p + 1 + 1, 0, none⟩ = some (.int .i64 q)) := (World.cell?_of_block (w := w1) (a := ⟨p + 1 + 1, 0, none⟩) (Below.heap_alloc _ _ _ (by show p + 1 + 1 < _; omega))).trans k4
  clear a0 a1 a2 a3 a4 hb1 HL hg0 hg1 hg2 HB0 HG0 HG1 HG2 k0 k1 k4
  go_wp2_with fail
  have hv1 : (w1.alloc (.cells #[.slice va m vc] 132)).heap.size = w1.heap.size + 1 := by simp
  generalize hV : w1.alloc (.cells #[.slice va m vc] 132) = V at *
  clear hV
  refine (cArcsI_any m (.pointer (some ⟨w1.heap.size, 0, none⟩)) (.pointer (some ⟨p + 1 + 1, 0, none⟩)) a l cap (hld L q) V hl8 (HRA.out.on (hp ▸ HB2.out)) (fun i hi W2 hb => ?_)).mono ?_
  ·have hbw : Below p w W2 := HB2.out.trans (hb.mono (by omega))
   have hvz := hb.size
   refine ceI1_any w1.heap.size (p + 1 + 1) va L vc q _ W2 (chk_in HC0.out hi) (by rw [HM.out]; exact hL) ?_ ((hb.cell (p := ⟨p + 1 + 1, 0, none⟩) (by show p + 1 + 1 < _; omega)).trans HK4.out) (HIL.out.on (hp ▸ hbw))
   rw [HM.out]
   exact (hb.cell (p := ⟨w1.heap.size, 0, none⟩) (by show w1.heap.size < _; omega)).trans (cell_of_one HG3.out)
  ·rintro e w3 ⟨v, rfl, hrow, hb3⟩
   have HR3 := hid (hrow.base (C := p) (by omega))
   have HB3 : Hid (Below p w w3) := HB2.out.trans (hb3.mono (by omega))
   clear hrow hb3 j0 j1
   go_wp2_with fail
   go_ret2
   exact ⟨v, rfl, HR3.out, HB3.out⟩
 ·have e1 : (E != 0) = true := by simpa using h1
  have HV0 : Hid (inV N l bs (csl C) k x = []) := by show _ = _; unfold inV; rw [if_neg (by rw [HEE.out]; exact h1)]
  rw [HV0.out]
  have HL := hid (HLK.out.mono (fun e w' h => (⟨h.2.1 h1, h.2.2⟩ : e = .returned (.tuple #[.slice none 0 0, .int .i64 E]) ∧ _)))
  clear hr hi hR hb0 HEE HLK HV0
  generalize hp : w.heap.size = p at *
  go_enter Tryz.func31, Tryz.ntmps31
  go_wp2_with fail
  generalize hW : (((w.alloc (.cells #[.int .i64 N, .slice a l.length cap] 24)).alloc (.cells #[.slice ba bs.length bc, .slice ca C.length cc] 28)).alloc (.cells #[.int .i64 x] 3)) = W at *
  clear hW
  refine HL.out.mono ?_
  rintro e w1 ⟨rfl, hb1⟩
  have HB1 : Hid (Below p w w1) := HB0.out.trans (hb1.mono (by omega))
  clear a0 a1 a2 a3 a4 hb1 HL hg0 hg1 hg2 HB0 HG0 HG1 HG2
  have HB2 : Hid (Below p w (w1.alloc (.cells #[.slice none 0 0] 132))) := HB1.out.alloc (by have := HB1.out.size; omega) _
  go_wp2_with fail
  go_ret2
  exact ⟨none, rfl, Or.inl ⟨rfl, rfl⟩, HB2.out⟩
set_option maxHeartbeats 1600000 in
theorem boundary_any (N : Int) (a : Option Addr) (l : List A) (cap : Nat) (ba : Option Addr) (bs : List Int) (bc : Nat) (ca : Option Addr) (C : List Cl) (cc : Nat) (k x : Int) (w : World) (hl : l.length ≤ 9223372036854775807) (hbl : bs.length ≤ 9223372036854775807) (hr : Arcs w a l) (hi : Ints w ba bs) (hR : Rws w ca C) :
  Calls Tryz.prog 148 #[.agg #[.int .i64 N, .slice a l.length cap], .agg #[.slice ba bs.length bc, .slice ca C.length cc], .int .i64 k, .int .i64 x] w fun e w' => ∃ v, e = .returned (.tuple #[.slice v (bdV N l bs (csl C) k x).length (bdV N l bs (csl C) k x).length, .int .i64 (inE N l bs (csl C) k x)]) ∧ RowI w' w.heap.size v (ints (bdV N l bs (csl C) k x)) ∧ Below w.heap.size w w' := by
 have hb0 : Below w.heap.size w (((w.alloc (.cells #[.int .i64 N, .slice a l.length cap] 24)).alloc (.cells #[.slice ba bs.length bc, .slice ca C.length cc] 28)).alloc (.cells #[.int .i64 x] 3)) := (top3 w _ _ _).2.2.2.1
 have hg0 := (top3 w (.cells #[.int .i64 N, .slice a l.length cap] 24) (.cells #[.slice ba bs.length bc, .slice ca C.length cc] 28) (.cells #[.int .i64 x] 3)).1
 have hg1 := (top3 w (.cells #[.int .i64 N, .slice a l.length cap] 24) (.cells #[.slice ba bs.length bc, .slice ca C.length cc] 28) (.cells #[.int .i64 x] 3)).2.1
 have hg2 := (top3 w (.cells #[.int .i64 N, .slice a l.length cap] 24) (.cells #[.slice ba bs.length bc, .slice ca C.length cc] 28) (.cells #[.int .i64 x] 3)).2.2.1
 have hsz := (top3 w (.cells #[.int .i64 N, .slice a l.length cap] 24) (.cells #[.slice ba bs.length bc, .slice ca C.length cc] 28) (.cells #[.int .i64 x] 3)).2.2.2.2
 obtain ⟨⟨a0, a1⟩, _⟩ := two_cells hg0
 obtain ⟨⟨a2, a3⟩, _⟩ := two_cells hg1
 have a4 := cell_of_one hg2
 have HB0 := hid hb0
 have HG0 := hid hg0
 have HG1 := hid hg1
 have HG2 := hid hg2
 have HLK := hid (ceLook_any N a l cap ba bs bc ca C cc k x _ hl hbl (hr.on hb0) (hi.on hb0) (hR.on hb0))
 obtain ⟨E, HE⟩ := named (inE N l bs (csl C) k x)
 have HEE := HE
 rw [HE.out] at HLK
 rw [HE.out]
 clear HE
 by_cases h1 : E = 0
 ·subst h1
  obtain ⟨hNR, j, q, rfl, hj, rfl, hq⟩ := inE_zero HEE.out
  have hcl : C.length = bs.length := by have := hNR.2.2.2.1; rw [csl_len] at this; exact this
  have hjC : j < C.length := by omega
  obtain ⟨hlv, hty, _, _⟩ := hNR.lv hj
  rw [csl_at] at hlv hty
  have hC0 : chkE ((cl C j).xs.length : Nat) l = 0 := by rw [hlv]; exact hNR.1
  have hN : N = ((cl C j).xs.length : Nat) := hlv.symm
  have hL : (cl C j).xs.length ≤ 1024 := by have := (chk_zero hC0).2.1; omega
  have hl8 : l.length ≤ 8192 := (chk_zero hC0).2.2.1
  have ej : ((j : Int) + 1).toNat - 1 = j := by omega
  have HV0 : Hid (bdV N l bs (csl C) ((j : Int) + 1) (q : Int) = cho (bdP (cl C j).xs l (q : Int)) (cl C j).xs.length) := by show _ = _; unfold bdV; rw [if_pos HEE.out, ej, csl_at, hN, Int.toNat_natCast]; rfl
  rw [HV0.out]
  have HL := hid (HLK.out.mono (fun e w' h => (⟨h.1 rfl, h.2.2⟩ : e = .returned (.tuple #[.slice (cl C (((j : Int) + 1).toNat - 1)).a (cl C (((j : Int) + 1).toNat - 1)).xs.length (cl C (((j : Int) + 1).toNat - 1)).c, .int .i64 0]) ∧ _)))
  rw [ej] at HL
  obtain ⟨L, va, vc, HLL, HVA, HVC⟩ : ∃ L va vc, Hid ((cl C j).xs = L) ∧ Hid ((cl C j).a = va) ∧ Hid ((cl C j).c = vc) := ⟨_, _, _, rfl, rfl, rfl⟩
  rw [HLL.out] at hC0 hL HL hN HV0
  rw [HLL.out]
  rw [HVA.out, HVC.out] at HL
  have HIL : Hid (Ints w va L) := by have := (hR.2 j hjC).1; rw [HLL.out, HVA.out] at this; exact this
  have HC0 := hid hC0
  obtain ⟨m, HM⟩ := named L.length
  rw [HM.out] at HL hN hL
  subst hN
  have HRA := hid hr
  rw [HM.out]
  clear hR hNR
  have hmf : ∀ (fn : Fn) (first cap : Array Value) (w : World), (Instr.makeFunc fn first cap).run Tryz.prog w = .ok (.func fn first cap) w := fun _ _ _ _ => rfl
  clear hr hi hb0 HEE HLK HV0 hcl hlv hty hC0
  generalize hp : w.heap.size = p at *
  go_enter Tryz.func148, Tryz.ntmps148
  go_wp2_with fail
  generalize hW : (((w.alloc (.cells #[.int .i64 m, .slice a l.length cap] 24)).alloc (.cells #[.slice ba bs.length bc, .slice ca C.length cc] 28)).alloc (.cells #[.int .i64 q] 3)) = W at *
  clear hW
  refine HL.out.mono ?_
  rintro e w1 ⟨rfl, hb1⟩
  have HB1 : Hid (Below p w w1) := HB0.out.trans (hb1.mono (by omega))
  obtain ⟨⟨k0, k1⟩, _⟩ := two_cells (((hb1.block p (by omega)).trans HG0.out))
  obtain ⟨⟨k2, k3⟩, _⟩ := two_cells (((hb1.block (p + 1) (by omega)).trans HG1.out))
  have k4 := cell_of_one ((hb1.block (p + 1 + 1) (by omega)).trans HG2.out)
  have hw1 : p + 2 < w1.heap.size := by have := hb1.size; omega
  have HB2 : Hid (Below p w (w1.alloc (.cells #[.slice va m vc] 132))) := HB1.out.alloc (by omega) _
  have HG3 := hid (heap_top w1 (.cells #[.slice va m vc] 132))
  have j0 : (w1.alloc (.cells #[.slice va m vc] 132)).cell? ⟨p, 0, none⟩ = some (.int .i64 m) := (World.cell?_of_block (w := w1) (a := ⟨p, 0, none⟩) (Below.heap_alloc _ _ _ (by show p < _; omega))).trans k0
  have j1 : (w1.alloc (.cells #[.slice va m vc] 132)).cell? ⟨p, 1, none⟩ = some (.slice a l.length cap) := (World.cell?_of_block (w := w1) (a := ⟨p, 1, none⟩) (Below.heap_alloc _ _ _ (by show p < _; omega))).trans k1
  have j3 : (w1.alloc (.cells #[.slice va m vc] 132)).cell? ⟨p + 1, 1, none⟩ = some (.slice ca C.length cc) := (World.cell?_of_block (w := w1) (a := ⟨p + 1, 1, none⟩) (Below.heap_alloc _ _ _ (by show p + 1 < _; omega))).trans k3
  have HK4 : Hid ((w1.alloc (.cells #[.slice va m vc] 132)).cell? ⟨p + 1 + 1, 0, none⟩ = some (.int .i64 q)) := (World.cell?_of_block (w := w1) (a := ⟨p + 1 + 1, 0, none⟩) (Below.heap_alloc _ _ _ (by show p + 1 + 1 < _; omega))).trans k4
  have j5 := cell_of_one HG3.out
  clear a0 a1 a2 a3 a4 hb1 HL hg0 hg1 hg2 HB0 HG0 HG1 HG2 k0 k1 k2 k3 k4
  clear j3
  go_wp2_with fail
  have hv1 : (w1.alloc (.cells #[.slice va m vc] 132)).heap.size = w1.heap.size + 1 := by simp
  have HJ0 := hid j0
  have HJ1 := hid j1
  have HCR := hid (crossed_any va L vc a l cap (w1.alloc (.cells #[.slice va m vc] 132)) HC0.out (HRA.out.on (hp ▸ HB2.out)) (HIL.out.on (hp ▸ HB2.out)))
  rw [HM.out] at HCR
  generalize hV : w1.alloc (.cells #[.slice va m vc] 132) = V at *
  clear hV j0 j1 j5
  refine HCR.out.mono ?_
  rintro e w2 ⟨g, rfl, hgV, hT, hb2⟩
  have hz2 := hb2.size
  have hgl : g < w2.heap.size := hT.lt
  have HB3 : Hid (Below p w (w2.alloc (.cells #[.slice (some ⟨g, 0, none⟩) m m] 160))) := (HB2.out.trans (hb2.mono (by omega))).alloc (by omega) _
  have HBV : Hid (Below V.heap.size V (w2.alloc (.cells #[.slice (some ⟨g, 0, none⟩) m m] 160))) := hb2.alloc (by omega) _
  have HG4 := hid (heap_top w2 (.cells #[.slice (some ⟨g, 0, none⟩) m m] 160))
  have HT3 : Hid (TbV (w2.alloc (.cells #[.slice (some ⟨g, 0, none⟩) m m] 160)) g m 4 (boV (crs L l l.length))) := hT.same (Below.heap_alloc _ _ _ hgl)
  have i0 := (HBV.out.cell (p := ⟨p, 0, none⟩) (by show p < _; omega)).trans HJ0.out
  have hu1 : (w2.alloc (.cells #[.slice (some ⟨g, 0, none⟩) m m] 160)).heap.size = w2.heap.size + 1 := by simp
  clear HCR hT hb2
  go_wp2_with fail
  generalize hU : w2.alloc (.cells #[.slice (some ⟨g, 0, none⟩) m m] 160) = U at *
  clear hU
  refine (chosenB_any m (bdP L l q) (.pointer (some ⟨w1.heap.size, 0, none⟩)) (.pointer (some ⟨p + 1 + 1, 0, none⟩)) (.pointer (some ⟨w2.heap.size, 0, none⟩)) U (by omega) (fun i hi W2 hb => ?_)).mono ?_
  ·have hbw : Below p w W2 := HB3.out.trans (hb.mono (by omega))
   have hbv : Below V.heap.size V W2 := HBV.out.trans (hb.mono (by omega))
   refine ceB1_any i m w1.heap.size (p + 1 + 1) w2.heap.size g va L vc q (crs L l l.length) W2 hi HM.out hL ?_ ((hbv.cell (p := ⟨p + 1 + 1, 0, none⟩) (by show p + 1 + 1 < _; omega)).trans HK4.out) ((hb.cell (p := ⟨w2.heap.size, 0, none⟩) (by show w2.heap.size < _; omega)).trans (cell_of_one HG4.out)) (HIL.out.on (hp ▸ hbw)) (HT3.out.same (hb.block g (by omega)))
   rw [HM.out]
   exact (hbv.cell (p := ⟨w1.heap.size, 0, none⟩) (by show w1.heap.size < _; omega)).trans (cell_of_one HG3.out)
  ·rintro e w3 ⟨v, rfl, hrow, hb3⟩
   have HR3 := hid (hrow.base (C := p) (by omega))
   have HB4 : Hid (Below p w w3) := HB3.out.trans (hb3.mono (by omega))
   clear hrow hb3 i0
   go_wp2_with fail
   go_ret2
   exact ⟨v, rfl, HR3.out, HB4.out⟩
 ·have e1 : (E != 0) = true := by simpa using h1
  have HV0 : Hid (bdV N l bs (csl C) k x = []) := by show _ = _; unfold bdV; rw [if_neg (by rw [HEE.out]; exact h1)]
  rw [HV0.out]
  have HL := hid (HLK.out.mono (fun e w' h => (⟨h.2.1 h1, h.2.2⟩ : e = .returned (.tuple #[.slice none 0 0, .int .i64 E]) ∧ _)))
  clear hr hi hR hb0 HEE HLK HV0
  generalize hp : w.heap.size = p at *
  go_enter Tryz.func148, Tryz.ntmps148
  go_wp2_with fail
  generalize hW : (((w.alloc (.cells #[.int .i64 N, .slice a l.length cap] 24)).alloc (.cells #[.slice ba bs.length bc, .slice ca C.length cc] 28)).alloc (.cells #[.int .i64 x] 3)) = W at *
  clear hW
  refine HL.out.mono ?_
  rintro e w1 ⟨rfl, hb1⟩
  have HB1 : Hid (Below p w w1) := HB0.out.trans (hb1.mono (by omega))
  clear a0 a1 a2 a3 a4 hb1 HL hg0 hg1 hg2 HB0 HG0 HG1 HG2
  have HB2 : Hid (Below p w (w1.alloc (.cells #[.slice none 0 0] 132))) := HB1.out.alloc (by have := HB1.out.size; omega) _
  go_wp2_with fail
  go_ret2
  exact ⟨none, rfl, Or.inl ⟨rfl, rfl⟩, HB2.out⟩
theorem six_cells {w : World} {g : Nat} {a b c d e f : Value} {t : TypeId} (h : w.heap[g]? = some (.cells #[a, b, c, d, e, f] t)) : w.cell? ⟨g, 0, none⟩ = some a ∧ w.cell? ⟨g, 1, none⟩ = some b ∧ w.cell? ⟨g, 2, none⟩ = some c ∧ w.cell? ⟨g, 3, none⟩ = some d ∧ w.cell? ⟨g, 4, none⟩ = some e ∧ w.cell? ⟨g, 5, none⟩ = some f := by
 simp [World.cell?, h]
def epB (x : Int) : Bool := decide (0 ≤ x) && decide (x ≤ 1073741824)
def jbE (ep : Int) (m k : Nat) : Int := if epB ep = false then 1 else if m ≠ k then 4 else 0
set_option maxHeartbeats 1600000 in
theorem plInner_any (N : Int) (a : Option Addr) (l : List A) (cap : Nat) (ba : Option Addr) (bs : List Int) (bc : Nat) (ca : Option Addr) (C : List Cl) (cc : Nat) (lv ce : Int) (w : World) (hl : l.length ≤ 9223372036854775807) (hbl : bs.length ≤ 9223372036854775807) (hr : Arcs w a l) (hi : Ints w ba bs) (hR : Rws w ca C) :
  Calls Tryz.prog 154 #[.agg #[.int .i64 N, .slice a l.length cap, .slice ba bs.length bc, .slice ca C.length cc, .int .i64 lv, .int .i64 ce]] w fun e w' => ∃ v, e = .returned (.tuple #[.slice v (inV N l bs (csl C) lv ce).length (inV N l bs (csl C) lv ce).length, .int .i64 (inE N l bs (csl C) lv ce)]) ∧ RowI w' w.heap.size v (ints (inV N l bs (csl C) lv ce)) ∧ Below w.heap.size w w' := by
 have hg := heap_top w (.cells #[.int .i64 N, .slice a l.length cap, .slice ba bs.length bc, .slice ca C.length cc, .int .i64 lv, .int .i64 ce] 118)
 have hb0 : Below w.heap.size w (w.alloc (.cells #[.int .i64 N, .slice a l.length cap, .slice ba bs.length bc, .slice ca C.length cc, .int .i64 lv, .int .i64 ce] 118)) := (Below.refl _ _).alloc (Nat.le_refl _) _
 obtain ⟨c0, c1, c2, c3, c4, c5⟩ := six_cells hg
 have HC := hid (inner_any N a l cap ba bs bc ca C cc lv ce _ hl hbl (hr.on hb0) (hi.on hb0) (hR.on hb0))
 have HB0 := hid hb0
 have hsz : (w.alloc (.cells #[.int .i64 N, .slice a l.length cap, .slice ba bs.length bc, .slice ca C.length cc, .int .i64 lv, .int .i64 ce] 118)).heap.size = w.heap.size + 1 := by simp
 obtain ⟨E, HE⟩ := named (inE N l bs (csl C) lv ce)
 obtain ⟨S, HS⟩ := named (inV N l bs (csl C) lv ce)
 rw [HE.out, HS.out] at HC
 rw [HE.out, HS.out]
 clear hr hi hR hb0 hg
 generalize hp : w.heap.size = p at *
 go_enter Tryz.func154, Tryz.ntmps154
 go_wp2_with fail
 refine HC.out.mono ?_
 rintro e w2 ⟨v, rfl, hr2, hb2⟩
 have HB2 : Hid (Below p w w2) := HB0.out.trans (hb2.mono (by omega))
 have HR2 := hid (hr2.base (C := p) (by omega))
 clear hr2 hb2 HC c0 c1 c2 c3 c4 c5
 go_wp2_with fail
 go_ret2
 exact ⟨v, rfl, HR2.out, HB2.out⟩
set_option maxHeartbeats 1600000 in
theorem plBound_any (N : Int) (a : Option Addr) (l : List A) (cap : Nat) (ba : Option Addr) (bs : List Int) (bc : Nat) (ca : Option Addr) (C : List Cl) (cc : Nat) (lv ce : Int) (w : World) (hl : l.length ≤ 9223372036854775807) (hbl : bs.length ≤ 9223372036854775807) (hr : Arcs w a l) (hi : Ints w ba bs) (hR : Rws w ca C) :
  Calls Tryz.prog 76 #[.agg #[.int .i64 N, .slice a l.length cap, .slice ba bs.length bc, .slice ca C.length cc, .int .i64 lv, .int .i64 ce]] w fun e w' => ∃ v, e = .returned (.tuple #[.slice v (bdV N l bs (csl C) lv ce).length (bdV N l bs (csl C) lv ce).length, .int .i64 (inE N l bs (csl C) lv ce)]) ∧ RowI w' w.heap.size v (ints (bdV N l bs (csl C) lv ce)) ∧ Below w.heap.size w w' := by
 have hg := heap_top w (.cells #[.int .i64 N, .slice a l.length cap, .slice ba bs.length bc, .slice ca C.length cc, .int .i64 lv, .int .i64 ce] 118)
 have hb0 : Below w.heap.size w (w.alloc (.cells #[.int .i64 N, .slice a l.length cap, .slice ba bs.length bc, .slice ca C.length cc, .int .i64 lv, .int .i64 ce] 118)) := (Below.refl _ _).alloc (Nat.le_refl _) _
 obtain ⟨c0, c1, c2, c3, c4, c5⟩ := six_cells hg
 have HC := hid (boundary_any N a l cap ba bs bc ca C cc lv ce _ hl hbl (hr.on hb0) (hi.on hb0) (hR.on hb0))
 have HB0 := hid hb0
 have hsz : (w.alloc (.cells #[.int .i64 N, .slice a l.length cap, .slice ba bs.length bc, .slice ca C.length cc, .int .i64 lv, .int .i64 ce] 118)).heap.size = w.heap.size + 1 := by simp
 obtain ⟨E, HE⟩ := named (inE N l bs (csl C) lv ce)
 obtain ⟨S, HS⟩ := named (bdV N l bs (csl C) lv ce)
 rw [HE.out, HS.out] at HC
 rw [HE.out, HS.out]
 clear hr hi hR hb0 hg
 generalize hp : w.heap.size = p at *
 go_enter Tryz.func76, Tryz.ntmps76
 go_wp2_with fail
 refine HC.out.mono ?_
 rintro e w2 ⟨v, rfl, hr2, hb2⟩
 have HB2 : Hid (Below p w w2) := HB0.out.trans (hb2.mono (by omega))
 have HR2 := hid (hr2.base (C := p) (by omega))
 clear hr2 hb2 HC c0 c1 c2 c3 c4 c5
 go_wp2_with fail
 go_ret2
 exact ⟨v, rfl, HR2.out, HB2.out⟩
set_option maxHeartbeats 1600000 in
theorem isEpoch_any (x : Int) (w : World) : Calls Tryz.prog 149 #[.int .i64 x] w fun e w' => e = .returned (.bool (epB x)) ∧ w' = w := by
 unfold epB
 by_cases h1 : 0 ≤ x
 ·rw [decide_eq_true h1]
  by_cases h2 : x ≤ 1073741824
  ·rw [decide_eq_true h2]
   go_enter Tryz.func149, Tryz.ntmps149
   go_wp2_with fail
   go_ret
   exact ⟨rfl, rfl⟩
  ·rw [decide_eq_false h2]
   go_enter Tryz.func149, Tryz.ntmps149
   go_wp2_with fail
   go_ret
   exact ⟨rfl, rfl⟩
 ·rw [decide_eq_false h1]
  go_enter Tryz.func149, Tryz.ntmps149
  go_wp2_with fail
  go_ret
  exact ⟨rfl, rfl⟩
set_option maxHeartbeats 1600000 in
theorem checkJob_any (ep : Int) (wa : Option Addr) (m wc : Nat) (ia : Option Addr) (k ic : Nat) (w : World) : Calls Tryz.prog 133 #[.int .i64 ep, .slice wa m wc, .slice ia k ic] w fun e w' => e = .returned (.int .i64 (jbE ep m k)) ∧ w' = w := by
 have HE := hid (isEpoch_any ep w)
 unfold jbE
 obtain ⟨E, HEP⟩ := named (epB ep)
 rw [HEP.out] at HE
 rw [HEP.out]
 rcases E with _ | _
 ·rw [if_pos rfl]
  go_enter Tryz.func133, Tryz.ntmps133
  go_wp2_with fail
  refine HE.out.mono ?_
  rintro e w2 ⟨rfl, rfl⟩
  go_wp2_with fail
  go_ret
  exact ⟨rfl, rfl⟩
 ·rw [if_neg (by simp)]
  by_cases h : m = k
  ·have e1 : ((m : Int) != (k : Int)) = false := by subst h; simp
   rw [if_neg (by simpa using h)]
   clear h
   go_enter Tryz.func133, Tryz.ntmps133
   go_wp2_with fail
   refine HE.out.mono ?_
   rintro e w2 ⟨rfl, rfl⟩
   go_wp2_with fail
   go_ret
   exact ⟨rfl, rfl⟩
  ·have e1 : ((m : Int) != (k : Int)) = true := by simp; omega
   rw [if_pos h]
   clear h
   go_enter Tryz.func133, Tryz.ntmps133
   go_wp2_with fail
   refine HE.out.mono ?_
   rintro e w2 ⟨rfl, rfl⟩
   go_wp2_with fail
   go_ret
   exact ⟨rfl, rfl⟩
end Go.Proofs.YtaafkpojjdjphaaGreat
