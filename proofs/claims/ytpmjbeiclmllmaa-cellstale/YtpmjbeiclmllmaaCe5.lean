/-
  Contracts of what is handed to chosen: Boundary$1, Inner$1, Between$1; lookInto of cell.
-/
import Derived.Test.YtpmjbeiclmllmaaCe4
import Derived.Test.YtpmjbeiclmllmaaNsJ
namespace Go.Proofs.Ytpmjbeiclmllmaa
open Go.RowKit
set_option maxRecDepth 100000 in
set_option maxHeartbeats 1600000 in
theorem ceB1_any (v n b1 b2 b3 g : Nat) (b : Option Addr) (L : List Int) (bc : Nat) (q : Int) (T : Nat → Bool) (w : World) (hv : v < n) (hLn : L.length = n) (hn : n ≤ 1024) (c1 : w.cell? ⟨b1, 0, none⟩ = some (.slice b L.length bc)) (c2 : w.cell? ⟨b2, 0, none⟩ = some (.int .i64 q)) (c3 : w.cell? ⟨b3, 0, none⟩ = some (.slice (some ⟨g, 0, none⟩) n n)) (hi : Ints w b L) (hT : TbV w g n 4 (boV T)) :
    Calls Try.prog 49 #[.int .i64 v, .pointer (some ⟨b1, 0, none⟩), .pointer (some ⟨b2, 0, none⟩), .pointer (some ⟨b3, 0, none⟩)] w fun e w' => e = .returned (.bool (decide (L.getD v 0 = q) && T v)) ∧ Below w.heap.size w w' := by
  obtain ⟨ix, ox, hix⟩ := hi.get
  obtain ⟨rfl, _, hat⟩ := hix (by omega)
  have d1 := hat v (by omega)
  have d2 := hT.cell hv
  have e2 : boV T v = .bool (T v) := rfl
  rw [e2] at d2
  have hv1 : (v : Int) < n := by omega
  rw [hLn] at c1
  clear e2 hat hix hi hT
  generalize T v = tv at *
  generalize L.getD v 0 = y at *
  clear hLn
  by_cases h1 : y = q
  · have e1 : (y == q) = true := by simpa using h1
    rw [decide_eq_true h1, Bool.true_and]
    clear h1
    go_enter Try.func49, Try.ntmps49
    go_wp2_with fail
    go_quiet (fail)
    go_wp2_with fail
    go_ret
    exact ⟨rfl, below_drewN _ _ _⟩
  · have e1 : (y == q) = false := by simpa using h1
    have e3 : decide (y = q) = false := decide_eq_false h1
    rw [e3, Bool.false_and]
    clear h1
    go_enter Try.func49, Try.ntmps49
    go_wp2_with fail
    go_quiet (fail)
    go_wp2_with fail
    go_ret
    exact ⟨rfl, below_drewN _ _ _⟩
set_option maxRecDepth 100000 in
set_option maxHeartbeats 1600000 in
theorem ceI1_any (b1 b2 : Nat) (b : Option Addr) (L : List Int) (bc : Nat) (q : Int) (x : A) (w : World) (hx : inA L.length x) (hL : L.length ≤ 1024) (c1 : w.cell? ⟨b1, 0, none⟩ = some (.slice b L.length bc)) (c2 : w.cell? ⟨b2, 0, none⟩ = some (.int .i64 q)) (hi : Ints w b L) :
    Calls Try.prog 55 #[.agg #[.int .i64 x.f, .int .i64 x.t, .int .u32 x.w], .pointer (some ⟨b1, 0, none⟩), .pointer (some ⟨b2, 0, none⟩)] w fun e w' => e = .returned (.bool (hld L q x)) ∧ Below w.heap.size w w' := by
  have hb0 : Below w.heap.size w (w.alloc (.cells #[.int .i64 x.f, .int .i64 x.t, .int .u32 x.w] 56)) := (Below.refl _ _).alloc (Nat.le_refl _) _
  have hg := heap_top w (.cells #[.int .i64 x.f, .int .i64 x.t, .int .u32 x.w] 56)
  obtain ⟨g0, g1, g2⟩ := three_cells hg
  have d1 := (hb0.cell (p := ⟨b1, 0, none⟩) (World.block_lt_of_cell? w _ c1)).trans c1
  have d2 := (hb0.cell (p := ⟨b2, 0, none⟩) (World.block_lt_of_cell? w _ c2)).trans c2
  have HH := Lib.hid (ceHold_any b L bc q x _ hx hL (hi.on hb0))
  have HB0 := Lib.hid hb0
  have hwz := hb0.size
  generalize hld L q x = R at *
  clear hi hb0 hg hx c1 c2 hL
  go_enter Try.func55, Try.ntmps55
  go_wp2_with fail
  refine HH.out.mono ?_
  rintro e w1 ⟨rfl, hb1⟩
  have HB1 : Hid (Below w.heap.size w w1) := HB0.out.trans (hb1.mono hwz)
  clear hb1 HB0 HH d1 d2 g0 g1 g2
  go_wp2_with fail
  go_ret
  exact ⟨rfl, HB1.out⟩
set_option maxRecDepth 100000 in
set_option maxHeartbeats 1600000 in
theorem ceW1_any (b1 b2 b3 : Nat) (b : Option Addr) (L : List Int) (bc : Nat) (d : Option Addr) (M : List Int) (dc : Nat) (q : Int) (x : A) (w : World) (hx : inA L.length x) (hL : L.length ≤ 1024) (hM : M.length = L.length) (c1 : w.cell? ⟨b1, 0, none⟩ = some (.slice b L.length bc)) (c2 : w.cell? ⟨b2, 0, none⟩ = some (.int .i64 q)) (c3 : w.cell? ⟨b3, 0, none⟩ = some (.slice d M.length dc)) (hi : Ints w b L) (hj : Ints w d M) :
    Calls Try.prog 58 #[.agg #[.int .i64 x.f, .int .i64 x.t, .int .u32 x.w], .pointer (some ⟨b1, 0, none⟩), .pointer (some ⟨b2, 0, none⟩), .pointer (some ⟨b3, 0, none⟩)] w fun e w' => e = .returned (.bool (btP L M q x)) ∧ Below w.heap.size w w' := by
  have hb0 : Below w.heap.size w (w.alloc (.cells #[.int .i64 x.f, .int .i64 x.t, .int .u32 x.w] 56)) := (Below.refl _ _).alloc (Nat.le_refl _) _
  have hg := heap_top w (.cells #[.int .i64 x.f, .int .i64 x.t, .int .u32 x.w] 56)
  have HG := Lib.hid hg
  obtain ⟨g0, g1, g2⟩ := three_cells hg
  have d1 := (hb0.cell (p := ⟨b1, 0, none⟩) (World.block_lt_of_cell? w _ c1)).trans c1
  have d2 := (hb0.cell (p := ⟨b2, 0, none⟩) (World.block_lt_of_cell? w _ c2)).trans c2
  have hl3 := World.block_lt_of_cell? w _ c3
  have C3 := Lib.hid c3
  have HH := Lib.hid (ceHold_any b L bc q x _ hx hL (hi.on hb0))
  have HP := Lib.hid (fun W2 (hb : Below w.heap.size w W2) => cePart_any d M dc x W2 (hM ▸ hx) (hM ▸ hL) (hj.on hb))
  have HB0 := Lib.hid hb0
  have hwz := hb0.size
  have HBT : Hid (btP L M q x = (hld L q x && prt M x)) := rfl
  rw [HBT.out]
  clear HBT
  generalize prt M x = R2 at *
  generalize hld L q x = R at *
  have hpw : w.heap.size < (w.alloc (.cells #[.int .i64 x.f, .int .i64 x.t, .int .u32 x.w] 56)).heap.size := by simp
  clear hi hj hb0 hg hx c1 c2 c3 hL hM
  generalize hp : w.heap.size = p at *
  go_enter Try.func58, Try.ntmps58
  go_wp2_with fail
  generalize hW : w.alloc (.cells #[.int .i64 x.f, .int .i64 x.t, .int .u32 x.w] 56) = W at *
  clear hW
  refine HH.out.mono ?_
  rintro e w1 ⟨rfl, hb1⟩
  have HB1 : Hid (Below p w w1) := HB0.out.trans (hb1.mono hwz)
  obtain ⟨k0, k1, k2⟩ := three_cells ((hb1.block p hpw).trans HG.out)
  have d3 := (HB1.out.cell (p := ⟨b3, 0, none⟩) (hp ▸ hl3)).trans C3.out
  have hz1 : p ≤ w1.heap.size := by have := hb1.size; omega
  clear hb1 HB0 HH d1 d2 g0 g1 g2 HG C3
  rcases R with _ | _
  · clear HP
    go_wp2_with fail
    go_ret
    exact ⟨rfl, HB1.out⟩
  · go_wp2_with fail
    refine (HP.out w1 HB1.out).mono ?_
    rintro e w2 ⟨rfl, hb2⟩
    have HB2 : Hid (Below p w w2) := HB1.out.trans (hb2.mono hz1)
    clear hb2 HB1 HP d3 k0 k1 k2
    go_wp2_with fail
    go_ret
    exact ⟨rfl, HB2.out⟩
set_option maxRecDepth 100000 in
set_option maxHeartbeats 1600000 in
theorem ceLook_any (N : Int) (a : Option Addr) (l : List A) (cap : Nat) (ba : Option Addr) (bs : List Int) (bc : Nat) (ca : Option Addr) (C : List Cl) (cc : Nat) (k x : Int) (w : World) (hl : l.length ≤ 9223372036854775807) (hbl : bs.length ≤ 9223372036854775807) (hr : Arcs w a l) (hi : Ints w ba bs) (hR : Rws w ca C) :
    Calls Try.prog 46 #[.agg #[.int .i64 N, .slice a l.length cap], .agg #[.slice ba bs.length bc, .slice ca C.length cc], .int .i64 k, .int .i64 x] w fun e w' => (inE N l bs (csl C) k x = 0 → e = .returned (.tuple #[.slice (cl C (k.toNat - 1)).a (cl C (k.toNat - 1)).xs.length (cl C (k.toNat - 1)).c, .int .i64 0])) ∧ (inE N l bs (csl C) k x ≠ 0 → e = .returned (.tuple #[.slice none 0 0, .int .i64 (inE N l bs (csl C) k x)])) ∧ Below w.heap.size w w' := by
  have hb0 : Below w.heap.size w ((w.alloc (.cells #[.int .i64 N, .slice a l.length cap] 24)).alloc (.cells #[.slice ba bs.length bc, .slice ca C.length cc] 28)) := (top2 w _ _).2.2.1
  have hg0 := (top2 w (.cells #[.int .i64 N, .slice a l.length cap] 24) (.cells #[.slice ba bs.length bc, .slice ca C.length cc] 28)).1
  have hg1 := (top2 w (.cells #[.int .i64 N, .slice a l.length cap] 24) (.cells #[.slice ba bs.length bc, .slice ca C.length cc] 28)).2.1
  have hsz := (top2 w (.cells #[.int .i64 N, .slice a l.length cap] 24) (.cells #[.slice ba bs.length bc, .slice ca C.length cc] 28)).2.2.2
  obtain ⟨⟨a0, a1⟩, _⟩ := two_cells hg0
  obtain ⟨⟨a2, a3⟩, _⟩ := two_cells hg1
  have HB0 := Lib.hid hb0
  have HLK := Lib.hid (members_any N a l cap ba bs bc ca C cc k x _ hl hbl (hr.on hb0) (hi.on hb0) (hR.on hb0))
  have HRW := Lib.hid hR
  obtain ⟨E, HE⟩ := named (inE N l bs (csl C) k x)
  have HEE := HE
  rw [HE.out] at HLK
  rw [HE.out]
  clear HE
  by_cases h1 : E = 0
  · subst h1
    obtain ⟨hNR, j, q, rfl, hj, rfl, hq⟩ := inE_zero HEE.out
    have hcl : C.length = bs.length := by have := hNR.2.2.2.1; rw [csl_len] at this; exact this
    have hjC : j < C.length := by omega
    have ej : (j : Int) + 1 - 1 = j := by omega
    rw [show ((j : Int) + 1).toNat - 1 = j by omega]
    obtain ⟨bx, ox, hbx⟩ := hR.get
    obtain ⟨rfl, hbl2, hcell⟩ := hbx (by omega)
    have d0 := hcell j hjC
    unfold Cl.val at d0
    have HD0 := Lib.hid d0
    have hG3 := Lib.hid hg1
    have hj' : (j : Int) < C.length := by omega
    have h5 : bs.length ≤ 5 := hNR.2.2.1
    have hC5 : C.length ≤ 5 := by omega
    clear hr hi hR hb0 hbx hcell d0 HEE hq HRW hcl hNR
    generalize (cl C j).xs.length = m at *
    generalize (cl C j).a = va at *
    generalize (cl C j).c = vc at *
    generalize hp : w.heap.size = p at *
    go_enter Try.func46, Try.ntmps46
    go_wp2_with fail
    generalize hW : (w.alloc (.cells #[.int .i64 N, .slice a l.length cap] 24)).alloc (.cells #[.slice ba bs.length bc, .slice (some ⟨bx, ox, none⟩) C.length cc] 28) = W at *
    clear hW
    refine HLK.out.mono ?_
    rintro e w1 ⟨v, c, S, rfl, hown, hS, hb1⟩
    have HB1 : Hid (Below p w w1) := HB0.out.trans (hb1.mono (by omega))
    obtain ⟨⟨k2, k3⟩, _⟩ := two_cells ((hb1.block (p + 1) (by omega)).trans hG3.out)
    have d0 := (HB1.out.cell (p := ⟨bx, ox + j, none⟩) (hp ▸ hbl2)).trans HD0.out
    clear a0 a1 a2 a3 hb1 HLK hg0 hg1 HB0 hown hS HD0 hG3
    go_wp2_with fail
    go_ret2
    first | exact ⟨rfl, HB1.out⟩ | exact ⟨(fun _ => rfl), (fun h => absurd rfl h), HB1.out⟩
  · have e1 : (E != 0) = true := by simpa using h1
    clear hr hi hR hb0 HEE HRW
    generalize hp : w.heap.size = p at *
    go_enter Try.func46, Try.ntmps46
    go_wp2_with fail
    generalize hW : (w.alloc (.cells #[.int .i64 N, .slice a l.length cap] 24)).alloc (.cells #[.slice ba bs.length bc, .slice ca C.length cc] 28) = W at *
    clear hW
    refine HLK.out.mono ?_
    rintro e w1 ⟨v, c, S, rfl, hown, hS, hb1⟩
    have HB1 : Hid (Below p w w1) := HB0.out.trans (hb1.mono (by omega))
    clear a0 a1 a2 a3 hb1 HLK hg0 hg1 HB0 hown hS
    go_wp2_with fail
    go_ret2
    first | exact ⟨rfl, HB1.out⟩ | exact ⟨(fun h => absurd h h1), (fun _ => rfl), HB1.out⟩
end Go.Proofs.Ytpmjbeiclmllmaa
