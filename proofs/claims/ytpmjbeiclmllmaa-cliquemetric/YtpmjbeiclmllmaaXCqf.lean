/-
  Whole. A graph and a nest as they lie in a law's variables.
-/
import Derived.Test.YtpmjbeiclmllmaaXCec
import Derived.Test.YtpmjbeiclmllmaaXCqc
import Derived.Test.YtpmjbeiclmllmaaXCqe
namespace Go.Proofs.Ytpmjbeiclmllmaa
open Go.RowKit
/-- A graph and a nest as they lie in the law's variables. -/
structure GN (w : World) (p : Nat) (N : Int) (a : Option Addr) (l : List A) (cap : Nat) (ba : Option Addr) (bs : List Int) (bc : Nat) (ca : Option Addr) (C : List Cl) (cc : Nat) : Prop where
  g : w.heap[p]? = some (.cells #[.int .i64 N, .slice a l.length cap] 24)
  n : w.heap[p + 1]? = some (.cells #[.slice ba bs.length bc, .slice ca C.length cc] 28)
  arcs : Arcs w a l
  ints : Ints w ba bs
  rws : Rws w ca C
theorem GN.on {w w' : World} {p : Nat} {N : Int} {a : Option Addr} {l : List A} {cap : Nat} {ba : Option Addr} {bs : List Int} {bc : Nat} {ca : Option Addr} {C : List Cl} {cc : Nat} (h : GN w p N a l cap ba bs bc ca C cc) (hb : Below w.heap.size w w') : GN w' p N a l cap ba bs bc ca C cc :=
  ⟨(hb.block _ (lt_of_block h.g)).trans h.g, (hb.block _ (lt_of_block h.n)).trans h.n, h.arcs.on hb, h.ints.on hb, h.rws.on hb⟩
theorem GN.cells {w : World} {p : Nat} {N : Int} {a : Option Addr} {l : List A} {cap : Nat} {ba : Option Addr} {bs : List Int} {bc : Nat} {ca : Option Addr} {C : List Cl} {cc : Nat} (h : GN w p N a l cap ba bs bc ca C cc) : w.cell? ⟨p, 0, none⟩ = some (.int .i64 N) ∧ w.cell? ⟨p, 1, none⟩ = some (.slice a l.length cap) ∧ w.cell? ⟨p + 1, 0, none⟩ = some (.slice ba bs.length bc) ∧ w.cell? ⟨p + 1, 1, none⟩ = some (.slice ca C.length cc) := by
  obtain ⟨⟨g0, g1⟩, _⟩ := two_cells h.g
  obtain ⟨⟨g2, g3⟩, _⟩ := two_cells h.n
  exact ⟨g0, g1, g2, g3⟩
end Go.Proofs.Ytpmjbeiclmllmaa
namespace Go.Proofs.Ytpmjbeiclmllmaa
open Go.RowKit
/-- Some arcs of a graph. -/
def wiL (l : List A) (ids : List Nat) : List A := wgL l ids (wtL l (ints ids))
/-- What Whole answers. -/
def whE (N : Int) (l : List A) (bs : List Int) (cs : List (List Int)) (lv ce ep : Int) : Int := if inE N l bs cs lv ce ≠ 0 then inE N l bs cs lv ce else if epB ep = false then 1 else 0
theorem wq_ints {n : Nat} {l : List A} {ids : List Nat} (h : chkE n l = 0) (hid : ∀ i, i < ids.length → ids.getD i 0 < l.length) (h8 : ids.length ≤ 8192) : wqE n l (ints ids) = 0 := by
  unfold wqE
  rw [if_neg (by rw [h]; simp), if_neg (by rw [ints_len]; omega), if_pos]
  rw [List.all_eq_true]
  intro x hx
  obtain ⟨y, hy, rfl⟩ := List.mem_map.1 hx
  obtain ⟨i, hi, rfl⟩ := List.getElem_of_mem hy
  have := hid i hi
  simp [List.getD, hi] at this
  simp
  omega
theorem wt_range {l : List A} {ids : List Nat} (hwt : ∀ x ∈ l, 0 ≤ x.w ∧ x.w < 4294967296) (hid : ∀ i, i < ids.length → ids.getD i 0 < l.length) : ∀ i, i < (wtL l (ints ids)).length → 0 ≤ (wtL l (ints ids)).getD i 0 ∧ (wtL l (ints ids)).getD i 0 < 4294967296 := by
  intro i hi
  rw [wtL_len, ints_len] at hi
  rw [wtL_at (by rw [ints_len]; exact hi), ints_getD hi, Int.toNat_natCast]
  have h1 := hid i hi
  generalize ids.getD i 0 = j at *
  refine hwt _ ?_
  rw [show l.getD j A.zero = l[j] by simp [List.getD, List.getElem?_eq_getElem h1]]
  exact List.getElem_mem h1
set_option maxRecDepth 100000 in
set_option maxHeartbeats 3200000 in
theorem whole_any (N : Int) (a : Option Addr) (l : List A) (cap : Nat) (ba : Option Addr) (bs : List Int) (bc : Nat) (ca : Option Addr) (C : List Cl) (cc : Nat) (lv ce ep : Int) (w : World) (hl : l.length ≤ 9223372036854775807) (hbl : bs.length ≤ 9223372036854775807) (hr : Arcs w a l) (hi : Ints w ba bs) (hR : Rws w ca C) (hwt : ∀ x ∈ l, 0 ≤ x.w ∧ x.w < 4294967296) :
    Calls Try.prog 41 #[.agg #[.int .i64 N, .slice a l.length cap], .agg #[.slice ba bs.length bc, .slice ca C.length cc], .int .i64 lv, .int .i64 ce, .int .i64 ep] w fun e w' => ((whE N l bs (csl C) lv ce ep) = 0 → (∃ v c, e = .returned (.tuple #[.agg #[.int .i64 lv, .int .i64 ce, .int .i64 ep, .slice v (mxL (wiL l (inV N l bs (csl C) lv ce)) (bdV N l bs (csl C) lv ce)).length c], .int .i64 0]) ∧ w'.ownsRow w.heap.size 75 1 (.slice v (mxL (wiL l (inV N l bs (csl C) lv ce)) (bdV N l bs (csl C) lv ce)).length c) (mxL (wiL l (inV N l bs (csl C) lv ce)) (bdV N l bs (csl C) lv ce)).length (cellsU (mxL (wiL l (inV N l bs (csl C) lv ce)) (bdV N l bs (csl C) lv ce))) ∧ ∀ i, i < (bdV N l bs (csl C) lv ce).length → N5.IsD ((wiL l (inV N l bs (csl C) lv ce)).map toN) (fun _ => true) ((bdV N l bs (csl C) lv ce).getD i 0) (dF (wiL l (inV N l bs (csl C) lv ce)) ((bdV N l bs (csl C) lv ce).getD i 0)))) ∧ ((whE N l bs (csl C) lv ce ep) ≠ 0 → e = .returned (.tuple #[.agg #[.int .i64 0, .int .i64 0, .int .i64 0, .slice none 0 0], .int .i64 (whE N l bs (csl C) lv ce ep)])) ∧ Below w.heap.size w w' := by
  obtain ⟨hg0, hg1, hg2, hb0, hsz⟩ := top3 w (.cells #[.int .i64 N, .slice a l.length cap] 24) (.cells #[.slice ba bs.length bc, .slice ca C.length cc] 28) (.cells #[.int .i64 0, .int .i64 0, .int .i64 0, .slice none 0 0] 69)
  have hg3 := heap_top (((w.alloc (.cells #[.int .i64 N, .slice a l.length cap] 24)).alloc (.cells #[.slice ba bs.length bc, .slice ca C.length cc] 28)).alloc (.cells #[.int .i64 0, .int .i64 0, .int .i64 0, .slice none 0 0] 69)) (.cells #[.int .i64 N, .slice a l.length cap, .slice ba bs.length bc, .slice ca C.length cc, .int .i64 lv, .int .i64 ce] 114)
  have hb1 : Below ((((w.alloc (.cells #[.int .i64 N, .slice a l.length cap] 24)).alloc (.cells #[.slice ba bs.length bc, .slice ca C.length cc] 28)).alloc (.cells #[.int .i64 0, .int .i64 0, .int .i64 0, .slice none 0 0] 69))).heap.size (((w.alloc (.cells #[.int .i64 N, .slice a l.length cap] 24)).alloc (.cells #[.slice ba bs.length bc, .slice ca C.length cc] 28)).alloc (.cells #[.int .i64 0, .int .i64 0, .int .i64 0, .slice none 0 0] 69)) ((((w.alloc (.cells #[.int .i64 N, .slice a l.length cap] 24)).alloc (.cells #[.slice ba bs.length bc, .slice ca C.length cc] 28)).alloc (.cells #[.int .i64 0, .int .i64 0, .int .i64 0, .slice none 0 0] 69)).alloc (.cells #[.int .i64 N, .slice a l.length cap, .slice ba bs.length bc, .slice ca C.length cc, .int .i64 lv, .int .i64 ce] 114)) := (Below.refl _ _).alloc (Nat.le_refl _) _
  rw [hsz] at hg3 hb1
  have hb2 : Below w.heap.size w ((((w.alloc (.cells #[.int .i64 N, .slice a l.length cap] 24)).alloc (.cells #[.slice ba bs.length bc, .slice ca C.length cc] 28)).alloc (.cells #[.int .i64 0, .int .i64 0, .int .i64 0, .slice none 0 0] 69)).alloc (.cells #[.int .i64 N, .slice a l.length cap, .slice ba bs.length bc, .slice ca C.length cc, .int .i64 lv, .int .i64 ce] 114)) := hb0.trans (hb1.mono (by omega))
  have hsz4 : (((((w.alloc (.cells #[.int .i64 N, .slice a l.length cap] 24)).alloc (.cells #[.slice ba bs.length bc, .slice ca C.length cc] 28)).alloc (.cells #[.int .i64 0, .int .i64 0, .int .i64 0, .slice none 0 0] 69)).alloc (.cells #[.int .i64 N, .slice a l.length cap, .slice ba bs.length bc, .slice ca C.length cc, .int .i64 lv, .int .i64 ce] 114))).heap.size = w.heap.size + 4 := by rw [World.size_alloc, hsz]
  have HK0 := Lib.hid ((hb1.block _ (by omega)).trans hg0)
  have HK1 := Lib.hid ((hb1.block _ (by omega)).trans hg1)
  have HK2 := Lib.hid ((hb1.block _ (by omega)).trans hg2)
  have HK3 := Lib.hid hg3
  obtain ⟨⟨z0, z1⟩, _⟩ := two_cells hg0
  obtain ⟨⟨z2, z3⟩, _⟩ := two_cells hg1
  obtain ⟨y0, y1, y2, y3, y4, y5⟩ := six_cells hg3
  have HIN := Lib.hid (plInner_any N a l cap ba bs bc ca C cc lv ce _ hl hbl (hr.on hb2) (hi.on hb2) (hR.on hb2))
  have HB0 := Lib.hid hb2
  have HRA := Lib.hid hr
  have HRI := Lib.hid hi
  have HRR := Lib.hid hR
  have HWT := Lib.hid hwt
  have HBF := Lib.hid (@by_facts N l bs (csl C) lv ce)
  have HWE : Hid ((whE N l bs (csl C) lv ce ep) = if inE N l bs (csl C) lv ce ≠ 0 then inE N l bs (csl C) lv ce else if epB ep = false then 1 else 0) := rfl
  have HBY : Hid (∀ m, byE N l bs (csl C) lv ce ep m = if inE N l bs (csl C) lv ce ≠ 0 then inE N l bs (csl C) lv ce else jbE ep m (inV N l bs (csl C) lv ce).length) := fun _ => rfl
  have HBA : Hid (∀ (W2 : World) (wa : Option Addr) (wk : Nat) (ws : List Int), Below w.heap.size w W2 → Wts W2 wa ws → (∀ i, i < ws.length → 0 ≤ ws.getD i 0 ∧ ws.getD i 0 < 4294967296) → Calls Try.prog 77 #[.agg #[.int .i64 N, .slice a l.length cap, .slice ba bs.length bc, .slice ca C.length cc, .int .i64 lv, .int .i64 ce], .int .i64 ep, .slice wa ws.length wk] W2 fun e w' => (byE N l bs (csl C) lv ce ep ws.length = 0 → ∃ v c, e = .returned (.tuple #[.agg #[.int .i64 lv, .int .i64 ce, .int .i64 ep, .slice v (mxL (wgL l (inV N l bs (csl C) lv ce) ws) (bdV N l bs (csl C) lv ce)).length c], .int .i64 0]) ∧ w'.ownsRow W2.heap.size 75 1 (.slice v (mxL (wgL l (inV N l bs (csl C) lv ce) ws) (bdV N l bs (csl C) lv ce)).length c) (mxL (wgL l (inV N l bs (csl C) lv ce) ws) (bdV N l bs (csl C) lv ce)).length (cellsU (mxL (wgL l (inV N l bs (csl C) lv ce) ws) (bdV N l bs (csl C) lv ce))) ∧ ∀ i, i < (bdV N l bs (csl C) lv ce).length → N5.IsD ((wgL l (inV N l bs (csl C) lv ce) ws).map toN) (fun _ => true) ((bdV N l bs (csl C) lv ce).getD i 0) (dF (wgL l (inV N l bs (csl C) lv ce) ws) ((bdV N l bs (csl C) lv ce).getD i 0))) ∧ (byE N l bs (csl C) lv ce ep ws.length ≠ 0 → e = .returned (.tuple #[.agg #[.int .i64 0, .int .i64 0, .int .i64 0, .slice none 0 0], .int .i64 (byE N l bs (csl C) lv ce ep ws.length)])) ∧ Below W2.heap.size W2 w') := fun W2 wa wk ws hb hw h4 => byArcs_any N a l cap ba bs bc ca C cc lv ce ep wa ws wk W2 hl hbl (hr.on hb) (hi.on hb) (hR.on hb) hw h4
  obtain ⟨E, HE⟩ := named (inE N l bs (csl C) lv ce)
  obtain ⟨ids, HID⟩ := named (inV N l bs (csl C) lv ce)
  obtain ⟨S, HS⟩ := named (bdV N l bs (csl C) lv ce)
  rw [HE.out, HID.out] at HIN
  rw [HE.out] at HWE
  rw [HE.out, HID.out] at HBY
  rw [HE.out, HID.out, HS.out] at HBF
  rw [HID.out, HS.out] at HBA
  obtain ⟨B, HBB⟩ := named (whE N l bs (csl C) lv ce ep)
  rw [HBB.out] at HWE
  rw [HBB.out, HID.out, HS.out]
  clear hr hi hR hwt hb0 hb1 hb2 hg0 hg1 hg2 hg3 HBB hsz
  generalize hp : w.heap.size = p at *
  go_enter Try.func41, Try.ntmps41
  go_wp2_with fail
  generalize hWW : ((((w.alloc (.cells #[.int .i64 N, .slice a l.length cap] 24)).alloc (.cells #[.slice ba bs.length bc, .slice ca C.length cc] 28)).alloc (.cells #[.int .i64 0, .int .i64 0, .int .i64 0, .slice none 0 0] 69)).alloc (.cells #[.int .i64 N, .slice a l.length cap, .slice ba bs.length bc, .slice ca C.length cc, .int .i64 lv, .int .i64 ce] 114)) = W at *
  clear hWW
  refine HIN.out.mono ?_
  rintro e w1 ⟨v1, rfl, hr1, hb1⟩
  have hz1 := hb1.size
  have HB1 : Hid (Below p w w1) := HB0.out.trans (hb1.mono (by omega))
  have HJ0 := Lib.hid ((hb1.block p (by omega)).trans HK0.out)
  have HJ2 := Lib.hid ((hb1.block (p + 1 + 1) (by omega)).trans HK2.out)
  have HJ3 := Lib.hid ((hb1.block (p + 3) (by omega)).trans HK3.out)
  have HI1 := Lib.hid hr1.ints
  have hw1 : p + 4 ≤ w1.heap.size := by omega
  clear hr1 hb1 HIN HB0 HK0 HK1 HK2 HK3 hz1 y0 y1 y2 y3 y4 y5 z0 z1 z2 z3
  have HR4 : Hid (∀ wr : World, wr.heap[p + 1 + 1]? = some (.cells #[.int .i64 0, .int .i64 0, .int .i64 0, .slice none 0 0] 69) → ((wr.cell? ⟨p + 1 + 1, 0, none⟩ = some (.int .i64 0) ∧ wr.cell? ⟨p + 1 + 1, 1, none⟩ = some (.int .i64 0) ∧ wr.cell? ⟨p + 1 + 1, 2, none⟩ = some (.int .i64 0) ∧ wr.cell? ⟨p + 1 + 1, 3, none⟩ = some (.slice none 0 0)) ∧ (wr.frozen? ⟨p + 1 + 1, 0, none⟩ = false ∧ wr.frozen? ⟨p + 1 + 1, 1, none⟩ = false ∧ wr.frozen? ⟨p + 1 + 1, 2, none⟩ = false ∧ wr.frozen? ⟨p + 1 + 1, 3, none⟩ = false))) := fun wr h => four_cells h
  have HZ4 : Hid (∀ wr : World, wr.heap[p + 1 + 1]? = some (.cells #[.int .i64 0, .int .i64 0, .int .i64 0, .slice none 0 0] 69) → Below p w wr → ((((((wr.setCell ⟨p + 1 + 1, 0, none⟩ (.int .i64 0)).setCell ⟨p + 1 + 1, 1, none⟩ (.int .i64 0)).setCell ⟨p + 1 + 1, 2, none⟩ (.int .i64 0)).setCell ⟨p + 1 + 1, 3, none⟩ (.slice none 0 0)).heap[p + 1 + 1]? = some (.cells #[.int .i64 0, .int .i64 0, .int .i64 0, .slice none 0 0] 69)) ∧ Below p w ((((wr.setCell ⟨p + 1 + 1, 0, none⟩ (.int .i64 0)).setCell ⟨p + 1 + 1, 1, none⟩ (.int .i64 0)).setCell ⟨p + 1 + 1, 2, none⟩ (.int .i64 0)).setCell ⟨p + 1 + 1, 3, none⟩ (.slice none 0 0)))) := fun wr h hb => ⟨set4 h _ _ _ _, below_set4 hb (by omega) _ _ _ _⟩
  by_cases h1 : E = 0
  · subst h1
    obtain ⟨n, rfl, hC0, hid, h8, hSn⟩ := HBF.out rfl
    have HWE : Hid (B = if epB ep = false then 1 else 0) := by show _ = _; rw [HWE.out, if_neg (by simp)]
    have HWG := Lib.hid (weights_any n a l cap v1 (ints ids) ids.length w1 hl (by rw [ints_len]; omega) (HRA.out.on (hp ▸ HB1.out)) HI1.out)
    rw [wq_ints hC0 hid h8] at HWG
    rw [ints_len] at HWG
    have HRG := Lib.hid (wt_range HWT.out hid)
    have HWL : Hid ((wtL l (ints ids)).length = ids.length) := by show _ = _; rw [wtL_len, ints_len]
    obtain ⟨⟨k0, k1⟩, _⟩ := two_cells HJ0.out
    go_wp2_with fail
    refine HWG.out.mono ?_
    rintro e w2 ⟨hok, _, hb2⟩
    obtain ⟨gw, rfl, hgw, hWt⟩ := hok (by simp)
    have HB2 : Hid (Below p w w2) := HB1.out.trans (hb2.mono (by omega))
    have HL2 := Lib.hid ((hb2.block (p + 1 + 1) (by omega)).trans HJ2.out)
    have hL3 := (hb2.block (p + 3) (by omega)).trans HJ3.out
    obtain ⟨y0, y1, y2, y3, y4, y5⟩ := six_cells hL3
    have hw2 : p + 4 ≤ w2.heap.size := by have := hb2.size; omega
    have HBC := Lib.hid (HBA.out w2 (some ⟨gw, 0, none⟩) ids.length (wtL l (ints ids)) HB2.out hWt HRG.out)
    rw [HWL.out, HBY.out] at HBC
    have HJE : Hid ((if (0 : Int) ≠ 0 then 0 else jbE ep ids.length ids.length) = B) := by
      show _ = _
      rw [if_neg (by simp), HWE.out]
      unfold jbE
      by_cases h : epB ep = false
      · rw [if_pos h, if_pos h]
      · rw [if_neg h, if_neg h, if_neg (by simp)]
    rw [HJE.out] at HBC
    clear HWG hok hb2 hWt k0 k1 hL3
    go_wp2_with fail
    refine HBC.out.mono ?_
    rintro e w5 ⟨hok, hno, hb5⟩
    have hK5 := (hb5.block (p + 1 + 1) (by omega)).trans HL2.out
    obtain ⟨⟨d0, d1, d2, d3⟩, f0, f1, f2, f3⟩ := HR4.out w5 hK5
    have hB5 : Below p w w5 := HB2.out.trans (hb5.mono (by omega))
    by_cases h : B = 0
    · subst h
      obtain ⟨v, c, rfl, hown, hD⟩ := hok rfl
      obtain ⟨X, HX⟩ := named (mxL (wgL l ids (wtL l (ints ids))) S)
      rw [HX.out] at hown
      rw [HX.out]
      have HR5 := Lib.hid (four_cells (set4 hK5 (.int .i64 lv) (.int .i64 ce) (.int .i64 ep) (.slice v X.length c))).1
      have HO5 := Lib.hid (own_base (own_set4 hown (show p + 1 + 1 < w2.heap.size by omega) (.int .i64 lv) (.int .i64 ce) (.int .i64 ep) (.slice v X.length c)) (show p ≤ w2.heap.size by omega))
      have HB5 := Lib.hid (below_set4 hB5 (show p ≤ p + 1 + 1 by omega) (.int .i64 lv) (.int .i64 ce) (.int .i64 ep) (.slice v X.length c))
      have HD5 := Lib.hid hD
      clear hK5 hown hD hb5 HBC hok hno y0 y1 y2 y3 y4 y5 hB5
      go_wp2_with fail
      obtain ⟨r0, r1, r2, r3⟩ := HR5.out
      have HXW : Hid (mxL (wiL l ids) S = X) := HX.out
      rw [HXW.out]
      refine bodyPost_ret (v := .tuple #[.agg #[.int .i64 lv, .int .i64 ce, .int .i64 ep, .slice v X.length c], .int .i64 0]) (by simp [results, Try.results41, go_sem, r0, r1, r2, r3]) rfl ?_
      first | exact ⟨⟨v, c, rfl, HO5.out, HD5.out⟩, HB5.out⟩ | exact ⟨fun _ => ⟨v, c, rfl, HO5.out, HD5.out⟩, fun h => absurd rfl h, HB5.out⟩
    · obtain rfl := hno h
      obtain ⟨r4, HBZ⟩ := HZ4.out w5 hK5 hB5
      have HR5 := Lib.hid (HR4.out _ r4).1
      have HB5 := Lib.hid HBZ
      clear hK5 hb5 HBC hok hno r4 HBZ y0 y1 y2 y3 y4 y5 hB5
      go_wp2_with fail
      obtain ⟨r0, r1, r2, r3⟩ := HR5.out
      refine bodyPost_ret (v := .tuple #[.agg #[.int .i64 0, .int .i64 0, .int .i64 0, .slice none 0 0], .int .i64 B]) (by simp [results, Try.results41, go_sem, r0, r1, r2, r3]) rfl ?_
      exact ⟨fun h' => absurd h' h, fun _ => rfl, HB5.out⟩
  · have e1 : (E != 0) = true := by simpa using h1
    obtain rfl : B = E := by rw [HWE.out, if_pos h1]
    obtain ⟨⟨d0, d1, d2, d3⟩, f0, f1, f2, f3⟩ := HR4.out w1 HJ2.out
    obtain ⟨r4, HBZ⟩ := HZ4.out w1 HJ2.out HB1.out
    have HRZ := Lib.hid (HR4.out _ r4).1
    have HBZ := Lib.hid HBZ
    clear r4
    go_wp2_with fail
    obtain ⟨r0, r1, r2, r3⟩ := HRZ.out
    refine bodyPost_ret (v := .tuple #[.agg #[.int .i64 0, .int .i64 0, .int .i64 0, .slice none 0 0], .int .i64 B]) (by simp [results, Try.results41, go_sem, r0, r1, r2, r3]) rfl ?_
    exact ⟨fun h => absurd h h1, fun _ => rfl, HBZ.out⟩
end Go.Proofs.Ytpmjbeiclmllmaa
