import Derived.Test.YtaafkpojjdjphaaGreatYAV
open Go.Lib (hid)
set_option maxRecDepth 100000
namespace Go.Proofs.YtaafkpojjdjphaaGreat
open Go.RowKit
def wx9 : List A := [⟨0, 1, 9⟩, ⟨1, 2, 0⟩, ⟨0, 2, 0⟩]
def wx4 : List A := [⟨0, 1, 4⟩, ⟨1, 2, 0⟩, ⟨0, 2, 0⟩]
theorem wx9_arcs {w : World} {b : Nat} (h : w.heap[b]? = some (.cells #[.int .i64 0, .int .i64 1, .int .u32 9, .int .i64 1, .int .i64 2, .int .u32 0, .int .i64 0, .int .i64 2, .int .u32 0] 109)) : Arcs w (some ⟨b, 0, none⟩) wx9 := by
 refine .inr ⟨b, 0, rfl, lt_of_block h, fun j hj => ?_⟩
 have hj : j = 0 ∨ j = 1 ∨ j = 2 := by have : wx9.length = 3 := rfl; omega
 rcases hj with rfl | rfl | rfl <;> exact ⟨by simp [World.cell?, h]; rfl, by simp [World.cell?, h]; rfl, by simp [World.cell?, h]; rfl⟩
theorem wx4_arcs {w : World} {b : Nat} (h : w.heap[b]? = some (.cells #[.int .i64 0, .int .i64 1, .int .u32 4, .int .i64 1, .int .i64 2, .int .u32 0, .int .i64 0, .int .i64 2, .int .u32 0] 109)) : Arcs w (some ⟨b, 0, none⟩) wx4 := by
 refine .inr ⟨b, 0, rfl, lt_of_block h, fun j hj => ?_⟩
 have hj : j = 0 ∨ j = 1 ∨ j = 2 := by have : wx4.length = 3 := rfl; omega
 rcases hj with rfl | rfl | rfl <;> exact ⟨by simp [World.cell?, h]; rfl, by simp [World.cell?, h]; rfl, by simp [World.cell?, h]; rfl⟩
def exG (x : Int) (s : Nat) (v : Nat) : Int := if v = s then 0 else if s = 0 ∧ v = 1 then x else N5.Inf
theorem exG_is {x : Int} (hx : 0 ≤ x ∧ x ≤ 9) (s : Nat) (hs : s = 0 ∨ s = 1) : N5.IsD ([⟨0, 1, x⟩] : List N5.A) (fun _ => true) s (exG x s) := by
 have le : ∀ v d, N5.Wk ([⟨0, 1, x⟩] : List N5.A) (fun _ => true) s v d → exG x s v ≤ d := fun v d h => by
  induction h with
  | nil _ => simp [exG]
  | snoc hx2 _ _ ih =>
    obtain rfl := List.mem_singleton.1 hx2
    unfold exG N5.Inf N5.src N5.dst at *
    simp at *
    rcases hs with rfl | rfl
    ·simp at *; omega
    ·simp at *; omega
 refine ⟨fun v => ?_, fun v => ?_, fun v h => ?_, le⟩
 ·unfold exG N5.Inf; split <;> (try split) <;> omega
 ·unfold exG N5.Inf; split <;> (try split) <;> omega
 ·by_cases h1 : v = s
  ·subst h1
   have e : exG x v v = 0 := by simp [exG]
   rw [e]
   exact N5.Wk.nil rfl
  ·by_cases h2 : s = 0 ∧ v = 1
   ·obtain ⟨rfl, rfl⟩ := h2
    have e : exG x 0 1 = 0 + x := by simp [exG]
    rw [e]
    exact N5.Wk.snoc (x := ⟨0, 1, x⟩) (d := 0) (by simp) (N5.Wk.nil rfl) rfl
   ·exfalso
    unfold exG at h
    rw [if_neg h1, if_neg h2] at h
    omega
theorem exG_mx {x : Int} (hx : 0 ≤ x ∧ x ≤ 9) : mxL [⟨0, 1, x⟩] [0, 1] = [0, x, 18446744073709551615, 0] := by
 have h0 : dF [⟨0, 1, x⟩] 0 = exG x 0 := dF_is (exG_is hx 0 (Or.inl rfl))
 have h1 : dF [⟨0, 1, x⟩] 1 = exG x 1 := dF_is (exG_is hx 1 (Or.inr rfl))
 unfold mxL mxK
 show ([0, 1] : List Nat).flatMap (fun s => ([0, 1] : List Nat).map (dF [⟨0, 1, x⟩] s)) = _
 simp only [List.flatMap_cons, List.flatMap_nil, List.map_cons, List.map_nil, h0, h1]
 simp [exG, N5.Inf]
theorem wx9_rD : rD 3 wx9 [2] [[0, 0, 1]] 0 0 = [0, 9, 18446744073709551615, 0] := by
 unfold rD
 have h1 : inV ((3 : Nat) : Int) wx9 [2] [[0, 0, 1]] (((0 : Nat) : Int) + 1) ((0 : Nat) : Int) = [0] := by decide
 have h2 : bdV ((3 : Nat) : Int) wx9 [2] [[0, 0, 1]] (((0 : Nat) : Int) + 1) ((0 : Nat) : Int) = [0, 1] := by decide
 have h3 : wiL wx9 [0] = [⟨0, 1, 9⟩] := by decide
 rw [h1, h2, h3]
 exact exG_mx (by decide)
theorem wx4_rD : rD 3 wx4 [2] [[0, 0, 1]] 0 0 = [0, 4, 18446744073709551615, 0] := by
 unfold rD
 have h1 : inV ((3 : Nat) : Int) wx4 [2] [[0, 0, 1]] (((0 : Nat) : Int) + 1) ((0 : Nat) : Int) = [0] := by decide
 have h2 : bdV ((3 : Nat) : Int) wx4 [2] [[0, 0, 1]] (((0 : Nat) : Int) + 1) ((0 : Nat) : Int) = [0, 1] := by decide
 have h3 : wiL wx4 [0] = [⟨0, 1, 4⟩] := by decide
 rw [h1, h2, h3]
 exact exG_mx (by decide)
theorem OS.ovs {w : World} {B g m : Nat} {rv : Nat → Value} {R : Nat → List Mt} (h : OS w B g m rv R) (hl : ∀ j, j < m → (R j).length ≤ 1024) : ∃ O : List Lw, Ovs w (some ⟨g, 0, none⟩) O ∧ O.length = m ∧ ∀ j, j < m → (lw O j).M = R j ∧ rv j = .slice (lw O j).a (R j).length (lw O j).c := by
 have hk : ∀ j, ∃ x : Lw, j < m → x.M = R j ∧ rv j = .slice x.a (R j).length x.c ∧ Mts w x.a (R j) := fun j => by
  by_cases hj : j < m
  ·obtain ⟨a, c, h1, h2⟩ := h.mts hj
   exact ⟨⟨a, c, R j⟩, fun _ => ⟨rfl, h1, h2⟩⟩
  ·exact ⟨Lw.zero, fun h => absurd h hj⟩
 obtain ⟨f, hf⟩ : ∃ f : Nat → Lw, ∀ j, j < m → (f j).M = R j ∧ rv j = .slice (f j).a (R j).length (f j).c ∧ Mts w (f j).a (R j) := ⟨fun j => (hk j).choose, fun j => (hk j).choose_spec⟩
 clear hk
 have hat : ∀ j, j < m → lw ((List.range m).map f) j = f j := fun j hj => by
  unfold lw
  rw [List.getD_eq_getElem?_getD, List.getElem?_map, List.getElem?_range hj]
  rfl
 refine ⟨(List.range m).map f, ⟨?_, fun j hj => ?_⟩, by simp, fun j hj => ?_⟩
 ·by_cases h0 : m = 0
  ·exact Or.inl (by rw [h0]; rfl)
  ·refine Or.inr ⟨g, 0, rfl, h.tr.tb.lt, fun j hj => ?_⟩
   have hj : j < m := by simpa using hj
   obtain ⟨q1, q2, q3⟩ := hf j hj
   rw [hat j hj, Nat.zero_add, h.tr.tb.cell hj, q2, q1]
 ·have hj : j < m := by simpa using hj
  obtain ⟨q1, q2, q3⟩ := hf j hj
  rw [hat j hj, q1]
  exact ⟨q3, by have := hl j hj; omega⟩
 ·obtain ⟨q1, q2, q3⟩ := hf j hj
  rw [hat j hj]
  exact ⟨q1, q2⟩
theorem OS.far {w : World} {B g m : Nat} {rv : Nat → Value} {R : Nat → List Mt} (h : OS w B g m rv R) {b : Nat} (hb : b < B) (i : Nat) (u : Value) : OS (w.setCell ⟨b, i, none⟩ u) B g m rv R := by
 have hgb := h.tr.gb
 exact ⟨⟨h.tr.ne, h.tr.tb.same (Below.heap_setCell _ _ _ _ (by show g ≠ b; omega)), hgb, fun v hv => own_set (h.tr.ro v hv) ⟨b, i, none⟩ u hb, h.tr.ap⟩, fun j hj t ht => own_set (h.me j hj t ht) ⟨b, i, none⟩ u hb, h.bn⟩
theorem w9_nr : NR ((3 : Nat) : Int) wx9 [2] [[0, 0, 1]] := nsE_zero.1 (by decide)
theorem w4_nr : NR ((3 : Nat) : Int) wx4 [2] [[0, 0, 1]] := nsE_zero.1 (by decide)
theorem wC_csl (p : Nat) : csl (wC p) = [[0, 0, 1]] := rfl
theorem wsz : (szL (lvl [[0, 0, 1]] 0)).length = 2 := by decide
theorem wbd (i : Nat) (hi : i < 2) : bdV ((3 : Nat) : Int) wx4 [2] [[0, 0, 1]] (((0 : Nat) : Int) + 1) (i : Nat) = bdV ((3 : Nat) : Int) wx9 [2] [[0, 0, 1]] (((0 : Nat) : Int) + 1) (i : Nat) := by
 have : i = 0 ∨ i = 1 := by omega
 rcases this with rfl | rfl <;> decide
set_option maxHeartbeats 12800000 in
theorem works14_any (w : World) : Calls Tryz.prog 37 #[] w fun e w' => e = .returned (.bool true) ∧ Below w.heap.size w w' := by
 have h6 := al6 w (.cells #[.int .i64 0, .int .i64 1, .int .u32 9, .int .i64 1, .int .i64 2, .int .u32 0, .int .i64 0, .int .i64 2, .int .u32 0] 109) (.cells #[.int .i64 3, .slice (some ⟨w.heap.size, 0, none⟩) 3 3] 24) (.cells #[.int .i64 2] 3) (.cells #[.int .i64 0, .int .i64 0, .int .i64 1] 3) (.cells #[.slice (some ⟨w.heap.size + 1 + 1 + 1, 0, none⟩) 3 3] 25) (.cells #[.slice (some ⟨w.heap.size + 1 + 1, 0, none⟩) 1 1, .slice (some ⟨w.heap.size + 1 + 1 + 1 + 1, 0, none⟩) 1 1] 28) _ rfl
 generalize hp : w.heap.size = p at *
 obtain ⟨hA, hG, hBs, hC, hR, hN, hB, hz⟩ := h6
 obtain ⟨⟨g0, g1⟩, _⟩ := two_cells hG
 obtain ⟨⟨n0, n1⟩, _⟩ := two_cells hN
 have HALL := hid (all_any ((3 : Nat) : Int) (some ⟨p, 0, none⟩) wx9 3 (some ⟨p + 1 + 1, 0, none⟩) [2] 1 (some ⟨p + 1 + 1 + 1 + 1, 0, none⟩) (wC (p + 3)) 1 0 _ (by decide) (by decide) (wx9_arcs hA) (ints_block (xs := [2]) hBs) (wC_rws hR hC) (by decide))
 have HAA := hid hA
 have HGG := hid hG
 have HBS := hid hBs
 have HCC := hid hC
 have HRR := hid hR
 have HNN := hid hN
 have HB0 := hid hB
 clear hA hG hBs hC hR hN hB
 go_enter Tryz.func37, Tryz.ntmps37
 go_wp2_with fail
 generalize hW : ((((((w.alloc (.cells #[.int .i64 0, .int .i64 1, .int .u32 9, .int .i64 1, .int .i64 2, .int .u32 0, .int .i64 0, .int .i64 2, .int .u32 0] 109)).alloc (.cells #[.int .i64 3, .slice (some ⟨p, 0, none⟩) 3 3] 24)).alloc (.cells #[.int .i64 2] 3)).alloc (.cells #[.int .i64 0, .int .i64 0, .int .i64 1] 3)).alloc (.cells #[.slice (some ⟨p + 1 + 1 + 1, 0, none⟩) 3 3] 25)).alloc (.cells #[.slice (some ⟨p + 1 + 1, 0, none⟩) 1 1, .slice (some ⟨p + 1 + 1 + 1 + 1, 0, none⟩) 1 1] 28)) = W at *
 clear hW g0 g1 n0 n1
 have HAL2 : Hid (Calls Tryz.prog 38 #[.agg #[.int .i64 3, .slice (some ⟨p, 0, none⟩) 3 3], .agg #[.slice (some ⟨p + 1 + 1, 0, none⟩) 1 1, .slice (some ⟨p + 1 + 1 + 1 + 1, 0, none⟩) 1 1], .int .i64 0] W fun e w' => ∃ g rv R, e = .returned (.tuple #[.slice (some ⟨g, 0, none⟩) 1 1, .int .i64 0]) ∧ OS w' (p + 6) g 1 rv R ∧ RA 3 wx9 [2] [[0, 0, 1]] 0 0 (R 0) ∧ Below W.heap.size W w') := by
  refine HALL.out.mono (fun e w' h => ?_)
  obtain ⟨h1, _, h3⟩ := h
  obtain ⟨g, rv, R, e1, e2, e3⟩ := h1 ⟨nsE_zero.2 w9_nr, by decide⟩
  exact ⟨g, rv, R, e1, e2.base (by omega), e3 0 (by show 0 < 1; decide), h3⟩
 clear HALL
 refine HAL2.out.mono ?_
 rintro e w1 ⟨g, rv, R, rfl, hos, hra, hb1⟩
 have hz1 := hb1.size
 have HOS := hid hos
 have HRA := hid hra
 have hA1 := (hb1.block p (by omega)).trans HAA.out
 have hG1 := (hb1.block (p + 1) (by omega)).trans HGG.out
 have hN1 := (hb1.block (p + 5) (by omega)).trans HNN.out
 have HB1 := hid hb1
 obtain ⟨⟨g0, g1⟩, _⟩ := two_cells hG1
 obtain ⟨⟨n0, n1⟩, _⟩ := two_cells hN1
 have c0 : w1.cell? ⟨p, 2, none⟩ = some (.int .u32 9) := by simp [World.cell?, hA1]
 have c1 : w1.frozen? ⟨p, 2, none⟩ = false := by simp [World.frozen?, hA1]
 have hgb := HOS.out.tr.gb
 have hW2 : (w1.setCell ⟨p, 2, none⟩ (.int .u32 4)).heap[p]? = some (.cells #[.int .i64 0, .int .i64 1, .int .u32 4, .int .i64 1, .int .i64 2, .int .u32 0, .int .i64 0, .int .i64 2, .int .u32 0] 109) := by
  rw [heap_setCell_same w1 p 2 _ _ (.int .u32 4) hA1]
  rfl
 have hoth : ∀ k, k ≠ p → (w1.setCell ⟨p, 2, none⟩ (.int .u32 4)).heap[k]? = w1.heap[k]? := fun k hk => Below.heap_setCell _ _ _ _ hk
 have hbA : Below (w1.setCell ⟨p, 2, none⟩ (.int .u32 4)).heap.size (w1.setCell ⟨p, 2, none⟩ (.int .u32 4)) ((w1.setCell ⟨p, 2, none⟩ (.int .u32 4)).alloc (.cells #[.int .i64 0] 3)) := (Below.refl _ _).alloc (Nat.le_refl _) _
 have hzz : (w1.setCell ⟨p, 2, none⟩ (.int .u32 4)).heap.size = w1.heap.size := by simp
 have hT := heap_top (w1.setCell ⟨p, 2, none⟩ (.int .u32 4)) (.cells #[.int .i64 0] 3)
 have hOS3 := (HOS.out.far (show p < p + 6 by omega) 2 (.int .u32 4)).on hbA
 obtain ⟨m1, m2⟩ := HRA.out
 rw [wsz] at m1 m2
 obtain ⟨O, hOv, hOl, hOM⟩ := hOS3.ovs (fun j hj => by
  obtain rfl : j = 0 := by omega
  omega)
 have hlw := (hOM 0 (by decide)).1
 have hF : OvF 3 wx4 [2] [[0, 0, 1]] 1 O := by
  refine ⟨hOl, fun j hj => ?_⟩
  obtain rfl : j = 0 := by simpa using hj
  rw [hlw, wsz]
  refine ⟨m1, fun i hi => ?_⟩
  obtain ⟨q1, q2, q3, q4⟩ := m2 i hi
  refine ⟨q1, q2, by rw [q3]; decide, ?_⟩
  rw [q4, rD_len, wbd i hi]
 have hbW : ∀ k, k ≠ p → k < W.heap.size → ((w1.setCell ⟨p, 2, none⟩ (.int .u32 4)).alloc (.cells #[.int .i64 0] 3)).heap[k]? = W.heap[k]? := fun k hk hk2 => (hbA.block k (by rw [hzz]; omega)).trans ((hoth k hk).trans (hb1.block k hk2))
 have hA4 := (hbA.block p (by rw [hzz]; omega)).trans hW2
 have HREN := hid (renew_ok 3 (some ⟨p, 0, none⟩) wx4 3 (some ⟨p + 1 + 1, 0, none⟩) [2] 1 (some ⟨p + 1 + 1 + 1 + 1, 0, none⟩) (wC (p + 3)) 1 (some ⟨g, 0, none⟩) O 1 (some ⟨w1.heap.size, 0, none⟩) [0] 1 1 ((w1.setCell ⟨p, 2, none⟩ (.int .u32 4)).alloc (.cells #[.int .i64 0] 3)) w4_nr (by decide) hOv hF (by decide) (ints_block (xs := [0]) (by rw [hzz] at hT; exact hT)) (by decide) (by decide) (by decide) (wx4_arcs hA4) (ints_block (xs := [2]) ((hbW (p + 2) (by omega) (by omega)).trans HBS.out)) (wC_rws ((hbW (p + 4) (by omega) (by omega)).trans HRR.out) ((hbW (p + 3) (by omega) (by omega)).trans HCC.out)))
 have HRN2 : Hid (Calls Tryz.prog 44 #[.agg #[.int .i64 3, .slice (some ⟨p, 0, none⟩) 3 3], .agg #[.slice (some ⟨p + 1 + 1, 0, none⟩) 1 1, .slice (some ⟨p + 1 + 1 + 1 + 1, 0, none⟩) 1 1], .slice (some ⟨g, 0, none⟩) 1 1, .slice (some ⟨w1.heap.size, 0, none⟩) 1 1, .int .i64 1] ((w1.setCell ⟨p, 2, none⟩ (.int .u32 4)).alloc (.cells #[.int .i64 0] 3)) fun e w' => ∃ g5 rv5 R5, e = .returned (.tuple #[.slice (some ⟨g5, 0, none⟩) 1 1, .int .i64 1, .int .i64 0]) ∧ OS w' (p + 6) g5 1 rv5 R5 ∧ (R5 0).length = 2 ∧ (mt (R5 0) 0).ep = 1 ∧ (mt (R5 0) 0).D = [0, 4, 18446744073709551615, 0] ∧ OS w' (p + 6) g 1 rv R ∧ Below p w w') := by
  refine HREN.out.mono (fun e w' h => ?_)
  obtain ⟨h1, _, h3⟩ := h
  obtain ⟨g5, rv5, R5, e1, e2, e3⟩ := h1 (by rw [wC_csl]; decide)
  have e4 := e3 0 (by show 0 < 1; decide)
  have hx : (smX (szL (lvl (csl (wC (p + 3))) 0)).length (mdF 0) (ints (tcL 3 (lvl (csl (wC (p + 3))) 0) wx4 [0]))).getD 0 0 ≠ 0 := by
   rw [wC_csl]
   decide
  have e5 := e4.nw 0 (by rw [wC_csl, wsz]; decide) hx
  have hzb : p + 6 ≤ ((w1.setCell ⟨p, 2, none⟩ (.int .u32 4)).alloc (.cells #[.int .i64 0] 3)).heap.size := by
   have := hbA.size
   omega
  refine ⟨g5, rv5, R5, e1, e2.base hzb, ?_, e5.1, ?_, hOS3.on h3, ?_⟩
  ·have := e4.len
   rw [wC_csl, wsz] at this
   exact this
  ·rw [e5.2]
   exact wx4_rD
  ·have hb2 : Below p w (w1.setCell ⟨p, 2, none⟩ (.int .u32 4)) := (HB0.out.trans (HB1.out.mono (by omega))).setCell (p := ⟨p, 2, none⟩) (Nat.le_refl p) _
   exact (hb2.trans (hbA.mono (by rw [hzz]; omega))).trans (h3.mono (by omega))
 have HR0 : Hid ((R 0).length = 2) := m1
 have HD0 : Hid ((mt (R 0) 0).D = [0, 9, 18446744073709551615, 0]) := by
  have := (m2 0 (by decide)).2.2.2
  rw [wx9_rD] at this
  exact this
 clear HREN hOv hF hOM hOS3 hbW hA4 hT hbA hoth hW2 hA1 hG1 hN1 hb1 hos hra HAL2 m1 m2 hlw hOl HAA HGG HBS HCC HRR HNN
 go_wp2_with fail
 refine HRN2.out.mono ?_
 rintro e w5 ⟨g5, rv5, R5, rfl, hos5, hl5, he5, hD5, hosO, hbF⟩
 obtain ⟨oa, oc, hrv, hmts⟩ := hosO.mts (j := 0) (by decide)
 rw [HR0.out] at hrv
 have o0 := hosO.tr.tb.cell (v := 0) (by decide)
 rw [hrv] at o0
 obtain ⟨mx, mo, hmx⟩ := hmts.get
 obtain ⟨rfl, hmbl, hmat⟩ := hmx (by rw [HR0.out]; decide)
 obtain ⟨k0, k1, k2, k3⟩ := hmat 0 (by rw [HR0.out]; decide)
 have hdts := (hmts.2 0 (by rw [HR0.out]; decide)).1
 rw [HD0.out] at k3 hdts
 obtain ⟨pa, pc, hrv5, hmts5⟩ := hos5.mts (j := 0) (by decide)
 rw [hl5] at hrv5
 have r0 := hos5.tr.tb.cell (v := 0) (by decide)
 rw [hrv5] at r0
 obtain ⟨nx, no, hnx⟩ := hmts5.get
 obtain ⟨rfl, hnbl, hnat⟩ := hnx (by rw [hl5]; decide)
 obtain ⟨l0, l1, l2, l3⟩ := hnat 0 (by rw [hl5]; decide)
 have hdts5 := (hmts5.2 0 (by rw [hl5]; decide)).1
 rw [hD5] at l3 hdts5
 rw [he5] at l2
 obtain ⟨dx, dd, hdx⟩ := hdts5.get
 obtain ⟨hda, hdbl, hdat⟩ := hdx (by decide)
 have d1 := hdat 1 (by decide)
 rw [hda] at l3
 rw [Nat.zero_mul, Nat.add_zero] at k0 k1 k2 k3 l0 l1 l2 l3
 have hbU : Below w5.heap.size w5 (w5.alloc (.cells #[.int .u64 0, .int .u64 9, .int .u64 18446744073709551615, .int .u64 0] 48)) := (Below.refl _ _).alloc (Nat.le_refl _) _
 have HSD := hid (sameD_any (mt (R 0) 0).a (some ⟨w5.heap.size, 0, none⟩) (mt (R 0) 0).c 4 [0, 9, 18446744073709551615, 0] (w5.alloc (.cells #[.int .u64 0, .int .u64 9, .int .u64 18446744073709551615, .int .u64 0] 48)) (by decide) (hdts.on hbU) (dts_block (xs := [0, 9, 18446744073709551615, 0]) (heap_top w5 _)))
 have hg5 := hos5.tr.tb.lt
 have hsz5 := hbF.size
 have HBU := hid hbU
 have HBF := hid hbF
 have HR5 := hid r0
 have HL2 := hid l2
 have HL3 := hid l3
 have HD1 := hid d1
 have hpw : p ≤ w5.heap.size := by omega
 clear hos5 hosO hmts hmts5 hmx hnx hmat hnat hdts hdts5 hdx hdat hrv hrv5 hbU hbF HOS HRA HRN2 HB0 HB1 k0 k1 k2 l0 l1
 generalize (mt (R 0) 0).a = za at *
 generalize (mt (R 0) 0).c = zc at *
 generalize (mt (R5 0) 0).c = yc at *
 go_wp2_with fail
 refine HSD.out.mono ?_
 rintro e w7 ⟨rfl, hb7⟩
 have hbX : Below w5.heap.size w5 w7 := HBU.out.trans (hb7.mono (by have := HBU.out.size; omega))
 have r1 := (hbX.cell (p := ⟨g5, 0, none⟩) hg5).trans HR5.out
 have r2 := (hbX.cell (p := ⟨nx, no + 2, none⟩) hnbl).trans HL2.out
 have r3 := (hbX.cell (p := ⟨nx, no + 3, none⟩) hnbl).trans HL3.out
 have r4 := (hbX.cell (p := ⟨dx, dd + 1, none⟩) hdbl).trans HD1.out
 have HB7 : Hid (Below p w w7) := HBF.out.trans (hbX.mono hpw)
 clear hb7 hbX HSD HBU
 go_wp2_with fail
 go_ret
 exact ⟨rfl, HB7.out⟩
set_option maxHeartbeats 3200000 in
theorem sameM_any (m0 m1 m2 : Int) (v v' : Option Addr) (c c' : Nat) (X : List Int) (w : World) (hlen : X.length ≤ 9223372036854775807) (h : Dts w v X) (h' : Dts w v' X) :
  Calls Tryz.prog 22 #[.agg #[.int .i64 m0, .int .i64 m1, .int .i64 m2, .slice v X.length c], .agg #[.int .i64 m0, .int .i64 m1, .int .i64 m2, .slice v' X.length c']] w fun e w' => e = .returned (.bool true) ∧ Below w.heap.size w w' := by
 obtain ⟨hg0, hg1, hb0, hsz⟩ := top2 w (.cells #[.int .i64 m0, .int .i64 m1, .int .i64 m2, .slice v X.length c] 40) (.cells #[.int .i64 m0, .int .i64 m1, .int .i64 m2, .slice v' X.length c'] 40)
 obtain ⟨⟨a0, a1, a2, a3⟩, _⟩ := four_cells hg0
 obtain ⟨⟨b0, b1, b2, b3⟩, _⟩ := four_cells hg1
 have HSD := hid (sameD_any v v' c c' X _ hlen (h.on hb0) (h'.on hb0))
 have HB0 := hid hb0
 have e0 : (m0 == m0) = true := by simp
 have e1 : (m1 == m1) = true := by simp
 have e2 : (m2 == m2) = true := by simp
 clear h h' hb0 hg0 hg1
 generalize hp : w.heap.size = p at *
 go_enter Tryz.func22, Tryz.ntmps22
 go_wp2_with fail
 refine HSD.out.mono ?_
 rintro e w2 ⟨rfl, hb2⟩
 have HB2 : Hid (Below p w w2) := HB0.out.trans (hb2.mono (by omega))
 clear hb2 HSD
 go_wp2_with fail
 go_ret
 exact ⟨rfl, HB2.out⟩
set_option maxHeartbeats 6400000 in
theorem sameMats_any (a a' : Option Addr) (M M' : List Mt) (c c' cn : Nat) (w : World) (hM : M.length = cn) (hM' : M'.length = cn) (hc8 : cn ≤ 1024) (h : Mts w a M) (h' : Mts w a' M') (he : ∀ i, i < cn → (mt M i).lv = (mt M' i).lv ∧ (mt M i).ce = (mt M' i).ce ∧ (mt M i).ep = (mt M' i).ep ∧ (mt M i).D = (mt M' i).D) :
  Calls Tryz.prog 28 #[.slice a cn c, .slice a' cn c'] w fun e w' => e = .returned (.bool true) ∧ Below w.heap.size w w' := by
 obtain ⟨mx, mo, hmx⟩ := h.get
 obtain ⟨nx, no, hnx⟩ := h'.get
 rw [hM] at hmx
 rw [hM'] at hnx
 have HMX := hid hmx
 have HNX := hid hnx
 have HE := hid he
 have HD : Hid (∀ i, i < cn → ∀ W2, Below w.heap.size w W2 → Dts W2 (mt M i).a (mt M i).D ∧ Dts W2 (mt M' i).a (mt M i).D ∧ (mt M i).D.length ≤ 9223372036854775807) := fun i hi W2 hb => by
  refine ⟨(h.2 i (by omega)).1.on hb, ?_, (h.2 i (by omega)).2.1⟩
  rw [(he i hi).2.2.2]
  exact (h'.2 i (by omega)).1.on hb
 have hne : ((cn : Int) != (cn : Int)) = false := by simp
 clear h h' hmx hnx he hM hM'
 generalize hp : w.heap.size = p at *
 go_enter Tryz.func28, Tryz.ntmps28
 go_wp2_with fail
 go_loopw [5] (fun q wr => ∃ (i : Nat), i ≤ cn ∧ q = .int .i64 i ∧ Hid (Below p w wr)) (fun q _ => cn - (intOf q).toNat)
 case atStart => exact ⟨0, Nat.zero_le _, rfl, Below.refl _ _⟩
 case round =>
  obtain ⟨i, hi, rfl, HBR⟩ := hrel
  by_cases hli : i < cn
  ·have hli' : (i : Int) < cn := by omega
   obtain ⟨rfl, hmbl, hmat⟩ := HMX.out (by omega)
   obtain ⟨rfl, hnbl, hnat⟩ := HNX.out (by omega)
   obtain ⟨c0, c1, c2, c3⟩ := hmat i hli
   obtain ⟨d0, d1, d2, d3⟩ := hnat i hli
   obtain ⟨f0, f1, f2, f3⟩ := HE.out i hli
   rw [← f0] at d0
   rw [← f1] at d1
   rw [← f2] at d2
   rw [← f3] at d3
   have u0 := (HBR.out.cell (p := ⟨mx, mo + i * 4, none⟩) (by show mx < p; omega)).trans c0
   have u1 := (HBR.out.cell (p := ⟨mx, mo + i * 4 + 1, none⟩) (by show mx < p; omega)).trans c1
   have u2 := (HBR.out.cell (p := ⟨mx, mo + i * 4 + 2, none⟩) (by show mx < p; omega)).trans c2
   have u3 := (HBR.out.cell (p := ⟨mx, mo + i * 4 + 3, none⟩) (by show mx < p; omega)).trans c3
   have v0 := (HBR.out.cell (p := ⟨nx, no + i * 4, none⟩) (by show nx < p; omega)).trans d0
   have v1 := (HBR.out.cell (p := ⟨nx, no + i * 4 + 1, none⟩) (by show nx < p; omega)).trans d1
   have v2 := (HBR.out.cell (p := ⟨nx, no + i * 4 + 2, none⟩) (by show nx < p; omega)).trans d2
   have v3 := (HBR.out.cell (p := ⟨nx, no + i * 4 + 3, none⟩) (by show nx < p; omega)).trans d3
   have HSC : Hid (∀ W2, Below wr.heap.size wr W2 → Calls Tryz.prog 22 #[.agg #[.int .i64 (mt M i).lv, .int .i64 (mt M i).ce, .int .i64 (mt M i).ep, .slice (mt M i).a (mt M i).D.length (mt M i).c], .agg #[.int .i64 (mt M i).lv, .int .i64 (mt M i).ce, .int .i64 (mt M i).ep, .slice (mt M' i).a (mt M i).D.length (mt M' i).c]] W2 fun e w' => e = .returned (.bool true) ∧ Below wr.heap.size wr w') := fun W2 hb => by
    obtain ⟨g1, g2, g3⟩ := HD.out i hli W2 (HBR.out.trans (hb.mono (by have := HBR.out.size; omega)))
    refine (sameM_any _ _ _ _ _ _ _ _ W2 g3 g1 g2).mono ?_
    rintro e w' ⟨h1, h2⟩
    exact ⟨h1, hb.trans (h2.mono hb.size)⟩
   have hsz := HBR.out.size
   generalize (mt M i).lv = z0 at *
   generalize (mt M i).ce = z1 at *
   generalize (mt M i).ep = z2 at *
   generalize (mt M i).a = za at *
   generalize (mt M i).c = zc at *
   generalize (mt M' i).a = ya at *
   generalize (mt M' i).c = yc at *
   generalize (mt M i).D.length = dl at *
   have HU0 := hid u0
   have HU1 := hid u1
   have HU2 := hid u2
   have HU3 := hid u3
   have HV0 := hid v0
   have HV1 := hid v1
   have HV2 := hid v2
   have HV3 := hid v3
   clear c0 c1 c2 c3 d0 d1 d2 d3 f0 f1 f2 f3 hmat hnat
   go_wp2_with fail
   go_region_law (rw [if_pos (by rfl)]; go_simp; go_at_call 22; refine (HSC.out _ (by first | exact Below.refl _ _ | exact ⟨rfl, rfl, rfl, Nat.le_refl _, fun _ _ => rfl⟩)).mono ?_; rintro e w3 ⟨rfl, hb3⟩; have HB3 : Hid (Below p w w3) := HBR.out.trans (hb3.mono (by omega)); clear hb3)
   all_goals
    go_wp2_with fail
    first | exact ⟨⟨i + 1, by omega, by simp, HB3⟩, by simp [intOf]; omega⟩ | exact ⟨⟨i + 1, by omega, by simp, HB3.out.drew⟩, by simp [intOf]; omega⟩
  ·have hli' : ¬ (i : Int) < cn := by omega
   go_wp2_with fail
   go_ret
   exact ⟨rfl, HBR.out⟩
theorem large14_any (N : Int) (a : Option Addr) (l : List A) (cap : Nat) (w : World) (hl : l.length ≤ 9223372036854775807) (hr : Arcs w a l) :
  Calls Tryz.prog 36 #[.agg #[.int .i64 N, .slice a l.length cap]] w fun e w' => e = .returned (.bool (lgB N l)) ∧ Below w.heap.size w w' := by
 have hb0 : Below w.heap.size w (w.alloc (.cells #[.int .i64 N, .slice a l.length cap] 24)) := (Below.refl _ _).alloc (Nat.le_refl _) _
 have hg := heap_top w (.cells #[.int .i64 N, .slice a l.length cap] 24)
 have HCH := hid (rcheck_any N a l cap (w.alloc (.cells #[.int .i64 N, .slice a l.length cap] 24)) hl (hr.on hb0))
 have HB0 := hid hb0
 have HG := hid hg
 obtain ⟨⟨c0, c1⟩, _⟩ := two_cells hg
 obtain ⟨V, HV⟩ := named (lgB N l)
 rw [HV.out]
 have HVV : Hid (V = (decide (chkE N l = 0) && (decide (40 < N) || decide (200 < l.length)))) := HV.out.symm
 obtain ⟨E, HE⟩ := named (chkE N l)
 obtain ⟨AT, HAT⟩ := named (chkAt N l)
 rw [HE.out] at HVV HCH
 rw [HAT.out] at HCH
 have hwz : w.heap.size ≤ (w.alloc (.cells #[.int .i64 N, .slice a l.length cap] 24)).heap.size := hb0.size
 have hpW : w.heap.size < (w.alloc (.cells #[.int .i64 N, .slice a l.length cap] 24)).heap.size := by simp
 clear hg hr hb0
 generalize hp : w.heap.size = p at *
 go_enter Tryz.func36, Tryz.ntmps36
 go_wp2_with fail
 generalize hW : w.alloc (.cells #[.int .i64 N, .slice a l.length cap] 24) = W at *
 clear hW
 refine HCH.out.mono ?_
 rintro e w1 ⟨rfl, hb1⟩
 have HB1 : Hid (Below p w w1) := HB0.out.trans (hb1.mono hwz)
 obtain ⟨⟨d0, d1⟩, _⟩ := two_cells ((hb1.block p hpW).trans HG.out)
 clear hb1 HCH c0 c1 HG HB0
 by_cases hE : E = 0
 ·subst hE
  by_cases h1 : 40 < N
  ·obtain rfl : V = true := by rw [HVV.out]; simp [h1]
   go_wp2_with fail
   go_ret
   exact ⟨rfl, HB1.out⟩
  ·by_cases h2 : 200 < l.length
   ·obtain rfl : V = true := by rw [HVV.out]; simp [h2]
    have h2' : (200 : Int) < l.length := by omega
    go_wp2_with fail
    go_ret
    exact ⟨rfl, HB1.out⟩
   ·obtain rfl : V = false := by rw [HVV.out]; simp [h1]; omega
    have h2' : ¬ (200 : Int) < l.length := by omega
    go_wp2_with fail
    go_ret
    refine ⟨?_, HB1.out⟩
    show Ending.returned (Value.bool (decide (40 < N) || decide (200 < (l.length : Int)))) = _
    rw [decide_eq_false (show ¬ 40 < N by omega), decide_eq_false (show ¬ (200 : Int) < (l.length : Int) by omega)]
    rfl
 ·obtain rfl : V = false := by rw [HVV.out]; simp [hE]
  have hE' : (E == 0) = false := by simpa using hE
  clear hE
  go_wp2_with fail
  go_ret
  exact ⟨rfl, HB1.out⟩
end Go.Proofs.YtaafkpojjdjphaaGreat
