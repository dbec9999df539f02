import Derived.Test.YtaafkpojjdjphaaGreatQAG
import Derived.Test.YtaafkpojjdjphaaGreatQAH
import Derived.Test.YtaafkpojjdjphaaGreatQUB
set_option maxRecDepth 100000
namespace Go.Proofs.YtaafkpojjdjphaaGreat
open Go.RowKit
theorem getS_mem {S : List Nat} {i : Nat} (h : i < S.length) : S.getD i 0 ∈ S := by
 rw [show S.getD i 0 = S[i] by simp [List.getD, List.getElem?_eq_getElem h]]
 exact List.getElem_mem h
theorem by_facts {N : Int} {l : List A} {bs : List Int} {cs : List (List Int)} {k x : Int} (h : inE N l bs cs k x = 0) : ∃ n : Nat, N = n ∧ chkE n l = 0 ∧ (∀ i, i < (inV N l bs cs k x).length → (inV N l bs cs k x).getD i 0 < l.length) ∧ (inV N l bs cs k x).length ≤ 8192 ∧ (∀ i, i < (bdV N l bs cs k x).length → (bdV N l bs cs k x).getD i 0 < n) := by
 obtain ⟨hNR, j, q, rfl, hj, rfl, hq⟩ := inE_zero h
 have h1024 := (chk_zero hNR.1).2.1
 have h0N := (chk_zero hNR.1).1
 have h8 := (chk_zero hNR.1).2.2.1
 obtain ⟨n, hn⟩ : ∃ n : Nat, N = n := ⟨N.toNat, by omega⟩
 refine ⟨n, hn, hn ▸ hNR.1, fun i hi => ?_, ?_, fun i hi => ?_⟩
 ·have h1 := getS_mem hi
  unfold inV at h1 hi ⊢
  rw [if_pos h] at h1 hi ⊢
  exact (cho_mem.1 h1).1
 ·unfold inV
  rw [if_pos h]
  exact Nat.le_trans (cho_len _ _) h8
 ·have h1 := getS_mem hi
  unfold bdV at h1 hi ⊢
  rw [if_pos h] at h1 hi ⊢
  have h2 := (cho_mem.1 h1).1
  omega
theorem wg_ok {n : Nat} {l : List A} {ids : List Nat} {ws : List Int} (h : chkE n l = 0) (hid : ∀ i, i < ids.length → ids.getD i 0 < l.length) (h8 : ids.length ≤ 8192) (hws : ∀ i, i < ids.length → 0 ≤ ws.getD i 0 ∧ ws.getD i 0 < 4294967296) : WG n (wgL l ids ws) := by
 have hm : ∀ x, x ∈ wgL l ids ws → ((0 ≤ x.f ∧ x.f < n) ∧ (0 ≤ x.t ∧ x.t < n)) ∧ 0 ≤ x.w ∧ x.w < 4294967296 := fun x hx => by
  unfold wgL at hx
  obtain ⟨i, hi, rfl⟩ := List.mem_map.1 hx
  have hi' : i < ids.length := by simpa using hi
  exact ⟨chk_in h (hid i hi'), hws i hi'⟩
 refine ⟨?_, fun x hx => (hm x hx).2⟩
 obtain ⟨h1, h2, _, _⟩ := chk_zero h
 unfold chkE
 rw [if_neg (by omega), if_neg (by rw [wgL_len]; omega), if_pos]
 rw [List.all_eq_true]
 intro x hx
 obtain ⟨⟨⟨a1, a2⟩, a3, a4⟩, _⟩ := hm x hx
 simp [okA, okV, a1, a2, a3, a4]
theorem arcs_far {w : World} {g b i : Nat} {l : List A} {u : Value} (h : Arcs w (some ⟨g, 0, none⟩) l) (hne : g ≠ b) : Arcs (w.setCell ⟨b, i, none⟩ u) (some ⟨g, 0, none⟩) l := by
 rcases h with h | ⟨b', o, e, hl, hc⟩
 ·exact Or.inl h
 ·injection e with e
  injection e with e1 e2 e3
  subst e1
  subst e2
  refine Or.inr ⟨g, 0, rfl, by simpa using hl, fun j hj => ?_⟩
  obtain ⟨h1, h2, h3⟩ := hc j hj
  have f : ∀ k, (w.setCell ⟨b, i, none⟩ u).cell? ⟨g, k, none⟩ = w.cell? ⟨g, k, none⟩ := fun k => World.cell?_of_block (a := ⟨g, k, none⟩) (Below.heap_setCell w ⟨b, i, none⟩ u g hne)
  exact ⟨(f _).trans h1, (f _).trans h2, (f _).trans h3⟩
def byE (N : Int) (l : List A) (bs : List Int) (cs : List (List Int)) (lv ce ep : Int) (m : Nat) : Int := if inE N l bs cs lv ce ≠ 0 then inE N l bs cs lv ce else jbE ep m (inV N l bs cs lv ce).length
structure AlG (W w : World) (bg g n m : Nat) (wl : List A) : Prop where
 be : Below W.heap.size W w
 bg : w.heap[bg]? = some (.cells #[.int .i64 n, .slice (some ⟨g, 0, none⟩) m m] 24)
 ar : Arcs w (some ⟨g, 0, none⟩) wl
theorem alg_of {W w : World} {bg g n m : Nat} {wl : List A} (hb : Below W.heap.size W w) (hg : w.heap[bg]? = some (.cells #[.int .i64 0, .slice none 0 0] 24)) (hgB : W.heap.size ≤ bg) (ha : Arcs w (some ⟨g, 0, none⟩) wl) (hne : g ≠ bg) :
  AlG W ((w.setCell ⟨bg, 0, none⟩ (.int .i64 n)).setCell ⟨bg, 1, none⟩ (.slice (some ⟨g, 0, none⟩) m m)) bg g n m wl := by
 have g1 := heap_setCell_same w bg 0 _ _ (.int .i64 n) hg
 have g2 := heap_setCell_same _ bg 1 _ _ (.slice (some ⟨g, 0, none⟩) m m) g1
 exact ⟨(hb.setCell (p := ⟨bg, 0, none⟩) hgB _).setCell (p := ⟨bg, 1, none⟩) hgB _, by rw [g2]; simp, arcs_far (arcs_far ha hne) hne⟩
set_option maxHeartbeats 3200000 in
theorem byArcs_any (N : Int) (a : Option Addr) (l : List A) (cap : Nat) (ba : Option Addr) (bs : List Int) (bc : Nat) (ca : Option Addr) (C : List Cl) (cc : Nat) (lv ce ep : Int) (wa : Option Addr) (ws : List Int) (wk : Nat) (w : World) (hl : l.length ≤ 9223372036854775807) (hbl : bs.length ≤ 9223372036854775807) (hr : Arcs w a l) (hi : Ints w ba bs) (hR : Rws w ca C) (hW : Wts w wa ws) (hws : ∀ i, i < ws.length → 0 ≤ ws.getD i 0 ∧ ws.getD i 0 < 4294967296) :
  Calls Tryz.prog 88 #[.agg #[.int .i64 N, .slice a l.length cap, .slice ba bs.length bc, .slice ca C.length cc, .int .i64 lv, .int .i64 ce], .int .i64 ep, .slice wa ws.length wk] w fun e w' => ((byE N l bs (csl C) lv ce ep ws.length) = 0 → (∃ v c, e = .returned (.tuple #[.agg #[.int .i64 lv, .int .i64 ce, .int .i64 ep, .slice v (mxL (wgL l (inV N l bs (csl C) lv ce) ws) (bdV N l bs (csl C) lv ce)).length c], .int .i64 0]) ∧ w'.ownsRow w.heap.size 48 1 (.slice v (mxL (wgL l (inV N l bs (csl C) lv ce) ws) (bdV N l bs (csl C) lv ce)).length c) (mxL (wgL l (inV N l bs (csl C) lv ce) ws) (bdV N l bs (csl C) lv ce)).length (cellsU (mxL (wgL l (inV N l bs (csl C) lv ce) ws) (bdV N l bs (csl C) lv ce))) ∧ ∀ i, i < (bdV N l bs (csl C) lv ce).length → N5.IsD ((wgL l (inV N l bs (csl C) lv ce) ws).map toN) (fun _ => true) ((bdV N l bs (csl C) lv ce).getD i 0) (dF (wgL l (inV N l bs (csl C) lv ce) ws) ((bdV N l bs (csl C) lv ce).getD i 0)))) ∧ ((byE N l bs (csl C) lv ce ep ws.length) ≠ 0 → e = .returned (.tuple #[.agg #[.int .i64 0, .int .i64 0, .int .i64 0, .slice none 0 0], .int .i64 (byE N l bs (csl C) lv ce ep ws.length)])) ∧ Below w.heap.size w w' := by
 obtain ⟨hg0, hg1, hb0, hsz⟩ := top2 w (.cells #[.int .i64 N, .slice a l.length cap, .slice ba bs.length bc, .slice ca C.length cc, .int .i64 lv, .int .i64 ce] 118) (.cells #[.int .i64 0, .int .i64 0, .int .i64 0, .slice none 0 0] 40)
 obtain ⟨c0, c1, c2, c3, c4, c5⟩ := six_cells hg0
 have HIN := Lib.hid (plInner_any N a l cap ba bs bc ca C cc lv ce _ hl hbl (hr.on hb0) (hi.on hb0) (hR.on hb0))
 have HB0 := Lib.hid hb0
 have HG0 := Lib.hid hg0
 have HG1 := Lib.hid hg1
 have HRA := Lib.hid hr
 have HRI := Lib.hid hi
 have HRR := Lib.hid hR
 have HWT := Lib.hid hW
 have HWS := Lib.hid hws
 have HBF := Lib.hid (@by_facts N l bs (csl C) lv ce)
 have HBDL : (bdV N l bs (csl C) lv ce).length ≤ 1024 := bd_len
 have HBY : Hid ((byE N l bs (csl C) lv ce ep ws.length) = if inE N l bs (csl C) lv ce ≠ 0 then inE N l bs (csl C) lv ce else jbE ep ws.length (inV N l bs (csl C) lv ce).length) := rfl
 obtain ⟨E, HE⟩ := named (inE N l bs (csl C) lv ce)
 obtain ⟨ids, HID⟩ := named (inV N l bs (csl C) lv ce)
 obtain ⟨S, HS⟩ := named (bdV N l bs (csl C) lv ce)
 rw [HE.out, HID.out] at HIN
 rw [HE.out, HID.out] at HBY
 rw [HE.out, HID.out, HS.out] at HBF
 rw [HS.out] at HBDL
 obtain ⟨B, HBB⟩ := named (byE N l bs (csl C) lv ce ep ws.length)
 rw [HBB.out] at HBY
 rw [HBB.out, HID.out, HS.out]
 clear hr hi hR hb0 hg0 hg1 hW hws HBB
 generalize hp : w.heap.size = p at *
 go_enter Tryz.func88, Tryz.ntmps88
 go_wp2_with fail
 generalize hWW : (w.alloc (.cells #[.int .i64 N, .slice a l.length cap, .slice ba bs.length bc, .slice ca C.length cc, .int .i64 lv, .int .i64 ce] 118)).alloc (.cells #[.int .i64 0, .int .i64 0, .int .i64 0, .slice none 0 0] 40) = W at *
 clear hWW
 refine HIN.out.mono ?_
 rintro e w1 ⟨v1, rfl, hr1, hb1⟩
 have hz1 := hb1.size
 have HB1 : Hid (Below p w w1) := HB0.out.trans (hb1.mono (by omega))
 have HK0 := Lib.hid ((hb1.block p (by omega)).trans HG0.out)
 have HK1 := Lib.hid ((hb1.block (p + 1) (by omega)).trans HG1.out)
 have HI1 := Lib.hid hr1.ints
 have hw1 : p + 2 ≤ w1.heap.size := by omega
 clear hr1 hb1 HIN c0 c1 c2 c3 c4 c5 HB0 HG0 HG1 hz1
 have HR4 : Hid (∀ wr : World, wr.heap[p + 1]? = some (.cells #[.int .i64 0, .int .i64 0, .int .i64 0, .slice none 0 0] 40) → ((wr.cell? ⟨p + 1, 0, none⟩ = some (.int .i64 0) ∧ wr.cell? ⟨p + 1, 1, none⟩ = some (.int .i64 0) ∧ wr.cell? ⟨p + 1, 2, none⟩ = some (.int .i64 0) ∧ wr.cell? ⟨p + 1, 3, none⟩ = some (.slice none 0 0)) ∧ (wr.frozen? ⟨p + 1, 0, none⟩ = false ∧ wr.frozen? ⟨p + 1, 1, none⟩ = false ∧ wr.frozen? ⟨p + 1, 2, none⟩ = false ∧ wr.frozen? ⟨p + 1, 3, none⟩ = false))) := fun wr h => four_cells h
 have HZ4 : Hid (∀ wr : World, wr.heap[p + 1]? = some (.cells #[.int .i64 0, .int .i64 0, .int .i64 0, .slice none 0 0] 40) → Below p w wr → ((((((wr.setCell ⟨p + 1, 0, none⟩ (.int .i64 0)).setCell ⟨p + 1, 1, none⟩ (.int .i64 0)).setCell ⟨p + 1, 2, none⟩ (.int .i64 0)).setCell ⟨p + 1, 3, none⟩ (.slice none 0 0)).heap[p + 1]? = some (.cells #[.int .i64 0, .int .i64 0, .int .i64 0, .slice none 0 0] 40)) ∧ Below p w ((((wr.setCell ⟨p + 1, 0, none⟩ (.int .i64 0)).setCell ⟨p + 1, 1, none⟩ (.int .i64 0)).setCell ⟨p + 1, 2, none⟩ (.int .i64 0)).setCell ⟨p + 1, 3, none⟩ (.slice none 0 0)))) := fun wr h hb => ⟨set4 h _ _ _ _, below_set4 hb (by omega) _ _ _ _⟩
 obtain ⟨⟨d0, d1, d2, d3⟩, f0, f1, f2, f3⟩ := HR4.out w1 HK1.out
 by_cases h1 : E = 0
 ·subst h1
  obtain ⟨n, rfl, hC0, hid, h8, hSn⟩ := HBF.out rfl
  have HBY : Hid (B = jbE ep ws.length ids.length) := by show _ = _; rw [HBY.out, if_neg (by simp)]
  have HCJ := Lib.hid (checkJob_any ep wa ws.length wk v1 ids.length ids.length w1)
  rw [← HBY.out] at HCJ
  go_wp2_with fail
  refine HCJ.out.mono ?_
  rintro e w2 ⟨rfl, hw2⟩
  subst hw2
  by_cases h2 : B = 0
  ·subst h2
   have hlw : ws.length = ids.length := by
    have := HBY.out
    unfold jbE at this
    split at this
    ·exact absurd this (by decide)
    ·split at this
     ·exact absurd this (by decide)
     ·rename_i h3; simpa using h3
   obtain ⟨m, HM⟩ := named ids.length
   rw [HM.out] at hlw
   have HWG : Hid (∀ W2, Below w2.heap.size w2 W2 → Calls Tryz.prog 138 #[.agg #[.int .i64 n, .slice a l.length cap], .slice v1 m m, .slice wa m wk] W2 fun e w' => ∃ g, e = .returned (.slice (some ⟨g, 0, none⟩) m m) ∧ W2.heap.size ≤ g ∧ g < w'.heap.size ∧ Arcs w' (some ⟨g, 0, none⟩) (wgL l ids ws) ∧ Below W2.heap.size W2 w') := fun W2 hb => by
    have hbw : Below p w W2 := HB1.out.trans (hb.mono (by omega))
    exact weighed_any n a l cap v1 ids m wa ws wk m W2 (chk_zero hC0).2.2.1 HM.out hlw (by rw [← HM.out]; exact h8) (fun i hi => hid i (by rw [HM.out]; exact hi)) (HRA.out.on (hp ▸ hbw)) (HI1.out.on hb) (HWT.out.on (hp ▸ hbw))
   have HG : Hid (WG n (wgL l ids ws)) := wg_ok hC0 hid h8 (fun i hi => HWS.out i (by rw [hlw, ← HM.out]; exact hi))
   have HLW := Lib.hid hlw
   have HSN := Lib.hid hSn
   have HSS : Hid (∀ w' : World, Below w2.heap.size w2 w' → w'.cell? ⟨p, 0, none⟩ = some (.int .i64 n) ∧ w'.cell? ⟨p, 1, none⟩ = some (.slice a l.length cap)) := fun W2 hb => by
    obtain ⟨x0, x1, _⟩ := six_cells ((hb.block p (by omega)).trans HK0.out)
    exact ⟨x0, x1⟩
   have HB00 : Hid (Below w2.heap.size w2 w2.drew) := (Below.refl _ _).drew
   obtain ⟨k0, k1⟩ := HSS.out _ (Below.refl _ _)
   rw [HM.out]
   rw [hlw]
   clear hC0 hid h8 hSn hlw HCJ d0 d1 d2 d3 f0 f1 f2 f3 HBY
   generalize hW0 : w2 = W0 at *
   clear hW0
   go_wp2_with fail
   go_cut [11] (fun s11 wc => ∃ (bg g : Nat), s11 = .pointer (some ⟨bg, 0, none⟩) ∧ Hid (AlG W0 wc bg g n m (wgL l ids ws)))
   case first =>
    refine wp_region_held_drew (S := fun w' => w'.cell? ⟨p, 0, none⟩ = some (.int .i64 n) ∧ w'.cell? ⟨p, 1, none⟩ = some (.slice a l.length cap)) (by kernel_rfl) (HSS.out _ HB00.out) ?_
    intro hS0
    generalize W0.drew = Wd at *
    simp only [List.size_toArray, List.length_cons, List.length_nil]
    refine wpAnyH_take (i := 0) (v := ?_) rfl (by kernel_rfl) (by decide +kernel) (by decide +kernel) (fun _ _ _ h => h) (Or.inl ⟨by rfl, ?_⟩) (by assumption) ?_
    rotate_left
    ·intro w hSw
     (try dsimp only at hSw)
     go_simp
     (try with_reducible rfl)
    try simp only [Act.put, List.getElem_toArray, List.getElem_cons_zero, List.setIfInBounds_toArray, List.set_cons_zero, List.set_cons_succ]
    refine wpAnyH_take (i := 1) (v := ?_) rfl (by kernel_rfl) (by decide +kernel) (by decide +kernel) (fun _ _ _ h => h) (Or.inl ⟨by rfl, ?_⟩) (by assumption) ?_
    rotate_left
    ·intro w hSw
     (try dsimp only at hSw)
     go_simp
     (try with_reducible rfl)
    try simp only [Act.put, List.getElem_toArray, List.getElem_cons_zero, List.getElem_cons_succ, List.setIfInBounds_toArray, List.set_cons_zero, List.set_cons_succ]
    refine wpAnyH_take (i := 2) (v := ?_) rfl (by kernel_rfl) (by decide +kernel) (by decide +kernel) (fun _ _ _ h => h) (Or.inl ⟨by rfl, ?_⟩) (by assumption) ?_
    rotate_left
    ·intro w hSw
     (try dsimp only at hSw)
     go_simp
     (try with_reducible rfl)
    try simp only [Act.put, List.getElem_toArray, List.getElem_cons_zero, List.getElem_cons_succ, List.setIfInBounds_toArray, List.set_cons_zero, List.set_cons_succ]
    refine wpAnyH_take (i := 3) (v := ?_) rfl (by kernel_rfl) (by decide +kernel) (by decide +kernel) (fun _ _ _ h => h) (Or.inl ⟨by rfl, ?_⟩) (by assumption) ?_
    rotate_left
    ·intro w hSw
     (try dsimp only at hSw)
     go_simp
     (try with_reducible rfl)
    try simp only [Act.put, List.getElem_toArray, List.getElem_cons_zero, List.getElem_cons_succ, List.setIfInBounds_toArray, List.set_cons_zero, List.set_cons_succ]
    refine wpAnyH_take (i := 4) (v := ?_) rfl (by kernel_rfl) (by decide +kernel) (by decide +kernel) (fun _ _ _ h => h) (Or.inl ⟨by rfl, ?_⟩) (by assumption) ?_
    rotate_left
    ·intro w hSw
     (try dsimp only at hSw)
     go_simp
     (try with_reducible rfl)
    try simp only [Act.put, List.getElem_toArray, List.getElem_cons_zero, List.getElem_cons_succ, List.setIfInBounds_toArray, List.set_cons_zero, List.set_cons_succ]
    refine wpAnyH_take (i := 5) (v := ?_) rfl (by kernel_rfl) (by decide +kernel) (by decide +kernel) (fun _ _ _ h => h) (Or.inl ⟨by rfl, ?_⟩) (by assumption) ?_
    rotate_left
    ·intro w hSw
     (try dsimp only at hSw)
     go_simp
     (try with_reducible rfl)
    try simp only [Act.put, List.getElem_toArray, List.getElem_cons_zero, List.getElem_cons_succ, List.setIfInBounds_toArray, List.set_cons_zero, List.set_cons_succ]
    refine wpAnyH_take (i := 6) (v := ?_) rfl (by kernel_rfl) (by decide +kernel) (by decide +kernel) (fun _ _ _ h => h) (Or.inl ⟨by rfl, ?_⟩) (by assumption) ?_
    rotate_left
    ·intro w hSw
     (try dsimp only at hSw)
     go_simp
     (try with_reducible rfl)
    try simp only [Act.put, List.getElem_toArray, List.getElem_cons_zero, List.getElem_cons_succ, List.setIfInBounds_toArray, List.set_cons_zero, List.set_cons_succ]
    refine wpAnyH_ready (rs := [7, 9]) (by kernel_rfl) (by simp) ?_
    refine AllReadyH.cons rfl (fun K hK => ?_) (AllReadyH.cons rfl (fun K hK => ?_) (AllReadyH.nil))
    ·skip
     rw [if_pos (by rfl)]
     go_simp
     refine (HWG.out Wd HB00.out).mono ?_
     rintro e w7 ⟨g, rfl, hgl, hg7, har, hbn⟩
     have HB7 : Hid (Below W0.heap.size W0 w7) := HB00.out.trans (hbn.mono HB00.out.size)
     refine hK.out _ _ (HSS.out _ HB7.out) (fun _ => ?_)
     clear hK K
     try simp only [Act.put, List.getElem_toArray, List.getElem_cons_zero, List.getElem_cons_succ, List.setIfInBounds_toArray, List.set_cons_zero, List.set_cons_succ]
     refine wpAnyH_take (i := 8) (v := ?_) rfl (by kernel_rfl) (by decide +kernel) (by decide +kernel) (fun _ _ _ h => h) (Or.inl ⟨by rfl, ?_⟩) (by assumption) ?_
     rotate_left
     ·intro w hSw
      (try dsimp only at hSw)
      go_simp
      (try with_reducible rfl)
     try simp only [Act.put, List.getElem_toArray, List.getElem_cons_zero, List.getElem_cons_succ, List.setIfInBounds_toArray, List.set_cons_zero, List.set_cons_succ]
     refine wpAnyH_ready (rs := [9]) (by kernel_rfl) (by simp) ?_
     refine AllReadyH.cons rfl (fun K hK => ?_) AllReadyH.nil
     go_simp
     have hbm : Below w7.heap.size w7 (w7.alloc (.cells #[.int .i64 0, .slice none 0 0] 24)) := (Below.refl _ _).alloc (Nat.le_refl _) _
     have HBG : Hid ((w7.alloc (.cells #[.int .i64 0, .slice none 0 0] 24)).heap[w7.heap.size]? = some (.cells #[.int .i64 0, .slice none 0 0] 24) ∧ W0.heap.size ≤ w7.heap.size) := ⟨heap_top w7 _, HB7.out.size⟩
     have HB9 : Hid (Below W0.heap.size W0 (w7.alloc (.cells #[.int .i64 0, .slice none 0 0] 24))) := HB7.out.trans (hbm.mono HB7.out.size)
     have HA9 := Lib.hid (har.on hbm)
     have hne : g ≠ w7.heap.size := by omega
     refine hK.out _ _ (HSS.out _ HB9.out) (fun _ => ?_)
     clear hK K
     try simp only [Act.put, List.getElem_toArray, List.getElem_cons_zero, List.getElem_cons_succ, List.setIfInBounds_toArray, List.set_cons_zero, List.set_cons_succ]
     generalize w7.heap.size = bg at *
     generalize w7.alloc (.cells #[.int .i64 0, .slice none 0 0] 24) = w9 at *
     have HAL := Lib.hid (alg_of HB9.out HBG.out.1 HBG.out.2 HA9.out hne (n := n) (m := m))
     obtain ⟨⟨z0, z1⟩, zf0, zf1⟩ := two_cells HBG.out.1
     refine wpAnyH_ready (rs := [10]) (by kernel_rfl) (by simp) ?_
     refine AllReadyH.cons rfl (fun K hK => ?_) AllReadyH.nil
     go_simp
     refine hK.out _ _ (HSS.out _ HAL.out.be) (fun _ => ?_)
     clear hK K
     try simp only [Act.put, List.getElem_toArray, List.getElem_cons_zero, List.getElem_cons_succ, List.setIfInBounds_toArray, List.set_cons_zero, List.set_cons_succ]
     refine wpAnyH_done (by kernel_rfl) ?_ _
     go_wp2_with fail
     go_meet
     case rel => exact ⟨bg, g, rfl, HAL⟩
    ·skip
     go_simp
     have hbm : Below Wd.heap.size Wd (Wd.alloc (.cells #[.int .i64 0, .slice none 0 0] 24)) := (Below.refl _ _).alloc (Nat.le_refl _) _
     have HG9 : Hid ((Wd.alloc (.cells #[.int .i64 0, .slice none 0 0] 24)).heap[Wd.heap.size]? = some (.cells #[.int .i64 0, .slice none 0 0] 24) ∧ W0.heap.size ≤ Wd.heap.size) := ⟨heap_top Wd _, HB00.out.size⟩
     have HB9 : Hid (Below W0.heap.size W0 (Wd.alloc (.cells #[.int .i64 0, .slice none 0 0] 24))) := HB00.out.trans (hbm.mono HB00.out.size)
     have hz9 : (Wd.alloc (.cells #[.int .i64 0, .slice none 0 0] 24)).heap.size = Wd.heap.size + 1 := by simp
     refine hK.out _ _ (HSS.out _ HB9.out) (fun _ => ?_)
     clear hK K
     try simp only [Act.put, List.getElem_toArray, List.getElem_cons_zero, List.getElem_cons_succ, List.setIfInBounds_toArray, List.set_cons_zero, List.set_cons_succ]
     generalize Wd.heap.size = bg at *
     generalize Wd.alloc (.cells #[.int .i64 0, .slice none 0 0] 24) = w9 at *
     refine wpAnyH_ready (rs := [7]) (by kernel_rfl) (by simp) ?_
     refine AllReadyH.cons rfl (fun K hK => ?_) AllReadyH.nil
     rw [if_pos (by rfl)]
     go_simp
     refine (HWG.out w9 HB9.out).mono ?_
     rintro e w7 ⟨g, rfl, hgl, hg7, har, hbn⟩
     have HB7 : Hid (Below W0.heap.size W0 w7) := HB9.out.trans (hbn.mono HB9.out.size)
     have HBG : Hid (w7.heap[bg]? = some (.cells #[.int .i64 0, .slice none 0 0] 24) ∧ W0.heap.size ≤ bg) := ⟨(hbn.block _ (lt_of_block HG9.out.1)).trans HG9.out.1, HG9.out.2⟩
     have hne : g ≠ bg := by omega
     have HA9 := Lib.hid har
     refine hK.out _ _ (HSS.out _ HB7.out) (fun _ => ?_)
     clear hK K
     try simp only [Act.put, List.getElem_toArray, List.getElem_cons_zero, List.getElem_cons_succ, List.setIfInBounds_toArray, List.set_cons_zero, List.set_cons_succ]
     refine wpAnyH_take (i := 8) (v := ?_) rfl (by kernel_rfl) (by decide +kernel) (by decide +kernel) (fun _ _ _ h => h) (Or.inl ⟨by rfl, ?_⟩) (by assumption) ?_
     rotate_left
     ·intro w hSw
      (try dsimp only at hSw)
      go_simp
      (try with_reducible rfl)
     try simp only [Act.put, List.getElem_toArray, List.getElem_cons_zero, List.getElem_cons_succ, List.setIfInBounds_toArray, List.set_cons_zero, List.set_cons_succ]
     have HAL := Lib.hid (alg_of HB7.out HBG.out.1 HBG.out.2 HA9.out hne (n := n) (m := m))
     obtain ⟨⟨z0, z1⟩, zf0, zf1⟩ := two_cells HBG.out.1
     refine wpAnyH_ready (rs := [10]) (by kernel_rfl) (by simp) ?_
     refine AllReadyH.cons rfl (fun K hK => ?_) AllReadyH.nil
     go_simp
     refine hK.out _ _ (HSS.out _ HAL.out.be) (fun _ => ?_)
     clear hK K
     try simp only [Act.put, List.getElem_toArray, List.getElem_cons_zero, List.getElem_cons_succ, List.setIfInBounds_toArray, List.set_cons_zero, List.set_cons_succ]
     refine wpAnyH_done (by kernel_rfl) ?_ _
     go_wp2_with fail
     go_meet
     case rel => exact ⟨bg, g, rfl, HAL⟩
   case rest =>
    obtain ⟨bg, g, rfl, HAL⟩ := hcut
    have HBC : Hid (Below p w wc) := HB1.out.trans (HAL.out.be.mono (by omega))
    have hzc := HAL.out.be.size
    obtain ⟨c0, c1, c2, c3, c4, c5⟩ := six_cells ((HAL.out.be.block p (by omega)).trans HK0.out)
    have HKC := Lib.hid ((HAL.out.be.block (p + 1) (by omega)).trans HK1.out)
    have HWL : Hid ((wgL l ids ws).length = m) := by show _ = _; rw [wgL_len, HM.out]
    have HMX := Lib.hid (matrix_any n a l cap ba bs bc ca C cc lv ce ep bg (wgL l ids ws) (some ⟨g, 0, none⟩) m S wc HE.out HS.out HSN.out HBDL HG.out hl hbl (HRA.out.on (hp ▸ HBC.out)) (HRI.out.on (hp ▸ HBC.out)) (HRR.out.on (hp ▸ HBC.out)) (by rw [HWL.out]; exact HAL.out.bg) HAL.out.ar)
    obtain ⟨X, HX⟩ := named (mxL (wgL l ids ws) S)
    rw [HX.out] at HMX
    have hmf : ∀ (fn : Fn) (first cap : Array Value) (w : World), (Instr.makeFunc fn first cap).run Tryz.prog w = .ok (.func fn first cap) w := fun _ _ _ _ => rfl
    clear HWG HSS HB00 k0 k1 HG
    go_wp2_with fail
    refine HMX.out.mono ?_
    rintro e w5 ⟨v, c, rfl, hown, hD, hb5⟩
    have hK5 := (hb5.block (p + 1) (by omega)).trans HKC.out
    obtain ⟨⟨d0, d1, d2, d3⟩, f0, f1, f2, f3⟩ := HR4.out w5 hK5
    have HR5 := Lib.hid (four_cells (set4 hK5 (.int .i64 lv) (.int .i64 ce) (.int .i64 ep) (.slice v X.length c))).1
    have HO5 := Lib.hid (own_base (own_set4 hown (show p + 1 < wc.heap.size by omega) (.int .i64 lv) (.int .i64 ce) (.int .i64 ep) (.slice v X.length c)) (show p ≤ wc.heap.size by omega))
    have HB5 := Lib.hid (below_set4 (HBC.out.trans (hb5.mono (by omega))) (show p ≤ p + 1 by omega) (.int .i64 lv) (.int .i64 ce) (.int .i64 ep) (.slice v X.length c))
    have HD5 := Lib.hid hD
    clear hK5 hown hD hb5 HMX c0 c1 c2 c3 c4 c5
    go_wp2_with fail
    obtain ⟨r0, r1, r2, r3⟩ := HR5.out
    rw [HX.out]
    refine bodyPost_ret (v := .tuple #[.agg #[.int .i64 lv, .int .i64 ce, .int .i64 ep, .slice v X.length c], .int .i64 0]) (by simp [results, Tryz.results88, go_sem, r0, r1, r2, r3]) rfl ?_
    first | exact ⟨⟨v, c, rfl, HO5.out, HD5.out⟩, HB5.out⟩ | exact ⟨fun _ => ⟨v, c, rfl, HO5.out, HD5.out⟩, fun h => absurd rfl h, HB5.out⟩
  ·have e2 : (B != 0) = true := by simpa using h2
   obtain ⟨r4, HBZ⟩ := HZ4.out w2 HK1.out HB1.out
   have HRZ := Lib.hid (HR4.out _ r4).1
   have HBZ := Lib.hid HBZ
   clear r4
   go_wp2_with fail
   obtain ⟨r0, r1, r2, r3⟩ := HRZ.out
   refine bodyPost_ret (v := .tuple #[.agg #[.int .i64 0, .int .i64 0, .int .i64 0, .slice none 0 0], .int .i64 B]) (by simp [results, Tryz.results88, go_sem, r0, r1, r2, r3]) rfl ?_
   exact ⟨fun h => absurd h h2, fun _ => rfl, HBZ.out⟩
 ·have e1 : (E != 0) = true := by simpa using h1
  obtain rfl : B = E := by rw [HBY.out, if_pos h1]
  obtain ⟨r4, HBZ⟩ := HZ4.out w1 HK1.out HB1.out
  have HRZ := Lib.hid (HR4.out _ r4).1
  have HBZ := Lib.hid HBZ
  clear r4
  go_wp2_with fail
  obtain ⟨r0, r1, r2, r3⟩ := HRZ.out
  refine bodyPost_ret (v := .tuple #[.agg #[.int .i64 0, .int .i64 0, .int .i64 0, .slice none 0 0], .int .i64 B]) (by simp [results, Tryz.results88, go_sem, r0, r1, r2, r3]) rfl ?_
  exact ⟨fun h => absurd h h1, fun _ => rfl, HBZ.out⟩
def Dts (w : World) (a : Option Addr) (xs : List Int) : Prop := xs = [] ∨ ∃ b o, a = some ⟨b, o, none⟩ ∧ b < w.heap.size ∧ ∀ j, j < xs.length → w.cell? ⟨b, o + j, none⟩ = some (.int .u64 (xs.getD j 0))
theorem Dts.on {w w' : World} {a : Option Addr} {xs : List Int} (h : Dts w a xs) (hb : Below w.heap.size w w') : Dts w' a xs := by
 rcases h with h | ⟨b, o, h1, h2, h3⟩
 ·exact Or.inl h
 ·exact Or.inr ⟨b, o, h1, Nat.lt_of_lt_of_le h2 hb.size, fun j hj => (hb.cell (p := ⟨b, o + j, none⟩) h2).trans (h3 j hj)⟩
theorem Dts.get {w : World} {a : Option Addr} {xs : List Int} (h : Dts w a xs) : ∃ b o, 0 < xs.length → a = some ⟨b, o, none⟩ ∧ b < w.heap.size ∧ ∀ j, j < xs.length → w.cell? ⟨b, o + j, none⟩ = some (.int .u64 (xs.getD j 0)) := by
 rcases h with h | ⟨b, o, h1, h2, h3⟩
 ·exact ⟨0, 0, fun h5 => by rw [h] at h5; simp at h5⟩
 ·exact ⟨b, o, fun _ => ⟨h1, h2, h3⟩⟩
theorem cellsU_getD (xs : List Int) (k : Nat) (h : k < xs.length) : (cellsU xs)[k]? = some (.int .u64 (xs.getD k 0)) := by
 unfold cellsU
 simp [List.getD, List.getElem?_eq_getElem h]
theorem dts_own {w : World} {B : Nat} {a : Option Addr} {c : Nat} {xs : List Int} (h : w.ownsRow B 48 1 (.slice a xs.length c) xs.length (cellsU xs)) : Dts w a xs := by
 rcases h.2 with ⟨e1, e2⟩ | ⟨g, c', cur, e1, _, h3, _⟩
 ·exact Or.inl (List.eq_nil_of_length_eq_zero e2)
 ·injection e1 with e1 e2 e3
  subst e1
  refine Or.inr ⟨g, 0, rfl, lt_of_block h3, fun j hj => ?_⟩
  rw [Nat.zero_add, World.ownsRow.cellAt h j (by omega), cellsU_getD _ j hj]
theorem dts_block {w : World} {b : Nat} {xs : List Int} {t : TypeId} (h : w.heap[b]? = some (.cells (cellsU xs).toArray t (0, 0))) : Dts w (some ⟨b, 0, none⟩) xs := by
 refine .inr ⟨b, 0, rfl, lt_of_block h, fun j hj => ?_⟩
 simp [World.cell?, h, cellsU, List.getD, hj]
set_option maxHeartbeats 3200000 in
theorem sameD_any (a a' : Option Addr) (cap cap' : Nat) (xs : List Int) (w : World) (hlen : xs.length ≤ 9223372036854775807) (hr : Dts w a xs) (hr' : Dts w a' xs) :
  Calls Tryz.prog 68 #[.slice a xs.length cap, .slice a' xs.length cap'] w fun e w' => e = .returned (.bool true) ∧ Below w.heap.size w w' := by
 obtain ⟨b, o, hab⟩ := hr.get
 obtain ⟨b', o', hab'⟩ := hr'.get
 go_enter Tryz.func68, Tryz.ntmps68
 go_wp2_with fail
 go_loopw [5] (fun i wr => ∃ k n : Nat, k ≤ xs.length ∧ i = .int .i64 k ∧ wr = w.drewN n) (fun i _ => xs.length - (intOf i).toNat)
 case atStart => exact ⟨0, 0, Nat.zero_le _, rfl, rfl⟩
 case round =>
  obtain ⟨k, n, hk, rfl, rfl⟩ := hrel
  by_cases hlt : k < xs.length
  ·obtain ⟨rfl, _, hc⟩ := hab (by omega)
   obtain ⟨rfl, _, hc'⟩ := hab' (by omega)
   have c1 := hc k hlt
   have c2 := hc' k hlt
   clear hc hc'
   generalize xs.getD k 0 = x at *
   go_wp2_with fail
   go_quiet (fail)
   go_wp2_with fail
   exact ⟨⟨k + 1, _, by omega, by go_num, rfl⟩, by simp [intOf]; omega⟩
  ·go_wp2_with fail
   go_ret
   exact ⟨rfl, below_drewN _ _ _⟩
set_option maxHeartbeats 3200000 in
theorem leaf_any (N : Int) (a : Option Addr) (l : List A) (cap : Nat) (ba : Option Addr) (bs : List Int) (bc : Nat) (ca : Option Addr) (C : List Cl) (cc : Nat) (ce ep : Int) (wa : Option Addr) (ws : List Int) (wk : Nat) (w : World) (hl : l.length ≤ 9223372036854775807) (hbl : bs.length ≤ 9223372036854775807) (hr : Arcs w a l) (hi : Ints w ba bs) (hR : Rws w ca C) (hW : Wts w wa ws) (hws : ∀ i, i < ws.length → 0 ≤ ws.getD i 0 ∧ ws.getD i 0 < 4294967296) :
  Calls Tryz.prog 33 #[.agg #[.int .i64 N, .slice a l.length cap], .agg #[.slice ba bs.length bc, .slice ca C.length cc], .int .i64 ce, .int .i64 ep, .slice wa ws.length wk] w fun e w' => ((byE N l bs (csl C) 1 ce ep ws.length) = 0 → (∃ v c, e = .returned (.tuple #[.agg #[.int .i64 1, .int .i64 ce, .int .i64 ep, .slice v (mxL (wgL l (inV N l bs (csl C) 1 ce) ws) (bdV N l bs (csl C) 1 ce)).length c], .int .i64 0]) ∧ w'.ownsRow w.heap.size 48 1 (.slice v (mxL (wgL l (inV N l bs (csl C) 1 ce) ws) (bdV N l bs (csl C) 1 ce)).length c) (mxL (wgL l (inV N l bs (csl C) 1 ce) ws) (bdV N l bs (csl C) 1 ce)).length (cellsU (mxL (wgL l (inV N l bs (csl C) 1 ce) ws) (bdV N l bs (csl C) 1 ce))) ∧ ∀ i, i < (bdV N l bs (csl C) 1 ce).length → N5.IsD ((wgL l (inV N l bs (csl C) 1 ce) ws).map toN) (fun _ => true) ((bdV N l bs (csl C) 1 ce).getD i 0) (dF (wgL l (inV N l bs (csl C) 1 ce) ws) ((bdV N l bs (csl C) 1 ce).getD i 0)))) ∧ ((byE N l bs (csl C) 1 ce ep ws.length) ≠ 0 → e = .returned (.tuple #[.agg #[.int .i64 0, .int .i64 0, .int .i64 0, .slice none 0 0], .int .i64 (byE N l bs (csl C) 1 ce ep ws.length)])) ∧ Below w.heap.size w w' := by
 obtain ⟨hg0, hg1, hg2, hb0, hsz⟩ := top3 w (.cells #[.int .i64 N, .slice a l.length cap] 24) (.cells #[.slice ba bs.length bc, .slice ca C.length cc] 28) (.cells #[.int .i64 0, .int .i64 0, .int .i64 0, .slice none 0 0] 40)
 obtain ⟨⟨a0, a1⟩, _⟩ := two_cells hg0
 obtain ⟨⟨a2, a3⟩, _⟩ := two_cells hg1
 have HBY := Lib.hid (byArcs_any N a l cap ba bs bc ca C cc 1 ce ep wa ws wk _ hl hbl (hr.on hb0) (hi.on hb0) (hR.on hb0) (hW.on hb0) hws)
 have HB0 := Lib.hid hb0
 have HG2 := Lib.hid hg2
 obtain ⟨B, HBB⟩ := named (byE N l bs (csl C) 1 ce ep ws.length)
 obtain ⟨X, HX⟩ := named (mxL (wgL l (inV N l bs (csl C) 1 ce) ws) (bdV N l bs (csl C) 1 ce))
 obtain ⟨wl', HWL⟩ := named (wgL l (inV N l bs (csl C) 1 ce) ws)
 rw [HBB.out] at HBY
 rw [HBB.out]
 rw [HX.out, HWL.out] at HBY
 rw [HX.out, HWL.out]
 clear hr hi hR hW hws hb0 hg0 hg1 hg2
 generalize hp : w.heap.size = p at *
 go_enter Tryz.func33, Tryz.ntmps33
 go_wp2_with fail
 generalize hWW : (((w.alloc (.cells #[.int .i64 N, .slice a l.length cap] 24)).alloc (.cells #[.slice ba bs.length bc, .slice ca C.length cc] 28)).alloc (.cells #[.int .i64 0, .int .i64 0, .int .i64 0, .slice none 0 0] 40)) = W at *
 clear hWW
 refine HBY.out.mono ?_
 rintro e w5 ⟨hok, hno, hb5⟩
 have hK5 := (hb5.block (p + 1 + 1) (by omega)).trans HG2.out
 obtain ⟨⟨d0, d1, d2, d3⟩, f0, f1, f2, f3⟩ := four_cells hK5
 by_cases h : B = 0
 ·subst h
  obtain ⟨v, c, rfl, hown, hD⟩ := hok rfl
  have HR5 := Lib.hid (four_cells (set4 hK5 (.int .i64 1) (.int .i64 ce) (.int .i64 ep) (.slice v X.length c))).1
  have HO5 := Lib.hid (own_base (own_set4 hown (show p + 1 + 1 < W.heap.size by omega) (.int .i64 1) (.int .i64 ce) (.int .i64 ep) (.slice v X.length c)) (show p ≤ W.heap.size by omega))
  have HB5 := Lib.hid (below_set4 (HB0.out.trans (hb5.mono (by omega))) (show p ≤ p + 1 + 1 by omega) (.int .i64 1) (.int .i64 ce) (.int .i64 ep) (.slice v X.length c))
  have HD5 := Lib.hid hD
  clear hK5 hown hD hb5 HBY hok hno a0 a1 a2 a3
  go_wp2_with fail
  obtain ⟨r0, r1, r2, r3⟩ := HR5.out
  refine bodyPost_ret (v := .tuple #[.agg #[.int .i64 1, .int .i64 ce, .int .i64 ep, .slice v X.length c], .int .i64 0]) (by simp [results, Tryz.results33, go_sem, r0, r1, r2, r3]) rfl ?_
  first | exact ⟨⟨v, c, rfl, HO5.out, HD5.out⟩, HB5.out⟩ | exact ⟨fun _ => ⟨v, c, rfl, HO5.out, HD5.out⟩, fun h => absurd rfl h, HB5.out⟩
 ·obtain rfl := hno h
  have HR5 := Lib.hid (four_cells (set4 hK5 (.int .i64 0) (.int .i64 0) (.int .i64 0) (.slice none 0 0))).1
  have HB5 := Lib.hid (below_set4 (HB0.out.trans (hb5.mono (by omega))) (show p ≤ p + 1 + 1 by omega) (.int .i64 0) (.int .i64 0) (.int .i64 0) (.slice none 0 0))
  clear hK5 hb5 HBY hok hno a0 a1 a2 a3
  go_wp2_with fail
  obtain ⟨r0, r1, r2, r3⟩ := HR5.out
  refine bodyPost_ret (v := .tuple #[.agg #[.int .i64 0, .int .i64 0, .int .i64 0, .slice none 0 0], .int .i64 B]) (by simp [results, Tryz.results33, go_sem, r0, r1, r2, r3]) rfl ?_
  exact ⟨fun h' => absurd h' h, fun _ => rfl, HB5.out⟩
theorem made_u64 (n : Nat) : madeCells (Value.int .u64 0).cells (n * 1) = ((List.range n).map (fun _ => Value.int .u64 0)).toArray := by
 apply Array.ext'
 show (madeCells #[Value.int .u64 0] (n * 1)).toList = _
 rw [toList_madeCells_one, Nat.mul_one]
 apply List.ext_getElem
 ·simp
 ·intro i h1 h2
  simp
theorem one_cellU {w : World} {b : Nat} {v : Value} {t : TypeId} (h : w.heap[b]? = some (.cells #[v] t)) : w.cell? ⟨b, 0, none⟩ = some v ∧ w.frozen? ⟨b, 0, none⟩ = false := by
 simp only [World.cell?, World.frozen?, h]
 exact ⟨rfl, rfl⟩
theorem top3U (w : World) (o0 o1 o2 : Obj) : (((w.alloc o0).alloc o1).alloc o2).heap[w.heap.size]? = some o0 ∧ (((w.alloc o0).alloc o1).alloc o2).heap[w.heap.size + 1]? = some o1 ∧ (((w.alloc o0).alloc o1).alloc o2).heap[w.heap.size + 1 + 1]? = some o2 ∧ Below w.heap.size w (((w.alloc o0).alloc o1).alloc o2) ∧ (((w.alloc o0).alloc o1).alloc o2).heap.size = w.heap.size + 3 := by
 obtain ⟨h1, h2, h3, h4⟩ := top2 w o0 o1
 have hb : Below ((w.alloc o0).alloc o1).heap.size ((w.alloc o0).alloc o1) (((w.alloc o0).alloc o1).alloc o2) := (Below.refl _ _).alloc (Nat.le_refl _) _
 refine ⟨(hb.block _ (by omega)).trans h1, (hb.block _ (by omega)).trans h2, ?_, h3.trans (hb.mono (by omega)), by rw [World.size_alloc, h4]⟩
 have := heap_top ((w.alloc o0).alloc o1) o2
 rw [h4] at this
 exact this
def flV (k v : Nat) : Value := .int .u64 (if v < k then N5.Inf else 0)
theorem flV_step (k v : Nat) : updV (flV k) k (.int .u64 N5.Inf) v = flV (k + 1) v := by
 by_cases e : v = k
 ·subst e
  rw [updV_self]
  unfold flV
  rw [if_pos (by omega)]
 ·rw [updV_ne _ _ e]
  unfold flV
  by_cases h : v < k
  ·rw [if_pos h, if_pos (by omega)]
  ·rw [if_neg h, if_neg (by omega)]
set_option maxHeartbeats 1600000 in
theorem rfrom_any (g n s : Nat) (rv : Nat → Value) (r : List A) (w : World) (hR : RdR w g n rv r) (hRB : ∀ b, RB g n rv b → b < w.heap.size) (hs : s < n) (hn : n ≤ 1024) (hrr : RdOk n r) (hrl : r.length ≤ 1099511627776) :
  Calls Tryz.prog 140 #[.slice (some ⟨g, 0, none⟩) n n, .int .i64 s] w fun e w' => ∃ bf, e = .returned (.slice (some ⟨bf, 0, none⟩) n n) ∧ w.heap.size ≤ bf ∧ TbV w' bf n 48 (fun v => .int .u64 (dF r s v)) ∧ N5.IsD (r.map toN) (fun _ => true) s (dF r s) ∧ Below w.heap.size w w' := by
 obtain ⟨i, hi, hz, hs', hby⟩ := info_parts info75
 have hmk : ∀ w, (Instr.makeSlice 38 (.int .i64 n) (.int .i64 n)).run Tryz.prog w = .ok (.slice (some ⟨w.heap.size, 0, none⟩) n n) (w.alloc (.cells ((List.range n).map (fun _ => Value.int .u64 0)).toArray 48)) := fun w => by
  have := run_make (P := Tryz.prog) w 38 48 i (.int .u64 0) Tryz.underlying38 hi hz .i64 .i64 n n (by omega) (by omega) (by rw [hby]; omega) (by omega)
  rw [this, Int.toNat_natCast, hs', made_u64]
 clear hi hz hs' hby
 clear i
 have hs2 : (s : Int) < n := by omega
 have hb0 : Below w.heap.size w (w.alloc (.cells #[.slice (some ⟨g, 0, none⟩) n n] 191)) := (Below.refl _ _).alloc (Nat.le_refl _) _
 have hg0 := heap_top w (.cells #[.slice (some ⟨g, 0, none⟩) n n] 191)
 have HR := Lib.hid hR
 have HRB := Lib.hid hRB
 have HRR := Lib.hid hrr
 have HB0 := Lib.hid hb0
 have HG0 := Lib.hid hg0
 obtain ⟨k0, k1, k2, hb3, hz3⟩ := top3U w (.cells #[.slice (some ⟨g, 0, none⟩) n n] 191) (.cells ((List.range n).map (fun _ => Value.int .u64 0)).toArray 48) (.cells #[.slice (some ⟨w.heap.size + 1, 0, none⟩) n n] 38)
 have HK0 := Lib.hid k0
 have HT0 : Hid (TbV (((w.alloc (.cells #[.slice (some ⟨g, 0, none⟩) n n] 191)).alloc (.cells ((List.range n).map (fun _ => Value.int .u64 0)).toArray 48)).alloc (.cells #[.slice (some ⟨w.heap.size + 1, 0, none⟩) n n] 38)) (w.heap.size + 1) n 48 (flV 0)) := TbV.congr (V := fun _ => .int .u64 0) k1 (fun v _ => by unfold flV; rw [if_neg (by omega)])
 have HK2 := Lib.hid k2
 have HB3 := Lib.hid hb3
 have b0 : (w.alloc (.cells #[.slice (some ⟨g, 0, none⟩) n n] 191)).cell? ⟨w.heap.size, 0, none⟩ = some (.slice (some ⟨g, 0, none⟩) n n) := (one_cellU HG0.out).1
 clear hR hRB hrr hb0 hg0 k0 k1 k2 hb3
 generalize hp : w.heap.size = p at *
 go_enter Tryz.func140, Tryz.ntmps140
 go_wp2_with fail
 generalize hW : ((w.alloc (.cells #[.slice (some ⟨g, 0, none⟩) n n] 191)).alloc (.cells ((List.range n).map (fun _ => Value.int .u64 0)).toArray 48)).alloc (.cells #[.slice (some ⟨p + 1, 0, none⟩) n n] 38) = W at *
 clear hW HG0 b0 HB0
 go_loopw [12] (fun i wr => ∃ k : Nat, k ≤ n ∧ i = .int .i64 k ∧ Hid (TbV wr (p + 1) n 48 (flV k)) ∧ Hid (wr.heap[p]? = some (.cells #[.slice (some ⟨g, 0, none⟩) n n] 191)) ∧ Hid (wr.heap[p + 1 + 1]? = some (.cells #[.slice (some ⟨p + 1, 0, none⟩) n n] 38)) ∧ Hid (Below p w wr)) (fun i _ => n - (intOf i).toNat)
 case atStart => exact ⟨0, Nat.zero_le _, rfl, HT0, HK0, HK2, HB3⟩
 case round =>
  clear HT0 HK0 HK2 HB3
  obtain ⟨k, hk, rfl, HT, HK0, HK2, HBR⟩ := hrel
  have b0 := (one_cellU HK0.out).1
  have b2 := (one_cellU HK2.out).1
  have hz2 := lt_of_block HK2.out
  by_cases hkn : k < n
  ·have hkn' : (k : Int) < n := by omega
   have t0 := HT.out.cell hkn
   have t1 := HT.out.free k
   have HT2 : Hid (TbV (wr.setCell ⟨p + 1, k, none⟩ (.int .u64 18446744073709551615)) (p + 1) n 48 (flV (k + 1))) := (HT.out.set k (.int .u64 N5.Inf)).congr (fun v _ => flV_step k v)
   have HE0 : Hid ((wr.setCell ⟨p + 1, k, none⟩ (.int .u64 18446744073709551615)).heap[p]? = some (.cells #[.slice (some ⟨g, 0, none⟩) n n] 191)) := (Below.heap_setCell _ _ _ _ (by show p ≠ p + 1; omega)).trans HK0.out
   have HE2 : Hid ((wr.setCell ⟨p + 1, k, none⟩ (.int .u64 18446744073709551615)).heap[p + 1 + 1]? = some (.cells #[.slice (some ⟨p + 1, 0, none⟩) n n] 38)) := (Below.heap_setCell _ _ _ _ (by show p + 1 + 1 ≠ p + 1; omega)).trans HK2.out
   have HE3 : Hid (Below p w (wr.setCell ⟨p + 1, k, none⟩ (.int .u64 18446744073709551615))) := HBR.out.setCell (p := ⟨p + 1, k, none⟩) (by show p ≤ p + 1; omega) _
   go_wp2_with fail
   exact ⟨⟨k + 1, hkn, by simp, HT2, HE0, HE2, HE3⟩, by simp [intOf]; omega⟩
  ·have hkn' : ¬ (k : Int) < n := by omega
   have t0 := HT.out.cell hs
   have t1 := HT.out.free s
   have HT2 : Hid (TbV (wr.setCell ⟨p + 1, s, none⟩ (.int .u64 0)) (p + 1) n 48 (fun u => .int .u64 (N5.updI (fun _ => N5.Inf) s 0 u))) := (HT.out.set s (.int .u64 0)).congr (fun v hv => by
    by_cases e : v = s
    ·subst e; rw [updV_self, N5.updI_self]
    ·rw [updV_ne _ _ e, N5.updI_ne _ _ e]
     unfold flV
     rw [if_pos (by omega)])
   have HE0 : Hid ((wr.setCell ⟨p + 1, s, none⟩ (.int .u64 0)).heap[p]? = some (.cells #[.slice (some ⟨g, 0, none⟩) n n] 191)) := (Below.heap_setCell _ _ _ _ (by show p ≠ p + 1; omega)).trans HK0.out
   have HE2 : Hid ((wr.setCell ⟨p + 1, s, none⟩ (.int .u64 0)).heap[p + 1 + 1]? = some (.cells #[.slice (some ⟨p + 1, 0, none⟩) n n] 38)) := (Below.heap_setCell _ _ _ _ (by show p + 1 + 1 ≠ p + 1; omega)).trans HK2.out
   have HE3 : Hid (Below p w (wr.setCell ⟨p + 1, s, none⟩ (.int .u64 0))) := HBR.out.setCell (p := ⟨p + 1, s, none⟩) (by show p ≤ p + 1; omega) _
   have HSC : Hid (∀ W2, TbV W2 (p + 1) n 48 (fun u => .int .u64 (N5.updI (fun _ => N5.Inf) s 0 u)) → W2.heap[p]? = some (.cells #[.slice (some ⟨g, 0, none⟩) n n] 191) → W2.heap[p + 1 + 1]? = some (.cells #[.slice (some ⟨p + 1, 0, none⟩) n n] 38) → Below p w W2 → Calls Tryz.prog 191 #[.int .i64 s, .slice (some ⟨p + 1, 0, none⟩) n n, .func (.func 192) #[] #[.pointer (some ⟨p + 1 + 1, 0, none⟩), .pointer (some ⟨p, 0, none⟩)]] W2 fun e w' => e = .returned (.tuple #[]) ∧ ∃ F, TbV w' (p + 1) n 48 (fun u => .int .u64 (F u)) ∧ N5.IsD (r.map toN) (fun _ => true) s F ∧ Fr (SD0 (p + 1) W2.heap.size) W2 w') := fun W2 h1 h2 h3 h4 =>
    search_any (p + 1 + 1) p (p + 1) g n s rv r W2 (one_cellU h3).1 (one_cellU h2).1 h1 (HR.out.fr (D := fun _ => False) ⟨h4.os, h4.tape, h4.output, h4.size, fun k hk _ => h4.block k (hp ▸ hk)⟩ (fun _ _ h => h)) (fun b hb => ⟨by have := HRB.out b hb; have := lt_of_block h2; omega, by have := HRB.out b hb; omega⟩) (by omega) (by omega) hs hn HRR.out hrl
   have hmf : ∀ (fn : Fn) (first cap : Array Value) (w : World), (Instr.makeFunc fn first cap).run Tryz.prog w = .ok (.func fn first cap) w := fun _ _ _ _ => rfl
   clear HT HK0 HK2 HBR
   have b2' := (one_cellU HE2.out).1
   go_wp2_with fail
   generalize wr.setCell ⟨p + 1, s, none⟩ (.int .u64 0) = W2 at *
   refine (HSC.out W2 HT2.out HE0.out HE2.out HE3.out).mono ?_
   rintro e w3 ⟨rfl, F, hT3, hD3, hF3⟩
   have hz4 := lt_of_block HE2.out
   have e3 := dF_is hD3
   have HT3 : Hid (TbV w3 (p + 1) n 48 (fun v => .int .u64 (dF r s v))) := by rw [e3]; exact hT3
   have HD3 : Hid (N5.IsD (r.map toN) (fun _ => true) s (dF r s)) := by rw [e3]; exact hD3
   have HB4 : Hid (Below p w w3) := HE3.out.trans (hF3.below (by omega) (fun k hk => by rcases hk with h | h <;> omega))
   have b3 := (one_cellU ((hF3.block (p + 1 + 1) hz4 (fun h => by rcases h with h | h <;> omega)).trans HE2.out)).1
   clear hT3 hD3 hF3 e3 HSC b2 b0 b2' t0 t1
   go_wp2_with fail
   go_ret
   exact ⟨p + 1, rfl, by omega, HT3.out, HD3.out, HB4.out⟩
end Go.Proofs.YtaafkpojjdjphaaGreat
