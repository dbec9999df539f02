import Derived.Test.YtaafkpojjdjphaaGreatQAK
namespace Go.Proofs.YtaafkpojjdjphaaGreat
open Go.RowKit
theorem bt_facts {N : Int} {l : List A} {bs : List Int} {cs : List (List Int)} {k x : Int} (h : btE N l bs cs k x = 0) : inE N l bs cs k x = 0 ∧ (∃ j : Nat, k = (j : Int) + 2) ∧ (∀ i, i < (btV N l bs cs k x).length → (btV N l bs cs k x).getD i 0 < l.length) ∧ (btV N l bs cs k x).length ≤ 8192 := by
 have h0 : inE N l bs cs k x = 0 := by
  unfold btE at h
  split at h
  ·rename_i h1; exact absurd h h1
  ·rename_i h1; simpa using h1
 have h1 : k ≠ 1 := fun e => by
  unfold btE at h
  rw [if_neg (by rw [h0]; simp), if_pos e] at h
  cases h
 obtain ⟨hNR, j, q, rfl, hj, rfl, hq⟩ := inE_zero h0
 have h8 := (chk_zero hNR.1).2.2.1
 refine ⟨h0, ⟨j - 1, by omega⟩, fun i hi => ?_, ?_⟩
 ·have h1 := getS_mem hi
  unfold btV at h1 hi ⊢
  rw [if_pos h] at h1 hi ⊢
  exact (cho_mem.1 h1).1
 ·unfold btV
  rw [if_pos h]
  exact Nat.le_trans (cho_len _ _) h8
theorem made_nil (n : Nat) : madeCells (Value.slice none 0 0).cells (n * 1) = ((List.range n).map (fun _ => Value.slice none 0 0)).toArray := by
 apply Array.ext'
 show (madeCells #[Value.slice none 0 0] (n * 1)).toList = _
 rw [toList_madeCells_one, Nat.mul_one]
 apply List.ext_getElem
 ·simp
 ·intro i h1 h2
  simp
theorem infoSR : (Tryz.prog.info? 254).map (fun i => (i.zero, i.size, i.bytes)) = some (some (.slice none 0 0), 1, 24) := by kernel_rfl
theorem rds_new (w : World) (n : Nat) : Rds (w.alloc (.cells ((List.range n).map (fun _ => Value.slice none 0 0)).toArray 254)) w.heap.size w.heap.size n (fun _ => .slice none 0 0) [] :=
 ⟨heap_top w _, Nat.le_refl _, fun _ _ => World.ownsRow_nil _ _ _ _, fun _ _ _ _ _ _ h => by cases h⟩
theorem rowI_cells {w : World} {B : Nat} {v : Option Addr} {S : List Nat} (h : RowI w B v (ints S)) (h0 : 0 < S.length) : ∃ ib, v = some ⟨ib, 0, none⟩ ∧ B ≤ ib ∧ ∀ i, i < S.length → w.cell? ⟨ib, i, none⟩ = some (.int .i64 (S.getD i 0 : Nat)) := by
 rcases h with ⟨_, e⟩ | ⟨g, cur, h1, h2, h3, h4⟩
 ·have := congrArg List.length e
  rw [ints_len] at this
  simp at this
  rw [this] at h0
  simp at h0
 ·refine ⟨g, h1, h2, fun i hi => ?_⟩
  have h5 := cellsI_getD (ints S) i (by rw [ints_len]; exact hi)
  rw [← h4, ints_len, List.getElem?_take_of_lt hi, ints_getD hi] at h5
  simp only [World.cell?, h3]
  simpa using h5
theorem kid_inU {N : Int} {l : List A} {bs : List Int} {cs : List (List Int)} {j q : Nat} (h : inE N l bs cs ((j : Int) + 2) q = 0) {k : Nat} (hk : k ∈ chL (lvl cs j) (lvl cs (j + 1)) (q : Int)) : inE N l bs cs ((j : Int) + 1) k = 0 := by
 obtain ⟨hNR, j2, q2, e, hj, _, _⟩ := inE_zero h
 obtain rfl : j2 = j + 1 := by omega
 obtain ⟨_, b2, _⟩ := hNR.lv (k := j) (by omega)
 refine inE_ok hNR (by omega) ?_
 have hm : k < (lsL (lvl cs j) 0 []).length := by
  have : k < (lsL (lvl cs j) 0 []).length ∧ (lvl cs (j + 1)).getD ((lsL (lvl cs j) 0 []).getD k 0) 0 = q := by simpa [chL, chT] using hk
  exact this.1
 rw [← ls_len b2]
 exact hm
set_option maxRecDepth 100000 in
set_option maxHeartbeats 6400000 in
theorem byChildren_any (N : Int) (a : Option Addr) (l : List A) (cap : Nat) (ba : Option Addr) (bs : List Int) (bc : Nat) (ca : Option Addr) (C : List Cl) (cc : Nat) (lv ce ep : Int) (wa : Option Addr) (ws : List Int) (wk : Nat) (ma : Option Addr) (M : List Mt) (mc : Nat) (w : World) (hl : l.length ≤ 9223372036854775807) (hbl : bs.length ≤ 9223372036854775807) (hr : Arcs w a l) (hi : Ints w ba bs) (hR : Rws w ca C) (hW : Wts w wa ws) (hws : ∀ i, i < ws.length → 0 ≤ ws.getD i 0 ∧ ws.getD i 0 < 4294967296) (hM : Mts w ma M) :
  Calls Tryz.prog 69 #[.agg #[.int .i64 N, .slice a l.length cap, .slice ba bs.length bc, .slice ca C.length cc, .int .i64 lv, .int .i64 ce], .int .i64 ep, .slice wa ws.length wk, .slice ma M.length mc] w fun e w' => ((upE N l bs (csl C) lv ce ep ws.length M) = 0 → (∃ v c, e = .returned (.tuple #[.agg #[.int .i64 lv, .int .i64 ce, .int .i64 ep, .slice v (mxL (upL N l bs (csl C) lv ce ws M) (bdV N l bs (csl C) lv ce)).length c], .int .i64 0]) ∧ w'.ownsRow w.heap.size 48 1 (.slice v (mxL (upL N l bs (csl C) lv ce ws M) (bdV N l bs (csl C) lv ce)).length c) (mxL (upL N l bs (csl C) lv ce ws M) (bdV N l bs (csl C) lv ce)).length (cellsU (mxL (upL N l bs (csl C) lv ce ws M) (bdV N l bs (csl C) lv ce))) ∧ ∀ i, i < (bdV N l bs (csl C) lv ce).length → N5.IsD ((upL N l bs (csl C) lv ce ws M).map toN) (fun _ => true) ((bdV N l bs (csl C) lv ce).getD i 0) (dF (upL N l bs (csl C) lv ce ws M) ((bdV N l bs (csl C) lv ce).getD i 0)))) ∧ ((upE N l bs (csl C) lv ce ep ws.length M) ≠ 0 → e = .returned (.tuple #[.agg #[.int .i64 0, .int .i64 0, .int .i64 0, .slice none 0 0], .int .i64 (upE N l bs (csl C) lv ce ep ws.length M)])) ∧ Below w.heap.size w w' := by
 obtain ⟨hg0, hg1, hb0, hsz⟩ := top2 w (.cells #[.int .i64 N, .slice a l.length cap, .slice ba bs.length bc, .slice ca C.length cc, .int .i64 lv, .int .i64 ce] 118) (.cells #[.int .i64 0, .int .i64 0, .int .i64 0, .slice none 0 0] 40)
 obtain ⟨c0, c1, c2, c3, c4, c5⟩ := six_cells hg0
 have HBT := Lib.hid (plBetween_any N a l cap ba bs bc ca C cc lv ce _ hl hbl (hr.on hb0) (hi.on hb0) (hR.on hb0))
 have HB0 := Lib.hid hb0
 have HG0 := Lib.hid hg0
 have HG1 := Lib.hid hg1
 have HRA := Lib.hid hr
 have HRI := Lib.hid hi
 have HRR := Lib.hid hR
 have HWT := Lib.hid hW
 have HWS := Lib.hid hws
 have HMM := Lib.hid hM
 have HBF := Lib.hid (@bt_facts N l bs (csl C) lv ce)
 have HUE : Hid ((upE N l bs (csl C) lv ce ep ws.length M) = if btE N l bs (csl C) lv ce ≠ 0 then btE N l bs (csl C) lv ce else if jbE ep ws.length (btV N l bs (csl C) lv ce).length ≠ 0 then jbE ep ws.length (btV N l bs (csl C) lv ce).length else if M.length ≠ (chL (lvl (csl C) (lv.toNat - 2)) (lvl (csl C) (lv.toNat - 1)) ce).length then 130 else if (List.range M.length).all (kidB N l bs (csl C) (lv - 1) ep (chL (lvl (csl C) (lv.toNat - 2)) (lvl (csl C) (lv.toNat - 1)) ce) M) = true then 0 else 130) := rfl
 have HUL : Hid ((upL N l bs (csl C) lv ce ws M) = adA (upR (fun i => bdV N l bs (csl C) (lv - 1) ((chL (lvl (csl C) (lv.toNat - 2)) (lvl (csl C) (lv.toNat - 1)) ce).getD i 0 : Nat)) (fun i => (mt M i).D) (chL (lvl (csl C) (lv.toNat - 2)) (lvl (csl C) (lv.toNat - 1)) ce).length) (wgL l (btV N l bs (csl C) lv ce) ws)) := rfl
 obtain ⟨E, HE⟩ := named (btE N l bs (csl C) lv ce)
 obtain ⟨ids, HID⟩ := named (btV N l bs (csl C) lv ce)
 rw [HE.out, HID.out] at HBT HBF HUE
 rw [HID.out] at HUL
 obtain ⟨U, HU⟩ := named (upE N l bs (csl C) lv ce ep ws.length M)
 rw [HU.out] at HUE
 rw [HU.out]
 obtain ⟨R, HRL⟩ := named (upL N l bs (csl C) lv ce ws M)
 rw [HRL.out] at HUL
 rw [HRL.out]
 have HCJ := Lib.hid (fun (ia : Option Addr) (W2 : World) => checkJob_any ep wa ws.length wk ia ids.length ids.length W2)
 obtain ⟨J, HJ⟩ := named (jbE ep ws.length ids.length)
 rw [HJ.out] at HUE
 have HCJ : Hid (∀ (ia : Option Addr) (W2 : World), Calls Tryz.prog 133 #[.int .i64 ep, .slice wa ws.length wk, .slice ia ids.length ids.length] W2 fun e w' => e = .returned (.int .i64 J) ∧ w' = W2) := fun ia W2 => by
  have := HCJ.out ia W2
  rw [HJ.out] at this
  exact this
 clear hr hi hR hb0 hg0 hg1 hW hws hM HU HRL
 generalize hp : w.heap.size = p at *
 go_enter Tryz.func69, Tryz.ntmps69
 go_wp2_with fail
 generalize hWW : (w.alloc (.cells #[.int .i64 N, .slice a l.length cap, .slice ba bs.length bc, .slice ca C.length cc, .int .i64 lv, .int .i64 ce] 118)).alloc (.cells #[.int .i64 0, .int .i64 0, .int .i64 0, .slice none 0 0] 40) = W at *
 clear hWW
 refine HBT.out.mono ?_
 rintro e w1 ⟨v1, rfl, hr1, hb1⟩
 have hz1 := hb1.size
 have HB1 : Hid (Below p w w1) := HB0.out.trans (hb1.mono (by omega))
 have HK0 := Lib.hid ((hb1.block p (by omega)).trans HG0.out)
 have HK1 := Lib.hid ((hb1.block (p + 1) (by omega)).trans HG1.out)
 have HI1 := Lib.hid hr1.ints
 have hw1 : p + 2 ≤ w1.heap.size := by omega
 clear hr1 hb1 HBT c0 c1 c2 c3 c4 c5 HB0 HG0 HG1 hz1
 have HR4 : Hid (∀ wr : World, wr.heap[p + 1]? = some (.cells #[.int .i64 0, .int .i64 0, .int .i64 0, .slice none 0 0] 40) → ((wr.cell? ⟨p + 1, 0, none⟩ = some (.int .i64 0) ∧ wr.cell? ⟨p + 1, 1, none⟩ = some (.int .i64 0) ∧ wr.cell? ⟨p + 1, 2, none⟩ = some (.int .i64 0) ∧ wr.cell? ⟨p + 1, 3, none⟩ = some (.slice none 0 0)) ∧ (wr.frozen? ⟨p + 1, 0, none⟩ = false ∧ wr.frozen? ⟨p + 1, 1, none⟩ = false ∧ wr.frozen? ⟨p + 1, 2, none⟩ = false ∧ wr.frozen? ⟨p + 1, 3, none⟩ = false))) := fun wr h => four_cells h
 have HZ4 : Hid (∀ wr : World, wr.heap[p + 1]? = some (.cells #[.int .i64 0, .int .i64 0, .int .i64 0, .slice none 0 0] 40) → Below p w wr → ((((((wr.setCell ⟨p + 1, 0, none⟩ (.int .i64 0)).setCell ⟨p + 1, 1, none⟩ (.int .i64 0)).setCell ⟨p + 1, 2, none⟩ (.int .i64 0)).setCell ⟨p + 1, 3, none⟩ (.slice none 0 0)).heap[p + 1]? = some (.cells #[.int .i64 0, .int .i64 0, .int .i64 0, .slice none 0 0] 40)) ∧ Below p w ((((wr.setCell ⟨p + 1, 0, none⟩ (.int .i64 0)).setCell ⟨p + 1, 1, none⟩ (.int .i64 0)).setCell ⟨p + 1, 2, none⟩ (.int .i64 0)).setCell ⟨p + 1, 3, none⟩ (.slice none 0 0)))) := fun wr h hb => ⟨set4 h _ _ _ _, below_set4 hb (by omega) _ _ _ _⟩
 by_cases h1 : E = 0
 ·obtain ⟨hin, ⟨j, hj⟩, hid, h8⟩ := HBF.out h1
  subst h1
  rw [if_neg (fun h => h rfl)] at HUE
  have HID2 := Lib.hid hid
  clear hid HBF
  obtain ⟨n, hn, hC0, _, _, hSn⟩ := by_facts hin
  go_wp2_with fail
  refine (HCJ.out v1 w1).mono ?_
  rintro e w2 ⟨rfl, hw2⟩
  subst hw2
  by_cases h2 : J = 0
  ·subst h2
   rw [if_neg (fun h => h rfl)] at HUE
   subst hj
   subst hn
   obtain ⟨hNR, j2, q, e3, hj2, hce, hq⟩ := inE_zero hin
   subst hce
   have hn8 : n ≤ 1024 := by have := (chk_zero hC0).2.1; omega
   have hl8 := (chk_zero hC0).2.2.1
   have hK8 : (chL (cl C j).xs (cl C (j + 1)).xs (q : Int)).length ≤ 1024 := by
    obtain ⟨b1, b2, _⟩ := hNR.lv (k := j) (by omega)
    rw [csl_at] at b1 b2
    have g1 := chT_len (cl C (j + 1)).xs (lsL (cl C j).xs 0 []) (q : Int) (lsL (cl C j).xs 0 []).length
    have g2 := ls_len b2
    have g3 := szL_length (cl C j).xs
    unfold chL
    omega
   clear hNR e3 hj2 hq
   clear j2
   rw [show ((j : Int) + 2).toNat - 2 = j by omega, show ((j : Int) + 2).toNat - 1 = j + 1 by omega, show (j : Int) + 2 - 1 = (j : Int) + 1 by omega, csl_at, csl_at] at HUE HUL
   have hlw : ws.length = ids.length := by
    have := HJ.out
    unfold jbE at this
    split at this
    ·exact absurd this (by decide)
    ·split at this
     ·exact absurd this (by decide)
     ·rename_i h3; simpa using h3
   have HKI : Hid (∀ i, i < (chL (cl C j).xs (cl C (j + 1)).xs (q : Int)).length → inE n l bs (csl C) ((j : Int) + 1) ((chL (cl C j).xs (cl C (j + 1)).xs (q : Int)).getD i 0 : Nat) = 0) := fun i hi => kid_inU hin (by rw [csl_at, csl_at]; exact getS_mem hi)
   have HCH : Hid (∀ W2, Below p w W2 → Calls Tryz.prog 134 #[.agg #[.int .i64 n, .slice a l.length cap, .slice ba bs.length bc, .slice ca C.length cc, .int .i64 ((j : Int) + 2), .int .i64 (q : Nat)]] W2 fun e w' => ∃ v c, e = .returned (.slice v (chL (cl C j).xs (cl C (j + 1)).xs (q : Int)).length c) ∧ w'.ownsRow W2.heap.size 118 6 (.slice v (chL (cl C j).xs (cl C (j + 1)).xs (q : Int)).length c) (chL (cl C j).xs (cl C (j + 1)).xs (q : Int)).length (cellsPl (.int .i64 n) (.slice a l.length cap) (.slice ba bs.length bc) (.slice ca C.length cc) ((j : Int) + 1) (chL (cl C j).xs (cl C (j + 1)).xs (q : Int))) ∧ Below W2.heap.size W2 w') := fun W2 hb => plChildren_any n a l cap ba bs bc ca C cc ((j : Int) + 2) q j W2 hin rfl (HRR.out.on (hp ▸ hb))
   have HIN := Lib.hid hin
   have HSN := Lib.hid hSn
   have HC0 := Lib.hid hC0
   obtain ⟨K, HK⟩ := named (chL (cl C j).xs (cl C (j + 1)).xs (q : Int))
   rw [HK.out] at HUE HUL HKI HCH hK8
   clear hin hSn hC0 HK
   obtain ⟨SS, HSS⟩ := named (fun i => bdV n l bs (csl C) ((j : Int) + 1) (K.getD i 0 : Nat))
   have HSI : Hid (∀ i, bdV n l bs (csl C) ((j : Int) + 1) (K.getD i 0 : Nat) = SS i) := fun i => congrFun HSS.out i
   obtain ⟨DD, HDD⟩ := named (fun i => (mt M i).D)
   have HDI : Hid (∀ i, (mt M i).D = DD i) := fun i => congrFun HDD.out i
   rw [HSS.out, HDD.out] at HUL
   have HKB : Hid (∀ i, kidB n l bs (csl C) ((j : Int) + 1) ep K M i = (hsB ((j : Int) + 1) (K.getD i 0 : Nat) (mt M i).lv (mt M i).ce (mt M i).ep (DD i).length (SS i).length && decide ((mt M i).ep ≤ ep))) := fun i => by
    unfold kidB
    rw [HSI.out, HDI.out]
   have HU2 : Hid (M.length ≠ K.length → U = 130) := fun h => by rw [HUE.out, if_pos h]
   have HU1 : Hid (M.length = K.length → ∀ i, i < K.length → kidB n l bs (csl C) ((j : Int) + 1) ep K M i = false → U = 130) := fun h i hi hf => by
    rw [HUE.out, if_neg (fun h2 => h2 h), if_neg]
    intro hall
    have := List.all_eq_true.1 hall i (List.mem_range.2 (by omega))
    rw [hf] at this
    cases this
   have HU0 : Hid (M.length = K.length → (∀ i, i < K.length → kidB n l bs (csl C) ((j : Int) + 1) ep K M i = true) → U = 0) := fun h ha => by
    rw [HUE.out, if_neg (fun h2 => h2 h), if_pos]
    exact List.all_eq_true.2 (fun i hi => ha i (by rw [← h]; exact List.mem_range.1 hi))
   have HSF : Hid (∀ i, i < K.length → (SS i).length ≤ 1024 ∧ ∀ k, k < (SS i).length → (SS i).getD k 0 < n) := fun i hi => by
    obtain ⟨n2, e, _, _, _, h⟩ := by_facts (HKI.out i hi)
    obtain rfl : n = n2 := by omega
    rw [HSI.out] at h
    exact ⟨by rw [← HSI.out]; exact bd_len, h⟩
   clear HSS HDD HUE
   obtain ⟨m, HM⟩ := named ids.length
   rw [HM.out] at hlw h8
   have HLW := Lib.hid hlw
   have HK0' := HK0
   obtain ⟨iS, hiS, hzS, hsS, hbyS⟩ := info_parts infoSR
   have hmk : ∀ w, (Instr.makeSlice 191 (.int .i64 n) (.int .i64 n)).run Tryz.prog w = .ok (.slice (some ⟨w.heap.size, 0, none⟩) n n) (w.alloc (.cells ((List.range n).map (fun _ => Value.slice none 0 0)).toArray 254)) := fun w => by
    have := run_make (P := Tryz.prog) w 191 254 iS (.slice none 0 0) Tryz.underlying191 hiS hzS .i64 .i64 n n (by omega) (by omega) (by rw [hbyS]; omega) (by omega)
    rw [this, Int.toNat_natCast, hsS, made_nil]
   clear hiS hzS hsS hbyS
   clear iS
   rw [HM.out, hlw]
   clear hlw
   obtain ⟨c0, c1, c2, c3, c4, c5⟩ := six_cells HK0.out
   go_wp2_with fail
   refine (HCH.out w2 HB1.out).mono ?_
   rintro e w3 ⟨pv, pc, rfl, hown, hb3⟩
   have HB3 : Hid (Below p w w3) := HB1.out.trans (hb3.mono (by omega))
   have HL0 := Lib.hid ((hb3.block p (by omega)).trans HK0.out)
   have HL1 := Lib.hid ((hb3.block (p + 1) (by omega)).trans HK1.out)
   have HI3 := Lib.hid (HI1.out.on hb3)
   have hw3 : p + 2 ≤ w3.heap.size := by have := hb3.size; omega
   have HOWN := Lib.hid hown
   clear hown hb3 c0 c1 c2 c3 c4 c5 HK0 HK1 HI1 HCH HK0' HCJ
   by_cases hMK : M.length = K.length
   ·have e4 : ((M.length : Int) != (K.length : Int)) = false := by simp; omega
    have HMK := Lib.hid hMK
    clear hMK
    obtain ⟨c0, c1, c2, c3, c4, c5⟩ := six_cells HL0.out
    have HRD0 := Lib.hid (rds_new w3 n)
    have hbT : Below w3.heap.size w3 (w3.alloc (.cells ((List.range n).map (fun _ => Value.slice none 0 0)).toArray 254)) := (Below.refl _ _).alloc (Nat.le_refl _) _
    have HBT := Lib.hid hbT
    clear hbT
    go_wp2_with fail
    generalize w3.alloc (.cells ((List.range n).map (fun _ => Value.slice none 0 0)).toArray 254) = W5 at *
    generalize hg : w3.heap.size = g at *
    clear c0 c1 c2 c3 c4 c5
    go_loopw [51] (fun i wr => ∃ (k : Nat), k ≤ K.length ∧ i = .int .i64 k ∧ Hid (∃ rv, Rds wr g g n rv (upR SS DD k)) ∧ Hid (Below g w3 wr) ∧ Hid (∀ i, i < k → kidB n l bs (csl C) ((j : Int) + 1) ep K M i = true)) (fun i _ => K.length - (intOf i).toNat)
    case atStart => exact ⟨0, Nat.zero_le _, rfl, ⟨_, HRD0.out⟩, HBT, fun i hi => absurd hi (by omega)⟩
    case round =>
     clear HRD0 HBT
     obtain ⟨k, hk, rfl, HRD, HBR, HAL⟩ := hrel
     have hwz : g ≤ wr.heap.size := by have := HBR.out.size; omega
     have HBW : Hid (Below p w wr) := HB3.out.trans (HBR.out.mono (by omega))
     have HX0 := Lib.hid ((HBR.out.block p (by omega)).trans HL0.out)
     have HX1 := Lib.hid ((HBR.out.block (p + 1) (by omega)).trans HL1.out)
     by_cases hlk : k < K.length
     ·have hlk' : (k : Int) < K.length := by omega
      have hMk : k < M.length := by rw [HMK.out]; exact hlk
      have hMk' : (k : Int) < M.length := by omega
      obtain ⟨pb, pc2, e5, hpb, hpbl⟩ := World.ownsRow.form HOWN.out (by omega)
      cases e5
      have hown := HOWN.out
      obtain ⟨q0, q1, q2, q3, q4, q5⟩ := cellsPl_at (.int .i64 n) (.slice a l.length cap) (.slice ba bs.length bc) (.slice ca C.length cc) ((j : Int) + 1) K k hlk
      have hpl := cellsPl_len (.int .i64 n) (.slice a l.length cap) (.slice ba bs.length bc) (.slice ca C.length cc) ((j : Int) + 1) K
      have HPC : Hid (∀ r u, r < 6 → (cellsPl (.int .i64 n) (.slice a l.length cap) (.slice ba bs.length bc) (.slice ca C.length cc) ((j : Int) + 1) K)[k * 6 + r]? = some u → wr.cell? ⟨pb, k * 6 + r, none⟩ = some u) := fun r u hr6 hu => by
       rw [← World.ownsRow.cellAt hown (k * 6 + r) (by omega)] at hu
       exact (HBR.out.cell (p := ⟨pb, k * 6 + r, none⟩) (by show pb < g; omega)).trans hu
      have y0 := HPC.out 0 _ (by omega) q0
      have y1 := HPC.out 1 _ (by omega) q1
      have y2 := HPC.out 2 _ (by omega) q2
      have y3 := HPC.out 3 _ (by omega) q3
      have y4 := HPC.out 4 _ (by omega) q4
      have y5 := HPC.out 5 _ (by omega) q5
      rw [Nat.add_zero] at y0
      clear q0 q1 q2 q3 q4 q5 hpl HPC hown
      obtain ⟨mb, mo, hmb⟩ := HMM.out.get
      obtain ⟨hma, hmbl, hmat⟩ := hmb (by omega)
      obtain ⟨z0, z1, z2, z3⟩ := hmat k hMk
      have x0 := (HBW.out.cell (p := ⟨mb, mo + k * 4, none⟩) (hp ▸ hmbl)).trans z0
      have x1 := (HBW.out.cell (p := ⟨mb, mo + k * 4 + 1, none⟩) (hp ▸ hmbl)).trans z1
      have x2 := (HBW.out.cell (p := ⟨mb, mo + k * 4 + 2, none⟩) (hp ▸ hmbl)).trans z2
      have x3 := (HBW.out.cell (p := ⟨mb, mo + k * 4 + 3, none⟩) (hp ▸ hmbl)).trans z3
      obtain ⟨hdts, hdl63, hdv⟩ := HMM.out.2 k hMk
      have HDT := Lib.hid hdts
      have HDV := Lib.hid hdv
      have HKK := Lib.hid (HKB.out k)
      obtain ⟨hS8, hSk⟩ := HSF.out k hlk
      have HSK := Lib.hid hSk
      have HBDc : Hid (∀ W2, Below p w W2 → Calls Tryz.prog 76 #[.agg #[.int .i64 n, .slice a l.length cap, .slice ba bs.length bc, .slice ca C.length cc, .int .i64 ((j : Int) + 1), .int .i64 (K.getD k 0 : Nat)]] W2 fun e w' => ∃ v, e = .returned (.tuple #[.slice v (SS k).length (SS k).length, .int .i64 0]) ∧ RowI w' W2.heap.size v (ints (SS k)) ∧ Below W2.heap.size W2 w') := fun W2 hb => by
       have h := plBound_any n a l cap ba bs bc ca C cc ((j : Int) + 1) (K.getD k 0 : Nat) W2 hl hbl (HRA.out.on (hp ▸ hb)) (HRI.out.on (hp ▸ hb)) (HRR.out.on (hp ▸ hb))
       rw [HSI.out, HKI.out k hlk] at h
       exact h
      have HNX : Hid (upR SS DD (k + 1) = adM (SS k) (DD k) (upR SS DD k) (DD k).length) := rfl
      rw [HDI.out] at x3 HDT HDV hdl63
      clear hmat z0 z1 z2 z3 hdts hdv hSk hmb
      subst hma
      obtain ⟨kv, HKV⟩ := named (K.getD k 0)
      rw [HKV.out] at y5 HKK HBDc
      obtain ⟨Sk, HSk⟩ := named (SS k)
      rw [HSk.out] at hS8 HSK HKK HBDc HNX
      obtain ⟨Dk, HDk⟩ := named (DD k)
      rw [HDk.out] at x3 HDT HDV hdl63 HKK HNX
      generalize (mt M k).lv = ml at *
      generalize (mt M k).ce = mce at *
      generalize (mt M k).ep = me at *
      generalize (mt M k).a = da at *
      generalize (mt M k).c = dc at *
      have HHS := Lib.hid (fun (v : Option Addr) (W2 : World) => plHas_any n a l cap ba bs bc ca C cc ((j : Int) + 1) (kv : Nat) ml mce me da Dk.length dc v Sk.length Sk.length W2 (Nat.le_trans (Nat.mul_le_mul hS8 hS8) (by omega)))
      obtain ⟨dl, HDL⟩ := named Dk.length
      rw [HDL.out] at x3 HDV hdl63 HKK HNX
      obtain ⟨H, HH⟩ := named (hsB ((j : Int) + 1) (kv : Nat) ml mce me dl Sk.length)
      rw [HH.out] at HKK
      have HHS : Hid (∀ (v : Option Addr) (W2 : World), Calls Tryz.prog 135 #[.agg #[.int .i64 n, .slice a l.length cap, .slice ba bs.length bc, .slice ca C.length cc, .int .i64 ((j : Int) + 1), .int .i64 (kv : Nat)], .agg #[.int .i64 ml, .int .i64 mce, .int .i64 me, .slice da dl dc], .slice v Sk.length Sk.length] W2 fun e w' => e = .returned (.bool H) ∧ Below W2.heap.size W2 w') := fun v W2 => by
       have := HHS.out v W2
       rw [HDL.out, HH.out] at this
       exact this
      have hsz2 : ((wr.alloc (.cells #[.int .i64 n, .slice a l.length cap, .slice ba bs.length bc, .slice ca C.length cc, .int .i64 ((j : Int) + 1), .int .i64 (kv : Nat)] 118)).alloc (.cells #[.int .i64 ml, .int .i64 mce, .int .i64 me, .slice da dl dc] 40)).heap.size = wr.heap.size + 2 := by simp
      have hbP : Below wr.heap.size wr (wr.alloc (.cells #[.int .i64 n, .slice a l.length cap, .slice ba bs.length bc, .slice ca C.length cc, .int .i64 ((j : Int) + 1), .int .i64 (kv : Nat)] 118)) := (Below.refl _ _).alloc (Nat.le_refl _) _
      have hmbz : mb < wr.heap.size := by rw [hp] at hmbl; omega
      have x0 := (hbP.cell (p := ⟨mb, mo + k * 4, none⟩) hmbz).trans x0
      have x1 := (hbP.cell (p := ⟨mb, mo + k * 4 + 1, none⟩) hmbz).trans x1
      have x2 := (hbP.cell (p := ⟨mb, mo + k * 4 + 2, none⟩) hmbz).trans x2
      have x3 := (hbP.cell (p := ⟨mb, mo + k * 4 + 3, none⟩) hmbz).trans x3
      clear hbP
      obtain ⟨hA1, hA2, hbA, _⟩ := top2 wr (.cells #[.int .i64 n, .slice a l.length cap, .slice ba bs.length bc, .slice ca C.length cc, .int .i64 ((j : Int) + 1), .int .i64 (kv : Nat)] 118) (.cells #[.int .i64 ml, .int .i64 mce, .int .i64 me, .slice da dl dc] 40)
      have HBA := Lib.hid hbA
      have HA1 := Lib.hid hA1
      have HA2 := Lib.hid hA2
      have HBD2 := Lib.hid (HBDc.out _ (HBW.out.trans (hbA.mono (by omega))))
      obtain ⟨t0, t1, t2, t3, t4, t5⟩ := six_cells hA1
      obtain ⟨s0, s1, s2, s3⟩ := fourU_cells hA2
      clear hbA hA1 hA2 HBDc
      go_wp2_with fail
      generalize hWz : ((wr.alloc (.cells #[.int .i64 n, .slice a l.length cap, .slice ba bs.length bc, .slice ca C.length cc, .int .i64 ((j : Int) + 1), .int .i64 (kv : Nat)] 118)).alloc (.cells #[.int .i64 ml, .int .i64 mce, .int .i64 me, .slice da dl dc] 40)) = W2 at *
      clear hWz
      refine HBD2.out.mono ?_
      rintro e w5 ⟨v5, rfl, hrow, hb5⟩
      have HRW := Lib.hid hrow
      have HY1 := Lib.hid ((hb5.block _ (by omega)).trans HA1.out)
      have HY2 := Lib.hid ((hb5.block _ (by omega)).trans HA2.out)
      have HB5 : Hid (Below wr.heap.size wr w5) := HBA.out.trans (hb5.mono (by omega))
      have hz5 := hb5.size
      clear hrow hb5 HBD2 HA1 HA2 HBA t0 t1 t2 t3 t4 t5 s0 s1 s2 s3 y0 y1 y2 y3 y4 y5 x0 x1 x2 x3
      obtain ⟨t0, t1, t2, t3, t4, t5⟩ := six_cells HY1.out
      obtain ⟨s0, s1, s2, s3⟩ := fourU_cells HY2.out
      go_wp2_with fail
      refine (HHS.out v5 w5).mono ?_
      rintro e w6 ⟨rfl, hb6⟩
      have HB6 : Hid (Below wr.heap.size wr w6) := HB5.out.trans (hb6.mono (by omega))
      have HY3 := Lib.hid ((hb6.block _ (by omega)).trans HY2.out)
      have HRW6 := Lib.hid (HRW.out.on hb6)
      have HX6 := Lib.hid ((HB6.out.block (p + 1) (by omega)).trans HX1.out)
      have HBW6 : Hid (Below p w w6) := HBW.out.trans (HB6.out.mono (by omega))
      have hz6 := hb6.size
      clear hb6 HY1 HY2 HRW t0 t1 t2 t3 t4 t5 s0 s1 s2 s3 HHS
      obtain ⟨s0, s1, s2, s3⟩ := fourU_cells HY3.out
      rcases H with _ | _
      ·have eU : U = 130 := HU1.out HMK.out k hlk (by rw [HKK.out]; rfl)
       have hne : U ≠ 0 := by rw [eU]; decide
       subst eU
       obtain ⟨r4, HBZ⟩ := HZ4.out w6 HX6.out HBW6.out
       have HRZ := Lib.hid (HR4.out _ r4).1
       have HBZ := Lib.hid HBZ
       obtain ⟨⟨d0, d1, d2, d3⟩, f0, f1, f2, f3⟩ := HR4.out w6 HX6.out
       clear r4
       go_wp2_with fail
       obtain ⟨r0, r1, r2, r3⟩ := HRZ.out
       refine bodyPost_ret (v := .tuple #[.agg #[.int .i64 0, .int .i64 0, .int .i64 0, .slice none 0 0], .int .i64 130]) (by simp [results, Tryz.results69, go_sem, r0, r1, r2, r3]) rfl ?_
       exact ⟨fun h => absurd h hne, fun _ => rfl, HBZ.out⟩

      ·by_cases hep : ep < me
       ·have eU : U = 130 := HU1.out HMK.out k hlk (by rw [HKK.out, decide_eq_false (by omega)]; rfl)
        have hne : U ≠ 0 := by rw [eU]; decide
        subst eU
        obtain ⟨r4, HBZ⟩ := HZ4.out w6 HX6.out HBW6.out
        have HRZ := Lib.hid (HR4.out _ r4).1
        have HBZ := Lib.hid HBZ
        obtain ⟨⟨d0, d1, d2, d3⟩, f0, f1, f2, f3⟩ := HR4.out w6 HX6.out
        clear r4
        go_wp2_with fail
        obtain ⟨r0, r1, r2, r3⟩ := HRZ.out
        refine bodyPost_ret (v := .tuple #[.agg #[.int .i64 0, .int .i64 0, .int .i64 0, .slice none 0 0], .int .i64 130]) (by simp [results, Tryz.results69, go_sem, r0, r1, r2, r3]) rfl ?_
        exact ⟨fun h => absurd h hne, fun _ => rfl, HBZ.out⟩

       ·have hep' : decide (ep < me) = false := decide_eq_false hep
        have HAL2 : Hid (∀ i, i < k + 1 → kidB n l bs (csl C) ((j : Int) + 1) ep K M i = true) := fun i hi => by
         by_cases h : i < k
         ·exact HAL.out i h
         ·have e : i = k := by omega
          rw [e, HKK.out, decide_eq_true (by omega)]
          rfl
        have HDL2 : Hid (dl = Sk.length * Sk.length) := by
         show dl = Sk.length * Sk.length
         have h := HH.out
         unfold hsB mbB at h
         simp only [Bool.and_eq_true, decide_eq_true_eq] at h
         exact h.2.2.2
        have HAM : Hid (Calls Tryz.prog 136 #[.slice (some ⟨g, 0, none⟩) n n, .slice v5 Sk.length Sk.length, .slice da dl dc] w6 fun e w' => e = .returned (.tuple #[]) ∧ (∃ rv, Rds w' g g n rv (upR SS DD (k + 1))) ∧ Below g w6 w') := by
         obtain ⟨rv, hR1⟩ := HRD.out
         by_cases hd0 : dl = 0
         ·have hnx := HNX.out
          rw [hd0] at hnx ⊢
          refine (radm0_any g n v5 Sk.length Sk.length da dc w6).mono ?_
          rintro e w' ⟨rfl, rfl⟩
          exact ⟨rfl, ⟨rv, by rw [hnx]; exact hR1.on HB6.out⟩, Below.refl _ _⟩
         ·have hS0 : 0 < Sk.length := Nat.pos_of_ne_zero (fun e => hd0 (by rw [HDL2.out, e]))
          obtain ⟨ib, hv5, hib, hibc⟩ := rowI_cells HRW6.out hS0
          obtain ⟨db, dq, hdb⟩ := HDT.out.get
          obtain ⟨hda, hdbl, hdat⟩ := hdb (by rw [HDL.out]; omega)
          rw [hv5, hda]
          have h := radm_any g g n rv (upR SS DD k) Sk ib Sk.length Dk db dq dc w6 (hR1.on HB6.out) (by omega) HSK.out hS8 (by rw [HDL.out]; exact HDL2.out) (fun i hi => HDV.out i (by rw [← HDL.out]; exact hi)) (by
           have h1 := upR_len (S := SS) (D := DD) k (fun i hi => by
            have h2 := HAL.out i hi
            rw [HKB.out] at h2
            unfold hsB mbB at h2
            simp only [Bool.and_eq_true, decide_eq_true_eq] at h2
            have h3 := (HSF.out i (by omega)).1
            rw [h2.1.2.2.2]
            exact Nat.mul_le_mul h3 h3)
           omega) (fun hb => by have := (hR1.rb hb).2; omega) (fun hb => by have := (hR1.rb hb).1; rw [hp] at hdbl; omega) hibc (fun i hi => (HBW6.out.cell (p := ⟨db, dq + i, none⟩) (hp ▸ hdbl)).trans (hdat i hi))
          rw [HDL.out] at h
          refine h.mono ?_
          rintro e w' ⟨rfl, rv', h1, h2⟩
          exact ⟨rfl, ⟨rv', by rw [HNX.out]; exact h1⟩, (hR1.on HB6.out).below h2 (by omega)⟩
        go_wp2_with fail
        refine HAM.out.mono ?_
        rintro e w7 ⟨rfl, hRD7, hb7⟩
        have HRD7 := Lib.hid hRD7
        have HB7 : Hid (Below g w3 w7) := HBR.out.trans ((HB6.out.mono hwz).trans hb7)
        clear hRD7 hb7 HAM s0 s1 s2 s3
        go_wp2_with fail
        exact ⟨⟨k + 1, hlk, by simp, HRD7, HB7, HAL2⟩, by simp [intOf]; omega⟩
     ·have hlk' : ¬ (k : Int) < K.length := by omega
      have ek : k = K.length := by omega
      rw [ek] at HRD HAL
      have eU : U = 0 := HU0.out HMK.out HAL.out
      clear ek
      have hws3 : p + 2 ≤ wr.heap.size := by omega
      have HWE : Hid (Calls Tryz.prog 138 #[.agg #[.int .i64 n, .slice a l.length cap], .slice v1 m m, .slice wa m wk] wr fun e w' => ∃ g, e = .returned (.slice (some ⟨g, 0, none⟩) m m) ∧ wr.heap.size ≤ g ∧ g < w'.heap.size ∧ Arcs w' (some ⟨g, 0, none⟩) (wgL l ids ws) ∧ Below wr.heap.size wr w') := weighed_any n a l cap v1 ids m wa ws wk m wr hl8 HM.out HLW.out h8 (fun i hi => HID2.out i (by rw [HM.out]; exact hi)) (HRA.out.on (hp ▸ HBW.out)) (HI3.out.on (hg ▸ HBR.out)) (HWT.out.on (hp ▸ HBW.out))
      have hWG : WG n (wgL l ids ws) := wg_ok HC0.out HID2.out (by rw [HM.out]; exact h8) (fun i hi => HWS.out i (by rw [HLW.out, ← HM.out]; exact hi))
      have hrg := hWG.rg
      have HARC : Hid (∀ x ∈ wgL l ids ws, x.f = (x.f.toNat : Nat) ∧ x.f.toNat < n ∧ 0 ≤ x.t ∧ x.t.toNat < n ∧ 0 ≤ x.w ∧ x.w < 4294967296) := fun x hx => by
       have h1 := hrg.ends (toN x) (List.mem_map.2 ⟨x, hx, rfl⟩)
       have h2 := hWG.2 x hx
       have g1 : (0 ≤ x.f ∧ x.f < n) ∧ (0 ≤ x.t ∧ x.t < n) := h1
       exact ⟨by omega, by omega, by omega, by omega, h2.1, h2.2⟩
      have HWL : Hid ((wgL l ids ws).length = m) := by show _ = _; rw [wgL_len, HM.out]
      have HOKR : Hid (RdOk n R) := by
       show RdOk n R
       rw [HUL.out]
       refine adA_ok _ _ (upR_ok _ (fun i hi => ⟨(HSF.out i hi).2, ?_, fun k hk => ?_⟩)) (fun x hx => ?_)
       ·have h2 := HAL.out i hi
        rw [HKB.out] at h2
        unfold hsB mbB at h2
        simp only [Bool.and_eq_true, decide_eq_true_eq] at h2
        exact h2.1.2.2.2
       ·have h3 := (HMM.out.2 i (by rw [HMK.out]; exact hi)).2.2
        rw [HDI.out] at h3
        exact h3 k hk
       ·obtain ⟨a1, a2, a3, a4, a5, a6⟩ := HARC.out x hx
        exact ⟨a1, a2, a3, a4, a5, by unfold N5.Inf; omega⟩
      have hUl : (upR SS DD K.length).length ≤ 1073741824 := by
       have h1 := upR_len (S := SS) (D := DD) K.length (fun i hi => by
        have h2 := HAL.out i hi
        rw [HKB.out] at h2
        unfold hsB mbB at h2
        simp only [Bool.and_eq_true, decide_eq_true_eq] at h2
        have h3 := (HSF.out i hi).1
        rw [h2.1.2.2.2]
        exact Nat.mul_le_mul h3 h3)
       omega
      have HRLn : Hid (R.length ≤ 1099511627776) := by
       have h1 := adA_len (wgL l ids ws) (upR SS DD K.length)
       rw [← HUL.out, HWL.out] at h1
       show R.length ≤ 1099511627776
       omega
      have HAA : Hid (∀ (ag : Nat) (W2 : World), Below wr.heap.size wr W2 → wr.heap.size ≤ ag → Arcs W2 (some ⟨ag, 0, none⟩) (wgL l ids ws) → Calls Tryz.prog 137 #[.slice (some ⟨g, 0, none⟩) n n, .slice (some ⟨ag, 0, none⟩) m m] W2 fun e w' => e = .returned (.tuple #[]) ∧ (∃ rv, Rds w' g g n rv R) ∧ Below g W2 w') := fun ag W2 hb hag har => by
       obtain ⟨rv, hR1⟩ := HRD.out
       have hz := hb.size
       have h := rada_any g g n rv (upR SS DD K.length) (wgL l ids ws) ag m W2 (hR1.on hb) (by omega) (by rw [HWL.out]; exact h8) (fun k hk => by
        have hm : (wgL l ids ws).getD k A.zero ∈ wgL l ids ws := by
         rw [List.getD_eq_getElem?_getD, List.getElem?_eq_getElem hk]
         exact List.getElem_mem hk
        obtain ⟨a1, a2, a3, a4, a5, a6⟩ := HARC.out _ hm
        exact ⟨by omega, a2, a5, a6⟩) (by omega) (fun hb2 => by have := (hR1.rb hb2).2; omega) har
       rw [HWL.out, ← HUL.out] at h
       refine h.mono ?_
       rintro e w' ⟨rfl, rv', h1, h2⟩
       exact ⟨rfl, ⟨rv', h1⟩, (hR1.on hb).below h2 (by omega)⟩
      have hS8 : (bdV n l bs (csl C) ((j : Int) + 2) (q : Int)).length ≤ 1024 := bd_len
      obtain ⟨S, HS⟩ := named (bdV n l bs (csl C) ((j : Int) + 2) (q : Int))
      rw [HS.out] at HSN hS8
      have HMX : Hid (∀ (W2 : World), Below p w W2 → (∃ rv, Rds W2 g g n rv R) → Calls Tryz.prog 139 #[.agg #[.int .i64 n, .slice a l.length cap, .slice ba bs.length bc, .slice ca C.length cc, .int .i64 ((j : Int) + 2), .int .i64 (q : Nat)], .int .i64 ep, .func (.func 140) #[.slice (some ⟨g, 0, none⟩) n n] #[]] W2 fun e w' => ∃ v c, e = .returned (.tuple #[.agg #[.int .i64 ((j : Int) + 2), .int .i64 (q : Nat), .int .i64 ep, .slice v (mxL R S).length c], .int .i64 0]) ∧ w'.ownsRow W2.heap.size 48 1 (.slice v (mxL R S).length c) (mxL R S).length (cellsU (mxL R S)) ∧ (∀ i, i < S.length → N5.IsD (R.map toN) (fun _ => true) (S.getD i 0) (dF R (S.getD i 0))) ∧ Below W2.heap.size W2 w') := fun W2 hb hrd => by
       obtain ⟨rv, hR1⟩ := hrd
       exact matrixR_any n a l cap ba bs bc ca C cc ((j : Int) + 2) (q : Nat) ep g rv R S W2 HIN.out HS.out HSN.out hS8 hl hbl (HRA.out.on (hp ▸ hb)) (HRI.out.on (hp ▸ hb)) (HRR.out.on (hp ▸ hb)) hR1.rdr (fun b hb2 => (hR1.rb hb2).2) hn8 HOKR.out HRLn.out
      obtain ⟨X, HX⟩ := named (mxL R S)
      rw [HX.out] at HMX
      have hmf : ∀ (fn : Fn) (first cap : Array Value) (w : World), (Instr.makeFunc fn first cap).run Tryz.prog w = .ok (.func fn first cap) w := fun _ _ _ _ => rfl
      obtain ⟨c0, c1, c2, c3, c4, c5⟩ := six_cells HX0.out
      clear hrg hWG HARC hUl HUL
      go_wp2_with fail
      refine HWE.out.mono ?_
      rintro e w4 ⟨ag, rfl, hag, hagl, har, hb4⟩
      have HC4 := Lib.hid (HAA.out ag w4 hb4 hag har)
      have HB4 : Hid (Below g w3 w4) := HBR.out.trans (hb4.mono hwz)
      have hz4 := hb4.size
      clear har hb4 HWE HAA c0 c1 c2 c3 c4 c5
      go_wp2_with fail
      refine HC4.out.mono ?_
      rintro e w5 ⟨rfl, hrd5, hb5⟩
      have HB5g : Hid (Below g w3 w5) := HB4.out.trans hb5
      have HBW5 : Hid (Below p w w5) := HB3.out.trans (HB5g.out.mono (by omega))
      have HM5 := Lib.hid (HMX.out w5 HBW5.out hrd5)
      have HX5 := Lib.hid ((HB5g.out.block p (by omega)).trans HL0.out)
      have HX6 := Lib.hid ((HB5g.out.block (p + 1) (by omega)).trans HL1.out)
      have hz5 : p + 2 ≤ w5.heap.size := by have := HB5g.out.size; omega
      clear hrd5 hb5 HC4 HMX HRD HBR
      obtain ⟨c0, c1, c2, c3, c4, c5⟩ := six_cells HX5.out
      go_wp2_with fail
      refine HM5.out.mono ?_
      rintro e w6 ⟨v, c, rfl, hown, hD, hb6⟩
      have hK6 := (hb6.block (p + 1) (by omega)).trans HX6.out
      obtain ⟨⟨d0, d1, d2, d3⟩, f0, f1, f2, f3⟩ := HR4.out w6 hK6
      have HR5 := Lib.hid (four_cells (set4 hK6 (.int .i64 ((j : Int) + 2)) (.int .i64 (q : Nat)) (.int .i64 ep) (.slice v X.length c))).1
      have HO5 := Lib.hid (own_base (own_set4 hown (show p + 1 < w5.heap.size by omega) (.int .i64 ((j : Int) + 2)) (.int .i64 (q : Nat)) (.int .i64 ep) (.slice v X.length c)) (show p ≤ w5.heap.size by omega))
      have HB6 := Lib.hid (below_set4 (HBW5.out.trans (hb6.mono (by omega))) (show p ≤ p + 1 by omega) (.int .i64 ((j : Int) + 2)) (.int .i64 (q : Nat)) (.int .i64 ep) (.slice v X.length c))
      have HD6 := Lib.hid hD
      clear hK6 hown hD hb6 HM5 c0 c1 c2 c3 c4 c5
      go_wp2_with fail
      obtain ⟨r0, r1, r2, r3⟩ := HR5.out
      rw [HS.out, HX.out]
      refine bodyPost_ret (v := .tuple #[.agg #[.int .i64 ((j : Int) + 2), .int .i64 (q : Nat), .int .i64 ep, .slice v X.length c], .int .i64 0]) (by simp [results, Tryz.results69, go_sem, r0, r1, r2, r3]) rfl ?_
      exact ⟨fun _ => ⟨v, c, rfl, HO5.out, HD6.out⟩, fun h => absurd eU h, HB6.out⟩
   ·have e4 : ((M.length : Int) != (K.length : Int)) = true := by simp; omega
    have eU := HU2.out hMK
    have hne : U ≠ 0 := by rw [eU]; decide
    subst eU
    obtain ⟨r4, HBZ⟩ := HZ4.out w3 HL1.out HB3.out
    have HRZ := Lib.hid (HR4.out _ r4).1
    have HBZ := Lib.hid HBZ
    obtain ⟨⟨d0, d1, d2, d3⟩, f0, f1, f2, f3⟩ := HR4.out w3 HL1.out
    clear r4
    go_wp2_with fail
    obtain ⟨r0, r1, r2, r3⟩ := HRZ.out
    refine bodyPost_ret (v := .tuple #[.agg #[.int .i64 0, .int .i64 0, .int .i64 0, .slice none 0 0], .int .i64 130]) (by simp [results, Tryz.results69, go_sem, r0, r1, r2, r3]) rfl ?_
    exact ⟨fun h => absurd h hne, fun _ => rfl, HBZ.out⟩

  ·have e2 : (J != 0) = true := by simpa using h2
   have eU : U = J := by rw [HUE.out, if_pos h2]
   rw [← eU] at h2 e2 ⊢
   subst eU
   obtain ⟨r4, HBZ⟩ := HZ4.out w2 HK1.out HB1.out
   have HRZ := Lib.hid (HR4.out _ r4).1
   have HBZ := Lib.hid HBZ
   obtain ⟨⟨d0, d1, d2, d3⟩, f0, f1, f2, f3⟩ := HR4.out w2 HK1.out
   clear r4
   go_wp2_with fail
   obtain ⟨r0, r1, r2, r3⟩ := HRZ.out
   refine bodyPost_ret (v := .tuple #[.agg #[.int .i64 0, .int .i64 0, .int .i64 0, .slice none 0 0], .int .i64 U]) (by simp [results, Tryz.results69, go_sem, r0, r1, r2, r3]) rfl ?_
   exact ⟨fun h => absurd h h2, fun _ => rfl, HBZ.out⟩

 ·have e1 : (E != 0) = true := by simpa using h1
  obtain rfl : U = E := by rw [HUE.out, if_pos h1]
  obtain ⟨r4, HBZ⟩ := HZ4.out w1 HK1.out HB1.out
  have HRZ := Lib.hid (HR4.out _ r4).1
  have HBZ := Lib.hid HBZ
  obtain ⟨⟨d0, d1, d2, d3⟩, f0, f1, f2, f3⟩ := HR4.out w1 HK1.out
  clear r4
  go_wp2_with fail
  obtain ⟨r0, r1, r2, r3⟩ := HRZ.out
  refine bodyPost_ret (v := .tuple #[.agg #[.int .i64 0, .int .i64 0, .int .i64 0, .slice none 0 0], .int .i64 U]) (by simp [results, Tryz.results69, go_sem, r0, r1, r2, r3]) rfl ?_
  exact ⟨fun h => absurd h h1, fun _ => rfl, HBZ.out⟩
set_option maxHeartbeats 800000 in
theorem rcheck_any (N : Int) (a : Option Addr) (l : List A) (cap : Nat) (w : World) (hl : l.length ≤ 9223372036854775807) (hr : Arcs w a l) :
  Calls Tryz.prog 67 #[.agg #[.int .i64 N, .slice a l.length cap]] w fun e w' => e = .returned (.tuple #[.int .i64 (chkAt N l), .int .i64 (chkE N l)]) ∧ Below w.heap.size w w' := by
 by_cases h1 : N < 1
 ·rw [(chk_range (l := l) (Or.inl h1)).1, (chk_range (l := l) (Or.inl h1)).2]
  go_enter Tryz.func67, Tryz.ntmps67
  go_wp2_with fail
  go_ret2
  exact ⟨rfl, (Below.refl _ _).alloc (Nat.le_refl _) _⟩
 by_cases h2 : 1024 < N
 ·rw [(chk_range (l := l) (Or.inr h2)).1, (chk_range (l := l) (Or.inr h2)).2]
  go_enter Tryz.func67, Tryz.ntmps67
  go_wp2_with fail
  go_ret2
  exact ⟨rfl, (Below.refl _ _).alloc (Nat.le_refl _) _⟩
 have hN : ¬ (N < 1 ∨ 1024 < N) := by omega
 by_cases h3 : 8192 < l.length
 ·have h3' : (8192 : Int) < l.length := by omega
  rw [(chk_long hN h3).1, (chk_long hN h3).2]
  clear hN
  go_enter Tryz.func67, Tryz.ntmps67
  go_wp2_with fail
  go_ret2
  exact ⟨rfl, (Below.refl _ _).alloc (Nat.le_refl _) _⟩
 have h3' : ¬ (8192 : Int) < l.length := by omega
 have HN := Lib.hid hN
 clear hN
 obtain ⟨E, HE⟩ := named (chkE N l)
 obtain ⟨T, HAT⟩ := named (chkAt N l)
 rw [HE.out, HAT.out]
 have hb0 : Below w.heap.size w (w.alloc (.cells #[.int .i64 N, .slice a l.length cap] 24)) := (Below.refl _ _).alloc (Nat.le_refl _) _
 obtain ⟨b, o, hab⟩ := hr.b.get
 go_enter Tryz.func67, Tryz.ntmps67
 go_wp2_with fail
 go_loopw [4] (fun i wr => ∃ k : Nat, k ≤ l.length ∧ i = .int .i64 k ∧ Hid ((l.take k).all (okA N) = true) ∧ wr.heap[w.heap.size]? = some (.cells #[.int .i64 N, .slice a l.length cap] 24) ∧ Below w.heap.size w wr) (fun i _ => l.length - (intOf i).toNat)
 case atStart => exact ⟨0, Nat.zero_le _, rfl, by show _ = _; simp, heap_top w _, hb0⟩
 case round =>
  obtain ⟨k, hk, rfl, hall, hg, hb⟩ := hrel
  obtain ⟨⟨g0, g1⟩, gf0, gf1⟩ := two_cells hg
  have hsz : w.heap.size < wr.heap.size := lt_of_block hg
  by_cases hlt : k < l.length
  ·obtain ⟨rfl, hbl, hat⟩ := hab (by omega)
   obtain ⟨c0, c1, c2⟩ := (hat k hlt).onB hbl hb
   have HT := Lib.hid (fun (h : okA N (l.getD k A.zero) = true) => all_take hlt hall.out h)
   have HF := Lib.hid (fun (h : okA N (l.getD k A.zero) = false) => chk_bad HN.out h3 (find_at hlt hall.out h))
   generalize l.getD k A.zero = x at *
   have b3 : Below w.heap.size w (wr.alloc (.cells #[.int .i64 x.f, .int .i64 x.t, .int .u32 x.w] 109)) := hb.alloc (by omega) _
   have hg3 := (Below.heap_alloc wr (.cells #[.int .i64 x.f, .int .i64 x.t, .int .u32 x.w] 109) _ hsz).trans hg
   by_cases q1 : 0 ≤ x.f
   ·by_cases q2 : x.f < N
    ·by_cases q3 : 0 ≤ x.t
     ·by_cases q4 : x.t < N
      ·have hA : okA N x = true := by simp [okA, okV, q1, q2, q3, q4]
       go_wp2_with fail
       exact ⟨⟨k + 1, by omega, by go_num, HT.out hA, hg3, b3⟩, by simp [intOf]; omega⟩
      ·have hE := HF.out (by simp [okA, okV, q4])
       rw [HE.out, HAT.out] at hE
       obtain ⟨rfl, rfl⟩ := hE
       go_wp2_with fail
       go_ret2
       exact ⟨rfl, b3⟩
     ·have hE := HF.out (by simp [okA, okV, q3])
      rw [HE.out, HAT.out] at hE
      obtain ⟨rfl, rfl⟩ := hE
      go_wp2_with fail
      go_ret2
      exact ⟨rfl, b3⟩
    ·have hE := HF.out (by simp [okA, okV, q2])
     rw [HE.out, HAT.out] at hE
     obtain ⟨rfl, rfl⟩ := hE
     go_wp2_with fail
     go_ret2
     exact ⟨rfl, b3⟩
   ·have hE := HF.out (by simp [okA, okV, q1])
    rw [HE.out, HAT.out] at hE
    obtain ⟨rfl, rfl⟩ := hE
    go_wp2_with fail
    go_ret2
    exact ⟨rfl, b3⟩
  ·have hE := chk_ok HN.out h3 (by have := hall.out; rw [List.take_of_length_le (by omega)] at this; exact this)
   rw [HE.out, HAT.out] at hE
   obtain ⟨rfl, rfl⟩ := hE
   go_wp2_with fail
   go_ret2
   exact ⟨rfl, hb⟩
def lgB (N : Int) (l : List A) : Bool := decide (chkE N l = 0) && (decide (40 < N) || decide (200 < l.length))
theorem RowI.set {w : World} {B d : Nat} {v : Option Addr} {xs : List Int} (h : RowI w B v xs) (hd : d < B) (k : Nat) (u : Value) : RowI (w.setCell ⟨d, k, none⟩ u) B v xs := by
 rcases h with h | ⟨g, cur, h1, h2, h3, h4⟩
 ·exact Or.inl h
 ·exact Or.inr ⟨g, cur, h1, h2, (Below.heap_setCell w ⟨d, k, none⟩ u g (by show g ≠ d; omega)).trans h3, h4⟩
end Go.Proofs.YtaafkpojjdjphaaGreat
