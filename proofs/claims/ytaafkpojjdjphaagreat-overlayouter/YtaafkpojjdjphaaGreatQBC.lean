import Derived.Test.YtaafkpojjdjphaaGreatQAW
open Go.Lib (hid)
set_option maxRecDepth 100000
namespace Go.Proofs.YtaafkpojjdjphaaGreat
open Go.RowKit
theorem nst_le {N : Int} {l : List A} {bs : List Int} {cs : List (List Int)} (h : NR N l bs cs) {j u v : Nat} (hu : (u : Int) < N) (hv : (v : Int) < N) (e : (lvl cs j).getD u 0 = (lvl cs j).getD v 0) : ∀ d, j + d < bs.length → (lvl cs (j + d)).getD u 0 = (lvl cs (j + d)).getD v 0
 | 0, _ => e
 | d + 1, hd => by
   have ih := nst_le h hu hv e d (by omega)
   have hn := h.nst (k := j + d) (by omega)
   have hl := (h.lv (k := j + d) (by omega)).1
   exact hn u (by omega) v (by omega) ih
theorem prt_low {n : Nat} {l : List A} {bs : List Int} {cs : List (List Int)} (h : NR n l bs cs) {i j m : Nat} (hi : i < l.length) (hjm : j ≤ m) (hm : m < bs.length) (hp : prt (lvl cs m) (l.getD i A.zero) = true) : prt (lvl cs j) (l.getD i A.zero) = true := by
 have hx := (chk_zero h.1).2.2.2 _ (getA_memU hi)
 generalize l.getD i A.zero = x at *
 unfold prt lb at hp ⊢
 refine decide_eq_true (fun e => of_decide_eq_true hp ?_)
 have := nst_le h (j := j) (u := x.f.toNat) (v := x.t.toNat) (by omega) (by omega) e (m - j) (by omega)
 rwa [show j + (m - j) = m by omega] at this
theorem arL_mem {l : List A} {p : A → Bool} {i : Nat} (h : i ∈ arL l p) : i < l.length ∧ p (l.getD i A.zero) = true := by
 unfold arL cho at h
 rw [List.mem_filter, List.mem_range] at h
 exact h
theorem outer_none {n : Nat} {l : List A} {bs : List Int} {cs : List (List Int)} (h : NR n l bs cs) {j : Nat} (hj : j < bs.length) : tcL n (lvl cs j) l (ints (ouV n l bs cs (bs.length : Nat))) = [] := by
 unfold tcL
 rw [cho_congr (q := fun _ => false) (fun c _ => ?_)]
 ·simp [cho]
 ·unfold tcP
  rw [Bool.eq_false_iff]
  intro hany
  rw [List.any_eq_true] at hany
  obtain ⟨x, hx, hb⟩ := hany
  rw [List.take_length] at hx
  unfold ouV at hx
  split at hx
  ·unfold ints at hx
   obtain ⟨i, hi, rfl⟩ := List.mem_map.1 hx
   obtain ⟨hil, hp⟩ := arL_mem hi
   rw [show ((bs.length : Nat) : Int).toNat - 1 = bs.length - 1 by omega] at hp
   have := prt_low h hil (j := j) (by omega) (by omega) hp
   rw [Int.toNat_natCast, this] at hb
   simp at hb
  ·simp [ints] at hx
def cgO (ids : List Nat) (x : Int) : List G3.Cg := ids.map (fun (i : Nat) => (⟨(i : Int), x⟩ : G3.Cg))
theorem cgO_len (ids : List Nat) (x : Int) : (cgO ids x).length = ids.length := by simp [cgO]
theorem cgO_I (ids : List Nat) (x : Int) : cgI (cgO ids x) = ints ids := by
 unfold cgI cgO ints
 rw [List.map_map]
 rfl
theorem ouV_lt {N : Int} {l : List A} {bs : List Int} {cs : List (List Int)} {k : Int} : ∀ i ∈ ouV N l bs cs k, i < l.length := fun i hi => by
 unfold ouV at hi
 split at hi
 ·exact (arL_mem hi).1
 ·cases hi
theorem ouV_len (N : Int) (l : List A) (bs : List Int) (cs : List (List Int)) (k : Int) : (ouV N l bs cs k).length ≤ l.length := by
 unfold ouV
 split
 ·exact cho_len _ _
 ·exact Nat.zero_le _
theorem cgO_zero {N : Int} {l : List A} {bs : List Int} {cs : List (List Int)} {k x : Int} (h : chkE N l = 0) : G3.cgE N l (cgO (ouV N l bs cs k) x) = 0 := by
 have h8 := (chk_zero h).2.2.1
 have hl := ouV_len N l bs cs k
 refine G3.cgE_ok h (by rw [cgO_len]; omega) ?_
 rw [List.all_eq_true]
 intro c hc
 unfold cgO at hc
 obtain ⟨i, hi, rfl⟩ := List.mem_map.1 hc
 have := ouV_lt i hi
 exact decide_eq_true (by show (0 : Int) ≤ (i : Int) ∧ (i : Int) < (l.length : Nat); omega)
theorem renewed_kept (n : Nat) (l : List A) (a : Option Addr) (l' : List A) (cap : Nat) (ba : Option Addr) (bs : List Int) (bc : Nat) (ca : Option Addr) (C : List Cl) (cc : Nat) (oa : Option Addr) (O : List Lw) (oc : Nat) (d : Option Addr) (ids : List Int) (dc : Nat) (ep ep' : Int) (w : World) (hNR : NR n l bs (csl C)) (hs : SmE l l') (hno : ∀ j, j < bs.length → tcL n (lvl (csl C) j) l ids = []) (hk : ∀ k : Nat, (k : Int) ∉ ids → l'.getD k A.zero = l.getD k A.zero) (he : epB ep' = true) (hee : ep ≤ ep') (hO : Ovs w oa O) (hF : RgO n l bs (csl C) ep O) (hdl : ids.length ≤ 16384) (hin : ∀ x ∈ ids, 0 ≤ x ∧ x < (l'.length : Int)) (hd : Ints w d ids) (hwt : ∀ x ∈ l', 0 ≤ x.w ∧ x.w < 4294967296) (hl : l'.length ≤ 9223372036854775807) (hbl : bs.length ≤ 9223372036854775807) (hr : Arcs w a l') (hi : Ints w ba bs) (hR : Rws w ca C) :
  Calls Tryz.prog 44 #[.agg #[.int .i64 n, .slice a l'.length cap], .agg #[.slice ba bs.length bc, .slice ca C.length cc], .slice oa C.length oc, .slice d ids.length dc, .int .i64 ep'] w fun e w' => ∃ (g : Nat) (OA : List Lw) (many : Nat), e = .returned (.tuple #[.slice (some ⟨g, 0, none⟩) C.length C.length, .int .i64 many, .int .i64 0]) ∧ Ovs w' (some ⟨g, 0, none⟩) OA ∧ RgO n l' bs (csl C) ep' OA ∧ (∀ j, j < bs.length → ∀ i, i < (szL (lvl (csl C) j)).length → (mt (lw OA j).M i).ep = (mt (lw O j).M i).ep) ∧ Below w.heap.size w w' := by
 have hNR' := hs.nr hNR
 have hmb : C.length = bs.length := by have := hNR.2.2.2.1; rw [csl_len] at this; exact this
 have hst : stE n l' bs (csl C) ids = 0 := by
  unfold stE
  rw [nsE_zero.2 hNR', if_neg (fun h => h rfl), if_neg (by omega), if_pos]
  rw [List.all_eq_true]
  intro x hx
  exact decide_eq_true (hin x hx)
 refine (renew_ok n a l' cap ba bs bc ca C cc oa O oc d ids dc ep' w hNR' he hO (hF.fit hs hee) (by omega) hd hwt hl hbl hr hi hR).mono ?_
 rintro e w' ⟨h1, _, h3⟩
 obtain ⟨g, rv, R, rfl, hos, hM⟩ := h1 hst
 have hcnt : ∀ j, j < C.length → (szL (lvl (csl C) j)).length ≤ 1024 := fun j hj => by
  obtain ⟨b1, b2, _⟩ := hNR.lv (k := j) (by omega)
  have h1 := szL_length (lvl (csl C) j)
  have := (chk_zero hNR.1).2.1
  omega
 obtain ⟨OA, f1, f2, f3⟩ := hos.ovs (fun j hj => by rw [(hM j hj).len]; exact hcnt j hj)
 have hri := renew_right (O := fun j => (lw O j).M) (R := R) hs hNR hwt hk (fun j hj => hM j (by omega)) (fun j hj i hi => ((hF.2 j hj).2 i hi).2)
 refine ⟨g, OA, _, rfl, f1, ⟨by omega, fun j hj => ?_⟩, fun j hj i hi => ?_, h3⟩
 ·rw [(f3 j (by omega)).1]
  exact ⟨(hM j (by omega)).len, fun i hi => ⟨(hM j (by omega)).mf i hi, hri j hj i hi⟩⟩
 ·rw [(f3 j (by omega)).1]
  refine ((hM j (by omega)).kp i hi ?_).1
  show (smX (szL (lvl (csl C) j)).length (mdF j) (ints (tcL n (lvl (csl C) j) l' ids))).getD i 0 = 0
  rw [hs.tcL, hno j hj]
  unfold smX
  rw [List.getD_eq_getElem?_getD, List.getElem?_map, List.getElem?_range hi]
  simp [ints]
theorem right_same {n : Nat} {l l' : List A} {bs : List Int} {cs : List (List Int)} {ids : List Int} (hNR : NR n l bs cs) (hs : SmE l l') (hno : ∀ j, j < bs.length → tcL n (lvl cs j) l ids = []) (hk : ∀ k : Nat, (k : Int) ∉ ids → l'.getD k A.zero = l.getD k A.zero) {j i : Nat} (hj : j < bs.length) (hi : i < (szL (lvl cs j)).length) : rD n l' bs cs j i = rD n l bs cs j i :=
 hs.keep hNR hj hi (by rw [hno j hj]; simp) hk
set_option maxHeartbeats 3200000 in
theorem sameM_any (m0 m1 m2 : Int) (v v' : Option Addr) (c c' : Nat) (X : List Int) (w : World) (hlen : X.length ≤ 9223372036854775807) (h : Dts w v X) (h' : Dts w v' X) :
  Calls Tryz.prog 22 #[.agg #[.int .i64 m0, .int .i64 m1, .int .i64 m2, .slice v X.length c], .agg #[.int .i64 m0, .int .i64 m1, .int .i64 m2, .slice v' X.length c']] w fun e w' => e = .returned (.bool true) ∧ Below w.heap.size w w' := by
 obtain ⟨hg0, hg1, hb0, hsz⟩ := top2 w (.cells #[.int .i64 m0, .int .i64 m1, .int .i64 m2, .slice v X.length c] 40) (.cells #[.int .i64 m0, .int .i64 m1, .int .i64 m2, .slice v' X.length c'] 40)
 obtain ⟨⟨a0, a1, a2, a3⟩, _⟩ := four_cells hg0
 obtain ⟨⟨b0, b1, b2, b3⟩, _⟩ := four_cells hg1
 have HSD := hid (sameD_any v v' c c' X _ hlen (h.on hb0) (h'.on hb0))
 have HB0 := hid hb0
 have e0 : (m0 == m0) = true := by simp
 have e1 : (m1 == m1) = true := by simp
 have e2 : (m2 == m2) = true := by simp
 clear h h' hb0 hg0 hg1
 generalize hp : w.heap.size = p at *
 go_enter Tryz.func22, Tryz.ntmps22
 go_wp2_with fail
 refine HSD.out.mono ?_
 rintro e w2 ⟨rfl, hb2⟩
 have HB2 : Hid (Below p w w2) := HB0.out.trans (hb2.mono (by omega))
 clear hb2 HSD
 go_wp2_with fail
 go_ret
 exact ⟨rfl, HB2.out⟩
set_option maxHeartbeats 6400000 in
theorem sameMats_any (a a' : Option Addr) (M M' : List Mt) (c c' cn : Nat) (w : World) (hM : M.length = cn) (hM' : M'.length = cn) (hc8 : cn ≤ 1024) (h : Mts w a M) (h' : Mts w a' M') (he : ∀ i, i < cn → (mt M i).lv = (mt M' i).lv ∧ (mt M i).ce = (mt M' i).ce ∧ (mt M i).ep = (mt M' i).ep ∧ (mt M i).D = (mt M' i).D) :
  Calls Tryz.prog 28 #[.slice a cn c, .slice a' cn c'] w fun e w' => e = .returned (.bool true) ∧ Below w.heap.size w w' := by
 obtain ⟨mx, mo, hmx⟩ := h.get
 obtain ⟨nx, no, hnx⟩ := h'.get
 rw [hM] at hmx
 rw [hM'] at hnx
 have HMX := hid hmx
 have HNX := hid hnx
 have HE := hid he
 have HD : Hid (∀ i, i < cn → ∀ W2, Below w.heap.size w W2 → Dts W2 (mt M i).a (mt M i).D ∧ Dts W2 (mt M' i).a (mt M i).D ∧ (mt M i).D.length ≤ 9223372036854775807) := fun i hi W2 hb => by
  refine ⟨(h.2 i (by omega)).1.on hb, ?_, (h.2 i (by omega)).2.1⟩
  rw [(he i hi).2.2.2]
  exact (h'.2 i (by omega)).1.on hb
 have hne : ((cn : Int) != (cn : Int)) = false := by simp
 clear h h' hmx hnx he hM hM'
 generalize hp : w.heap.size = p at *
 go_enter Tryz.func28, Tryz.ntmps28
 go_wp2_with fail
 go_loopw [5] (fun q wr => ∃ (i : Nat), i ≤ cn ∧ q = .int .i64 i ∧ Hid (Below p w wr)) (fun q _ => cn - (intOf q).toNat)
 case atStart => exact ⟨0, Nat.zero_le _, rfl, Below.refl _ _⟩
 case round =>
  obtain ⟨i, hi, rfl, HBR⟩ := hrel
  by_cases hli : i < cn
  ·have hli' : (i : Int) < cn := by omega
   obtain ⟨rfl, hmbl, hmat⟩ := HMX.out (by omega)
   obtain ⟨rfl, hnbl, hnat⟩ := HNX.out (by omega)
   obtain ⟨c0, c1, c2, c3⟩ := hmat i hli
   obtain ⟨d0, d1, d2, d3⟩ := hnat i hli
   obtain ⟨f0, f1, f2, f3⟩ := HE.out i hli
   rw [← f0] at d0
   rw [← f1] at d1
   rw [← f2] at d2
   rw [← f3] at d3
   have u0 := (HBR.out.cell (p := ⟨mx, mo + i * 4, none⟩) (by show mx < p; omega)).trans c0
   have u1 := (HBR.out.cell (p := ⟨mx, mo + i * 4 + 1, none⟩) (by show mx < p; omega)).trans c1
   have u2 := (HBR.out.cell (p := ⟨mx, mo + i * 4 + 2, none⟩) (by show mx < p; omega)).trans c2
   have u3 := (HBR.out.cell (p := ⟨mx, mo + i * 4 + 3, none⟩) (by show mx < p; omega)).trans c3
   have v0 := (HBR.out.cell (p := ⟨nx, no + i * 4, none⟩) (by show nx < p; omega)).trans d0
   have v1 := (HBR.out.cell (p := ⟨nx, no + i * 4 + 1, none⟩) (by show nx < p; omega)).trans d1
   have v2 := (HBR.out.cell (p := ⟨nx, no + i * 4 + 2, none⟩) (by show nx < p; omega)).trans d2
   have v3 := (HBR.out.cell (p := ⟨nx, no + i * 4 + 3, none⟩) (by show nx < p; omega)).trans d3
   have HSC : Hid (∀ W2, Below wr.heap.size wr W2 → Calls Tryz.prog 22 #[.agg #[.int .i64 (mt M i).lv, .int .i64 (mt M i).ce, .int .i64 (mt M i).ep, .slice (mt M i).a (mt M i).D.length (mt M i).c], .agg #[.int .i64 (mt M i).lv, .int .i64 (mt M i).ce, .int .i64 (mt M i).ep, .slice (mt M' i).a (mt M i).D.length (mt M' i).c]] W2 fun e w' => e = .returned (.bool true) ∧ Below wr.heap.size wr w') := fun W2 hb => by
    obtain ⟨g1, g2, g3⟩ := HD.out i hli W2 (HBR.out.trans (hb.mono (by have := HBR.out.size; omega)))
    refine (sameM_any _ _ _ _ _ _ _ _ W2 g3 g1 g2).mono ?_
    rintro e w' ⟨h1, h2⟩
    exact ⟨h1, hb.trans (h2.mono hb.size)⟩
   have hsz := HBR.out.size
   generalize (mt M i).lv = z0 at *
   generalize (mt M i).ce = z1 at *
   generalize (mt M i).ep = z2 at *
   generalize (mt M i).a = za at *
   generalize (mt M i).c = zc at *
   generalize (mt M' i).a = ya at *
   generalize (mt M' i).c = yc at *
   generalize (mt M i).D.length = dl at *
   have HU0 := hid u0
   have HU1 := hid u1
   have HU2 := hid u2
   have HU3 := hid u3
   have HV0 := hid v0
   have HV1 := hid v1
   have HV2 := hid v2
   have HV3 := hid v3
   clear c0 c1 c2 c3 d0 d1 d2 d3 f0 f1 f2 f3 hmat hnat
   go_wp2_with fail
   go_region_law (rw [if_pos (by rfl)]; go_simp; go_at_call 22; refine (HSC.out _ (by first | exact Below.refl _ _ | exact ⟨rfl, rfl, rfl, Nat.le_refl _, fun _ _ => rfl⟩)).mono ?_; rintro e w3 ⟨rfl, hb3⟩; have HB3 : Hid (Below p w w3) := HBR.out.trans (hb3.mono (by omega)); clear hb3)
   all_goals
    go_wp2_with fail
    first | exact ⟨⟨i + 1, by omega, by simp, HB3⟩, by simp [intOf]; omega⟩ | exact ⟨⟨i + 1, by omega, by simp, HB3.out.drew⟩, by simp [intOf]; omega⟩
  ·have hli' : ¬ (i : Int) < cn := by omega
   go_wp2_with fail
   go_ret
   exact ⟨rfl, HBR.out⟩
end Go.Proofs.YtaafkpojjdjphaaGreat
