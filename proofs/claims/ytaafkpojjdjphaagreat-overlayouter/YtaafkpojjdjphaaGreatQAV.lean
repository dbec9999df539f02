import Derived.Test.YtaafkpojjdjphaaGreatQAU
namespace Go.Proofs.YtaafkpojjdjphaaGreat
open Go.RowKit
def stN (n : Nat) (cs : List (List Int)) (l : List A) (ids : List Int) : Nat → Nat
 | 0 => 0
 | k + 1 => stN n cs l ids k + (tcL n (lvl cs k) l ids).length
theorem stN_le (n : Nat) (cs : List (List Int)) (l : List A) (ids : List Int) : ∀ k, stN n cs l ids k ≤ k * n
 | 0 => Nat.zero_le _
 | k + 1 => by
   have h1 := stN_le n cs l ids k
   have h2 : (tcL n (lvl cs k) l ids).length ≤ n := cho_len _ _
   rw [Nat.add_mul, Nat.one_mul]
   show stN n cs l ids k + _ ≤ _
   omega
theorem tc_cell {n : Nat} {l : List A} {L : List Int} {ids : List Int} (ht : tdy L 0 = true) (hL : L.length = n) (hen : ∀ i, i < l.length → (0 ≤ (l.getD i A.zero).f ∧ (l.getD i A.zero).f < n)) (hid : ∀ t, t < ids.length → 0 ≤ ids.getD t 0 ∧ ids.getD t 0 < l.length) {c : Nat} (h : c ∈ tcL n L l ids) : c < (szL L).length := by
 unfold tcL at h
 rw [cho_mem] at h
 have h2 := h.2
 unfold tcP at h2
 rw [List.take_length, List.any_eq_true] at h2
 obtain ⟨i, hi, h3⟩ := h2
 rw [Bool.and_eq_true, decide_eq_true_eq] at h3
 obtain ⟨t, ht2, e⟩ := List.getElem_of_mem hi
 have hb := hid t ht2
 have e2 : ids.getD t 0 = i := by simp [List.getD, List.getElem?_eq_getElem ht2, e]
 rw [e2] at hb
 have hen2 := hen i.toNat (by omega)
 obtain ⟨y, hy, hyl⟩ := right_lt ht (u := ((l.getD i.toNat A.zero).f).toNat) (by omega)
 have h4 := h3.2
 unfold lb at h4
 rw [hy, Int.toNat_natCast] at h4
 omega
set_option maxRecDepth 100000 in
set_option maxHeartbeats 12800000 in
theorem renew_ok (n : Nat) (a : Option Addr) (l : List A) (cap : Nat) (ba : Option Addr) (bs : List Int) (bc : Nat) (ca : Option Addr) (C : List Cl) (cc : Nat) (oa : Option Addr) (O : List Lw) (oc : Nat) (d : Option Addr) (ids : List Int) (dc : Nat) (ep : Int) (w : World) (hNR : NR n l bs (csl C)) (he : epB ep = true) (hO : Ovs w oa O) (hF : OvF n l bs (csl C) ep O) (hdl : ids.length ≤ 9223372036854775807) (hd : Ints w d ids) (hwt : ∀ x ∈ l, 0 ≤ x.w ∧ x.w < 4294967296) (hl : l.length ≤ 9223372036854775807) (hbl : bs.length ≤ 9223372036854775807) (hr : Arcs w a l) (hi : Ints w ba bs) (hR : Rws w ca C) :
  Calls Tryz.prog 44 #[.agg #[.int .i64 n, .slice a l.length cap], .agg #[.slice ba bs.length bc, .slice ca C.length cc], .slice oa C.length oc, .slice d ids.length dc, .int .i64 ep] w fun e w' => (stE n l bs (csl C) ids = 0 → ∃ g rv R, e = .returned (.tuple #[.slice (some ⟨g, 0, none⟩) C.length C.length, .int .i64 (stN n (csl C) l ids C.length : Nat), .int .i64 0]) ∧ OS w' w.heap.size g C.length rv R ∧ ∀ j, j < C.length → Mk n l bs (csl C) ep ((fun j => smX (szL (lvl (csl C) j)).length (mdF j) (ints (tcL n (lvl (csl C) j) l ids))) j) (lw O j).M (R (j - 1)) j (R j) (szL (lvl (csl C) j)).length) ∧ (stE n l bs (csl C) ids ≠ 0 → e = .returned (.tuple #[.slice none 0 0, .int .i64 0, .int .i64 (stE n l bs (csl C) ids)])) ∧ Below w.heap.size w w' := by
 obtain ⟨hg0, hg1, hb0, hsz⟩ := top2 w (.cells #[.int .i64 n, .slice a l.length cap] 24) (.cells #[.slice ba bs.length bc, .slice ca C.length cc] 28)
 obtain ⟨⟨a0, a1⟩, _⟩ := two_cells hg0
 obtain ⟨⟨a2, a3⟩, _⟩ := two_cells hg1
 have hcl : C.length = bs.length := by have := hNR.2.2.2.1; rw [csl_len] at this; exact this
 have h5 : C.length ≤ 5 := by have := hNR.2.2.1; omega
 have h0 : 0 < C.length := by have := hNR.2.1; omega
 have h1024 : n ≤ 1024 := by have := (chk_zero hNR.1).2.1; omega
 have HLT := Lib.hid (late_ok n a l cap ba bs bc ca C cc oa O oc ep _ hNR he (hO.on hb0) hF hl hbl (hr.on hb0) (hi.on hb0) (hR.on hb0))
 have HSL : Hid (∀ W2, Below w.heap.size w W2 → Calls Tryz.prog 52 #[.agg #[.int .i64 n, .slice a l.length cap], .agg #[.slice ba bs.length bc, .slice ca C.length cc], .slice d ids.length dc] W2 fun e w' => (stE n l bs (csl C) ids = 0 → ∃ g vs, e = .returned (.tuple #[.slice (some ⟨g, 0, none⟩) C.length C.length, .int .i64 0]) ∧ Rws w' (some ⟨g, 0, none⟩) (stC n (csl C) l ids vs C.length)) ∧ (stE n l bs (csl C) ids ≠ 0 → e = .returned (.tuple #[.slice none 0 0, .int .i64 (stE n l bs (csl C) ids)])) ∧ Below W2.heap.size W2 w') := fun W2 hb => by
  have h := stale_any n a l cap ba bs bc ca C cc d ids dc W2 hl hbl (hr.on hb) (hi.on hb) (hR.on hb) hdl (hd.on hb)
  rw [Int.toNat_natCast] at h
  exact h
 have HLL : Hid (∀ L : Int, (L = 0 ∨ ∃ j i, j < C.length ∧ i < (lw O j).M.length ∧ (mt (lw O j).M i).ep = L) → ¬ ep < L) := fun L hL => by
  have he2 : 0 ≤ ep ∧ ep ≤ 1073741824 := by simpa [epB] using he
  rcases hL with h | ⟨j, i, hj, hi2, h⟩
  ·omega
  ·obtain ⟨f1, f2⟩ := hF.2 j (by omega)
   have := (f2 i (by omega)).2.2.1
   omega
 have HSM : Hid (stE n l bs (csl C) ids = 0 → ∀ W2, Below w.heap.size w W2 → ∀ g vs, Rws W2 (some ⟨g, 0, none⟩) (stC n (csl C) l ids vs C.length) → Calls Tryz.prog 98 #[.agg #[.slice ba bs.length bc, .slice ca C.length cc], .slice (some ⟨g, 0, none⟩) C.length C.length] W2 fun e w' => ∃ g gs, e = .returned (.slice (some ⟨g, 0, none⟩) C.length C.length) ∧ FT w' (g + 1) g C.length gs (fun j => smX (szL (lvl (csl C) j)).length (mdF j) (ints (tcL n (lvl (csl C) j) l ids))) C.length ∧ Below W2.heap.size W2 w') := fun hst W2 hb g vs hS => by
  have hall : ∀ t, t < ids.length → 0 ≤ ids.getD t 0 ∧ ids.getD t 0 < l.length := fun t ht => by
   unfold stE at hst
   rw [nsE_zero.2 hNR, if_neg (fun h => h rfl)] at hst
   split at hst
   ·cases hst
   ·split at hst
    ·rename_i h
     have := all_at_I h ht
     simpa using this
    ·cases hst
  have hen : ∀ i, i < l.length → (0 ≤ (l.getD i A.zero).f ∧ (l.getD i A.zero).f < n) := fun i hi2 => by
   have h := chk_in hNR.1 hi2
   unfold inA at h
   omega
  have h := someMade_any n l ba bs bc ca C cc (some ⟨g, 0, none⟩) (stC n (csl C) l ids vs C.length) C.length C.length W2 hNR (hR.on hb) rfl (stC_len _ _ _ _ _ _) hS (fun j hj => by
   obtain ⟨b1, b2, _⟩ := hNR.lv (k := j) (by omega)
   rw [stC_at hj]
   refine ⟨by rw [ints_len]; exact Nat.le_trans (cho_len _ _) h1024, fun t ht => ?_⟩
   rw [ints_len] at ht
   refine ⟨(tcL n (lvl (csl C) j) l ids).getD t 0, ints_getD ht, ?_⟩
   exact tc_cell b2 (by omega) hen hall (getS_mem ht))
  refine h.mono ?_
  rintro e w' ⟨g2, gs, h1, h2, h3⟩
  refine ⟨g2, gs, h1, ?_, h3⟩
  refine ⟨h2.tb.congr (fun j hj => by rw [if_pos hj, if_pos hj, stC_at hj]), h2.lt, fun j hj => ?_, h2.up⟩
  have h := h2.ro j hj
  rw [stC_at hj] at h
  exact h
 have HMX : Hid (∀ W2, Below w.heap.size w W2 → ∀ g gs, FT W2 (g + 1) g C.length gs (fun j => smX (szL (lvl (csl C) j)).length (mdF j) (ints (tcL n (lvl (csl C) j) l ids))) C.length → Calls Tryz.prog 96 #[.agg #[.int .i64 n, .slice a l.length cap, .slice ba bs.length bc, .slice ca C.length cc, .int .i64 ep], .slice oa C.length oc, .slice (some ⟨g, 0, none⟩) C.length C.length] W2 fun e w' => ∃ g rv R, e = .returned (.tuple #[.slice (some ⟨g, 0, none⟩) C.length C.length, .int .i64 0]) ∧ OS w' w.heap.size g C.length rv R ∧ (∀ j, j < C.length → Mk n l bs (csl C) ep ((fun j => smX (szL (lvl (csl C) j)).length (mdF j) (ints (tcL n (lvl (csl C) j) l ids))) j) (lw O j).M (R (j - 1)) j (R j) (szL (lvl (csl C) j)).length) ∧ Below W2.heap.size W2 w') := fun W2 hb g gs hFT => by
  have hOl : O.length = C.length := by rw [hF.1]; omega
  have hcnt : ∀ j, j < C.length → (szL (lvl (csl C) j)).length ≤ 1024 := fun j hj => by
   obtain ⟨b1, b2, _⟩ := hNR.lv (k := j) (by omega)
   have h1 := szL_length (lvl (csl C) j)
   omega
  have h := matrices_any n a l cap ba bs bc ca C cc ep oa O oc (some ⟨g, 0, none⟩) (ftC C.length gs (fun j => smX (szL (lvl (csl C) j)).length (mdF j) (ints (tcL n (lvl (csl C) j) l ids)))) C.length C.length W2 hNR he hl hbl (hr.on hb) (hi.on hb) (hR.on hb) hwt rfl (ftC_len _ _ _) (hFT.rws (fun j hj => by rw [smX_len]; exact hcnt j hj)) (fun j hj => by
   rw [ftC_at hj]
   refine ⟨smX_len _ _ _, fun i hi2 => ?_⟩
   rw [smX_at hi2]
   split
   ·exact Or.inr rfl
   ·exact Or.inl rfl) (hO.on hb) (fun j hj i hi2 _ => by
   obtain ⟨f1, f2⟩ := hF.2 j (by omega)
   exact ⟨by omega, by rw [f1]; exact hi2, f2 i hi2⟩)
  rw [hOl] at h
  refine h.mono ?_
  rintro e w' ⟨g2, rv, R, h1, h2, h3, h4⟩
  refine ⟨g2, rv, R, h1, h2.base hb.size, fun j hj => ?_, h4⟩
  have := h3 j hj
  rw [ftC_at hj] at this
  exact this
 have HIE := Lib.hid (fun w => isEpochO_any ep w)
 rw [he] at HIE
 have hsN := stN_le n (csl C) l ids
 have HSN : Hid (∀ k, k ≤ C.length → stN n (csl C) l ids k ≤ 5120) := fun k hk => by
  have h1 := hsN k
  have h2 : k * n ≤ 5 * 1024 := Nat.mul_le_mul (by omega) h1024
  omega
 have HTL : Hid (∀ k, (tcL n (lvl (csl C) k) l ids).length ≤ 1024) := fun k => Nat.le_trans (cho_len _ _) h1024
 have HB0 := Lib.hid hb0
 have HG0 := Lib.hid hg0
 have HG1 := Lib.hid hg1
 obtain ⟨st, HST⟩ := named (stE n l bs (csl C) ids)
 rw [HST.out] at HSL HSM
 rw [HST.out]
 clear hr hi hR hb0 hg0 hg1 hNR hO hF hcl hwt hd he hsN
 generalize hp : w.heap.size = p at *
 go_enter Tryz.func44, Tryz.ntmps44
 go_wp2_with fail
 generalize (w.alloc (.cells #[.int .i64 n, .slice a l.length cap] 24)).alloc (.cells #[.slice ba bs.length bc, .slice ca C.length cc] 28) = W at *
 refine HLT.out.mono ?_
 rintro e w1 ⟨L, rfl, hL0, _, hL2, hb1⟩
 have hz1 := hb1.size
 have hnl := HLL.out L hL2
 have HB1 : Hid (Below p w w1) := HB0.out.trans (hb1.mono (by omega))
 have HK0 := Lib.hid ((hb1.block p (by omega)).trans HG0.out)
 have HK1 := Lib.hid ((hb1.block (p + 1) (by omega)).trans HG1.out)
 clear hb1 HLT HG0 HG1 HB0 a0 a1 a2 a3 hL0 hL2 HLL
 obtain ⟨⟨a0, a1⟩, _⟩ := two_cells HK0.out
 obtain ⟨⟨a2, a3⟩, _⟩ := two_cells HK1.out
 have HSLc := Lib.hid (HSL.out w1 HB1.out)
 go_wp2_with fail
 refine HSLc.out.mono ?_
 rintro e w2 ⟨h1, h2, hb2⟩
 have hz2 := hb2.size
 have HB2 : Hid (Below p w w2) := HB1.out.trans (hb2.mono (by omega))
 have HL0 := Lib.hid ((hb2.block p (by omega)).trans HK0.out)
 have HL1 := Lib.hid ((hb2.block (p + 1) (by omega)).trans HK1.out)
 clear hb2 HSLc HK0 HK1 a0 a1 a2 a3
 by_cases hst : st = 0
 ·obtain ⟨sg, vs, rfl, hrws⟩ := h1 hst
  have HS0 := Lib.hid hst
  have HRWS := Lib.hid hrws
  clear h1 h2 hst hrws
  go_wp2_with fail
  refine (HIE.out w2).mono ?_
  rintro e w3 ⟨rfl, hw3⟩
  obtain rfl := hw3
  obtain ⟨⟨a0, a1⟩, _⟩ := two_cells HL0.out
  obtain ⟨⟨a2, a3⟩, _⟩ := two_cells HL1.out
  have HSMc : Hid (∀ W2, Below w3.heap.size w3 W2 → Calls Tryz.prog 98 #[.agg #[.slice ba bs.length bc, .slice ca C.length cc], .slice (some ⟨sg, 0, none⟩) C.length C.length] W2 fun e w' => ∃ g gs, e = .returned (.slice (some ⟨g, 0, none⟩) C.length C.length) ∧ FT w' (g + 1) g C.length gs (fun j => smX (szL (lvl (csl C) j)).length (mdF j) (ints (tcL n (lvl (csl C) j) l ids))) C.length ∧ Below w3.heap.size w3 w') := fun W2 hb => by
   refine (HSM.out HS0.out W2 (HB2.out.trans (hb.mono (by omega))) sg vs (HRWS.out.on hb)).mono ?_
   rintro e w' ⟨g, gs, h1, h2, h3⟩
   exact ⟨g, gs, h1, h2, hb.trans (h3.mono hb.size)⟩
  have HMXc : Hid (∀ W2, Below w3.heap.size w3 W2 → ∀ g gs, FT W2 (g + 1) g C.length gs (fun j => smX (szL (lvl (csl C) j)).length (mdF j) (ints (tcL n (lvl (csl C) j) l ids))) C.length → Calls Tryz.prog 96 #[.agg #[.int .i64 n, .slice a l.length cap, .slice ba bs.length bc, .slice ca C.length cc, .int .i64 ep], .slice oa C.length oc, .slice (some ⟨g, 0, none⟩) C.length C.length] W2 fun e w' => ∃ g rv R, e = .returned (.tuple #[.slice (some ⟨g, 0, none⟩) C.length C.length, .int .i64 0]) ∧ OS w' p g C.length rv R ∧ (∀ j, j < C.length → Mk n l bs (csl C) ep ((fun j => smX (szL (lvl (csl C) j)).length (mdF j) (ints (tcL n (lvl (csl C) j) l ids))) j) (lw O j).M (R (j - 1)) j (R j) (szL (lvl (csl C) j)).length) ∧ Below w3.heap.size w3 w') := fun W2 hb g gs hFT => by
   refine (HMX.out W2 (HB2.out.trans (hb.mono (by omega))) g gs hFT).mono ?_
   rintro e w' ⟨g, rv, R, h1, h2, h3, h4⟩
   exact ⟨g, rv, R, h1, h2, h3, hb.trans (h4.mono hb.size)⟩
  have HMKT : ∃ PR : (Nat → List Mt) → Prop, Hid (∀ R, PR R ↔ ∀ j, j < C.length → Mk n l bs (csl C) ep ((fun j => smX (szL (lvl (csl C) j)).length (mdF j) (ints (tcL n (lvl (csl C) j) l ids))) j) (lw O j).M (R (j - 1)) j (R j) (szL (lvl (csl C) j)).length) := ⟨_, fun R => Iff.rfl⟩
  obtain ⟨PR, HPR⟩ := HMKT
  have HMXd : Hid (∀ W2, Below w3.heap.size w3 W2 → ∀ g gs, FT W2 (g + 1) g C.length gs (fun j => smX (szL (lvl (csl C) j)).length (mdF j) (ints (tcL n (lvl (csl C) j) l ids))) C.length → Calls Tryz.prog 96 #[.agg #[.int .i64 n, .slice a l.length cap, .slice ba bs.length bc, .slice ca C.length cc, .int .i64 ep], .slice oa C.length oc, .slice (some ⟨g, 0, none⟩) C.length C.length] W2 fun e w' => ∃ g rv R, e = .returned (.tuple #[.slice (some ⟨g, 0, none⟩) C.length C.length, .int .i64 0]) ∧ OS w' p g C.length rv R ∧ PR R ∧ Below w3.heap.size w3 w') := fun W2 hb g gs hFT => by
   refine (HMXc.out W2 hb g gs hFT).mono ?_
   rintro e w' ⟨g, rv, R, h1, h2, h3, h4⟩
   exact ⟨g, rv, R, h1, h2, (HPR.out R).2 h3, h4⟩
  obtain ⟨PF, HPF⟩ : ∃ PF : World → Nat → (Nat → Nat) → Prop, Hid (∀ W g gs, PF W g gs ↔ FT W (g + 1) g C.length gs (fun j => smX (szL (lvl (csl C) j)).length (mdF j) (ints (tcL n (lvl (csl C) j) l ids))) C.length) := ⟨_, fun W g gs => Iff.rfl⟩
  have HA : Hid (∀ W2, Below w3.heap.size w3 W2 → Calls Tryz.prog 98 #[.agg #[.slice ba bs.length bc, .slice ca C.length cc], .slice (some ⟨sg, 0, none⟩) C.length C.length] W2 fun e w' => ∃ g gs, e = .returned (.slice (some ⟨g, 0, none⟩) C.length C.length) ∧ PF w' g gs ∧ Below w3.heap.size w3 w') := fun W2 hb => by
   refine (HSMc.out W2 hb).mono ?_
   rintro e w' ⟨g, gs, h1, h2, h3⟩
   exact ⟨g, gs, h1, (HPF.out _ _ _).2 h2, h3⟩
  have HBc : Hid (∀ W2, Below w3.heap.size w3 W2 → ∀ W1 g gs, PF W1 g gs → Below W1.heap.size W1 W2 → Calls Tryz.prog 96 #[.agg #[.int .i64 n, .slice a l.length cap, .slice ba bs.length bc, .slice ca C.length cc, .int .i64 ep], .slice oa C.length oc, .slice (some ⟨g, 0, none⟩) C.length C.length] W2 fun e w' => ∃ g rv R, e = .returned (.tuple #[.slice (some ⟨g, 0, none⟩) C.length C.length, .int .i64 0]) ∧ OS w' p g C.length rv R ∧ PR R ∧ Below w3.heap.size w3 w') := fun W2 hb W1 g gs hF hb2 => HMXd.out W2 hb g gs (((HPF.out _ _ _).1 hF).on hb2)
  have HSG2 : Hid (sg < w3.heap.size ∧ ∀ k, k < C.length → w3.cell? ⟨sg, k, none⟩ = some (.slice (vs k) (tcL n (lvl (csl C) k) l ids).length (tcL n (lvl (csl C) k) l ids).length)) := by
   rcases HRWS.out.1 with h | ⟨bx, bo, e1, e2, e3⟩
   ·have h2 : (stC n (csl C) l ids vs C.length).length = 0 := by rw [h]; rfl
    rw [stC_len] at h2
    omega
   ·injection e1 with e1
    injection e1 with q1 q2 _
    subst q1
    subst q2
    refine ⟨e2, fun k hk => ?_⟩
    have h := e3 k (by rw [stC_len]; exact hk)
    rw [stC_at hk, Nat.zero_add] at h
    refine h.trans ?_
    show some (Value.slice _ (ints _).length _) = _
    rw [ints_len]
  clear HSM HMX HSMc HMXc HMXd HRWS HST HSL HIE hl hbl hdl HPF
  go_wp2_with fail
  go_cut [10, 12] (fun s10 s12 wc => ∃ (g : Nat) (rv : Nat → Value) (R : Nat → List Mt), s10 = .slice (some ⟨g, 0, none⟩) C.length C.length ∧ s12 = .int .i64 0 ∧ Hid (OS wc p g C.length rv R) ∧ Hid (PR R) ∧ Hid (Below w3.heap.size w3 wc))
  case first =>
   go_region_law (first | (rw [if_pos (by rfl)]; go_simp; go_at_call 98; refine (HA.out _ (by first | exact Below.refl _ _ | exact ⟨rfl, rfl, rfl, Nat.le_refl _, fun _ _ => rfl⟩)).mono ?_; rintro e w4 ⟨g4, gs4, rfl, hft, hb4⟩; have v0 := ((hb4.block p (by omega)).trans HL0.out); have v1 := ((hb4.block (p + 1) (by omega)).trans HL1.out); obtain ⟨⟨b0, b1⟩, _⟩ := two_cells v0; obtain ⟨⟨b2, b3⟩, _⟩ := two_cells v1; have HFT := Lib.hid hft; have HB4 := Lib.hid hb4; clear hft hb4 v0 v1) | (rw [if_pos (by rfl)]; go_simp; go_at_call 96; refine (HBc.out _ (by first | exact HB4.out | exact HB4.out.trans ⟨rfl, rfl, rfl, Nat.le_refl _, fun _ _ => rfl⟩) w4 g4 gs4 HFT.out (by first | exact Below.refl _ _ | exact ⟨rfl, rfl, rfl, Nat.le_refl _, fun _ _ => rfl⟩)).mono ?_; rintro e w5 ⟨g5, rv, R, rfl, hos, hpr, hb5⟩; have HOS := Lib.hid hos; have HPRR := Lib.hid hpr; have HB5 := Lib.hid hb5; clear hos hpr hb5))
   all_goals
    go_wp2_with fail
    go_meet
    case rel => exact ⟨g5, rv, R, rfl, rfl, HOS, HPRR, HB5⟩
  case rest =>
   obtain ⟨g5, rv, R, rfl, rfl, HOS, HPRR, HB5⟩ := hcut
   have HBF : Hid (Below p w wc) := HB2.out.trans (HB5.out.mono (by omega))
   have hz5 := HB5.out.size
   clear HA HBc a0 a1 a2 a3 HL0 HL1
   go_wp2_with fail
   go_loopw [11, 62] (fun s11 q wr => ∃ (k : Nat), k ≤ C.length ∧ s11 = .int .i64 (stN n (csl C) l ids k : Nat) ∧ q = .int .i64 k ∧ wr = wc) (fun _ q _ => C.length - (intOf q).toNat)
   case atStart => exact ⟨0, Nat.zero_le _, rfl, rfl, rfl⟩
   case round =>
    obtain ⟨k, hk, rfl, rfl, rfl⟩ := hrel
    by_cases hlk : k < C.length
    ·have hlk' : (k : Int) < C.length := by omega
     have y0 := (HB5.out.cell (p := ⟨sg, k, none⟩) HSG2.out.1).trans (HSG2.out.2 k hlk)
     obtain ⟨va, HVA⟩ := named (vs k)
     rw [HVA.out] at y0
     have h1 := HSN.out k hk
     have h2 := HTL.out k
     have HSTEP : Hid (stN n (csl C) l ids (k + 1) = stN n (csl C) l ids k + (tcL n (lvl (csl C) k) l ids).length) := rfl
     obtain ⟨s0, HS0'⟩ := named (stN n (csl C) l ids k)
     obtain ⟨tl, HTLL⟩ := named (tcL n (lvl (csl C) k) l ids).length
     rw [HS0'.out] at h1 HSTEP
     rw [HTLL.out] at y0 h2 HSTEP
     rw [HS0'.out]
     have hwr : IntKind.i64.wrap ((s0 : Int) + (tl : Int)) = ((s0 + tl : Nat) : Int) := by rw [IntKind.wrap_i64]; omega
     go_wp2_with fail
     exact ⟨⟨k + 1, by omega, by rw [HSTEP.out]; simp, by simp, by first | rfl | trivial⟩, by simp [intOf]; omega⟩
    ·have hlk' : ¬ (k : Int) < C.length := by omega
     obtain rfl : k = C.length := by omega
     go_wp2_with fail
     go_ret3
     first | exact ⟨fun _ => ⟨g5, rv, R, rfl, HOS.out, (HPR.out R).1 HPRR.out⟩, fun h => absurd HS0.out h, HBF.out⟩ | exact ⟨fun _ => ⟨g5, rfl, ⟨rv, R, HOS.out, (HPR.out R).1 HPRR.out⟩⟩, fun h => absurd HS0.out h, HBF.out⟩
 ·obtain rfl := h2 hst
  have hsb : (st != 0) = true := by simp [hst]
  have HS0 := Lib.hid hst
  clear h1 h2 hst
  go_wp2_with fail
  go_ret3
  exact ⟨fun h => absurd h HS0.out, fun _ => rfl, HB2.out⟩
end Go.Proofs.YtaafkpojjdjphaaGreat
