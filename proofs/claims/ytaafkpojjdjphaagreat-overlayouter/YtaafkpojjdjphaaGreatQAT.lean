import Derived.Test.YtaafkpojjdjphaaGreatQAS
open Go.Lib (hid)
set_option maxRecDepth 100000
namespace Go.Proofs.YtaafkpojjdjphaaGreat
open Go.RowKit
set_option maxHeartbeats 1600000 in
theorem isEpochO_any (x : Int) (w : World) : Calls Tryz.prog 95 #[.int .i64 x] w fun e w' => e = .returned (.bool (epB x)) ∧ w' = w := by
 unfold epB
 by_cases h1 : 0 ≤ x
 ·rw [decide_eq_true h1]
  by_cases h2 : x ≤ 1073741824
  ·rw [decide_eq_true h2]
   go_enter Tryz.func95, Tryz.ntmps95
   go_wp2_with fail
   go_ret
   exact ⟨rfl, rfl⟩
  ·rw [decide_eq_false h2]
   go_enter Tryz.func95, Tryz.ntmps95
   go_wp2_with fail
   go_ret
   exact ⟨rfl, rfl⟩
 ·rw [decide_eq_false h1]
  go_enter Tryz.func95, Tryz.ntmps95
  go_wp2_with fail
  go_ret
  exact ⟨rfl, rfl⟩
set_option maxHeartbeats 1600000 in
theorem checkNest_any (N : Int) (a : Option Addr) (l : List A) (cap : Nat) (ba : Option Addr) (bs : List Int) (bc : Nat) (ca : Option Addr) (C : List Cl) (cc : Nat) (w : World) (hl : l.length ≤ 9223372036854775807) (hbl : bs.length ≤ 9223372036854775807) (hr : Arcs w a l) (hi : Ints w ba bs) (hR : Rws w ca C) :
  Calls Tryz.prog 94 #[.agg #[.int .i64 N, .slice a l.length cap], .agg #[.slice ba bs.length bc, .slice ca C.length cc]] w fun e w' => e = .returned (.int .i64 (nsE N l bs (csl C))) ∧ Below w.heap.size w w' := by
 obtain ⟨hg0, hg1, hb0, hsz⟩ := top2 w (.cells #[.int .i64 N, .slice a l.length cap] 24) (.cells #[.slice ba bs.length bc, .slice ca C.length cc] 28)
 obtain ⟨⟨a0, a1⟩, _⟩ := two_cells hg0
 obtain ⟨⟨a2, a3⟩, _⟩ := two_cells hg1
 have HST := hid (stale_any N a l cap ba bs bc ca C cc none [] 0 _ hl hbl (hr.on hb0) (hi.on hb0) (hR.on hb0) (by decide) (Or.inl rfl))
 rw [stE_nil] at HST
 have HB0 := hid hb0
 obtain ⟨E, HE⟩ := named (nsE N l bs (csl C))
 rw [HE.out] at HST
 rw [HE.out]
 clear hr hi hR hb0 hg0 hg1
 generalize hp : w.heap.size = p at *
 go_enter Tryz.func94, Tryz.ntmps94
 go_wp2_with fail
 generalize (w.alloc (.cells #[.int .i64 N, .slice a l.length cap] 24)).alloc (.cells #[.slice ba bs.length bc, .slice ca C.length cc] 28) = W at *
 refine HST.out.mono ?_
 rintro e w1 ⟨h1, h2, hb1⟩
 have HB1 : Hid (Below p w w1) := HB0.out.trans (hb1.mono (by omega))
 clear hb1 HST
 by_cases hE : E = 0
 ·obtain ⟨g, vs, rfl, _⟩ := h1 hE
  have HEE := hid hE
  clear h1 h2 hE
  go_wp2_with fail
  go_ret
  exact ⟨by rw [HEE.out]; rfl, HB1.out⟩
 ·obtain rfl := h2 hE
  clear h1 h2
  go_wp2_with fail
  go_ret
  exact ⟨rfl, HB1.out⟩
structure RA (n : Nat) (l : List A) (bs : List Int) (cs : List (List Int)) (ep : Int) (j : Nat) (M : List Mt) : Prop where
 len : M.length = (szL (lvl cs j)).length
 rt : ∀ i, i < (szL (lvl cs j)).length → (mt M i).lv = (j : Int) + 1 ∧ (mt M i).ce = (i : Nat) ∧ (mt M i).ep = ep ∧ (mt M i).D = rD n l bs cs j i
theorem mk_right {n : Nat} {l : List A} {bs : List Int} {cs : List (List Int)} {ep : Int} {xs : Nat → List Int} {O R : Nat → List Mt} {m : Nat} (hNR : NR n l bs cs) (hm : m ≤ bs.length) (hw : ∀ x ∈ l, 0 ≤ x.w ∧ x.w < 4294967296) (hM : ∀ j, j < m → Mk n l bs cs ep (xs j) (O j) (R (j - 1)) j (R j) (szL (lvl cs j)).length) (hO : ∀ j, j < m → ∀ i, i < (szL (lvl cs j)).length → (xs j).getD i 0 = 0 → (mt (O j) i).D = rD n l bs cs j i) : ∀ j, j < m → ∀ i, i < (szL (lvl cs j)).length → (mt (R j) i).D = rD n l bs cs j i := by
 intro j
 induction j with
 | zero =>
   intro hj i hi
   by_cases e : (xs 0).getD i 0 = 0
   ·rw [((hM 0 hj).kp i hi e).2]; exact hO 0 hj i hi e
   ·rw [((hM 0 hj).nw i hi e).2]; rfl
 | succ j ih =>
   intro hj i hi
   by_cases e : (xs (j + 1)).getD i 0 = 0
   ·rw [((hM _ hj).kp i hi e).2]; exact hO _ hj i hi e
   ·rw [((hM _ hj).nw i hi e).2]
    unfold nwD
    rw [if_neg (by omega)]
    show upD n l bs cs j i (R j) = _
    exact rise_D hNR (by omega) hi hw (fun t ht => ih (by omega) t ht)
theorem mdF_ne (j : Nat) : mdF j ≠ 0 := by unfold mdF; split <;> decide
set_option maxHeartbeats 12800000 in
theorem all_any (N : Int) (a : Option Addr) (l : List A) (cap : Nat) (ba : Option Addr) (bs : List Int) (bc : Nat) (ca : Option Addr) (C : List Cl) (cc : Nat) (ep : Int) (w : World) (hl : l.length ≤ 9223372036854775807) (hbl : bs.length ≤ 9223372036854775807) (hr : Arcs w a l) (hi : Ints w ba bs) (hR : Rws w ca C) (hwt : ∀ x ∈ l, 0 ≤ x.w ∧ x.w < 4294967296) :
  Calls Tryz.prog 38 #[.agg #[.int .i64 N, .slice a l.length cap], .agg #[.slice ba bs.length bc, .slice ca C.length cc], .int .i64 ep] w fun e w' => (nsE N l bs (csl C) = 0 ∧ epB ep = true → ∃ g rv R, e = .returned (.tuple #[.slice (some ⟨g, 0, none⟩) C.length C.length, .int .i64 0]) ∧ OS w' w.heap.size g C.length rv R ∧ ∀ j, j < C.length → RA N.toNat l bs (csl C) ep j (R j)) ∧ (¬ (nsE N l bs (csl C) = 0 ∧ epB ep = true) → ∃ x, x ≠ 0 ∧ e = .returned (.tuple #[.slice none 0 0, .int .i64 x])) ∧ Below w.heap.size w w' := by
 obtain ⟨hg0, hg1, hb0, hsz⟩ := top2 w (.cells #[.int .i64 N, .slice a l.length cap] 24) (.cells #[.slice ba bs.length bc, .slice ca C.length cc] 28)
 obtain ⟨⟨a0, a1⟩, _⟩ := two_cells hg0
 obtain ⟨⟨a2, a3⟩, _⟩ := two_cells hg1
 have HCK := hid (checkNest_any N a l cap ba bs bc ca C cc _ hl hbl (hr.on hb0) (hi.on hb0) (hR.on hb0))
 have HB0 := hid hb0
 have HG0 := hid hg0
 have HG1 := hid hg1
 have HAR := hid hr
 have HI := hid hi
 have HRR := hid hR
 obtain ⟨E, HE⟩ := named (nsE N l bs (csl C))
 rw [HE.out] at HCK
 rw [HE.out]
 obtain ⟨eb, HEB⟩ := named (epB ep)
 have HIE := hid (fun w => isEpochO_any ep w)
 rw [HEB.out] at HIE
 rw [HEB.out]
 clear hr hi hR hb0 hg0 hg1
 generalize hp : w.heap.size = p at *
 go_enter Tryz.func38, Tryz.ntmps38
 go_wp2_with fail
 generalize (w.alloc (.cells #[.int .i64 N, .slice a l.length cap] 24)).alloc (.cells #[.slice ba bs.length bc, .slice ca C.length cc] 28) = W at *
 refine HCK.out.mono ?_
 rintro e w1 ⟨rfl, hb1⟩
 have hz1 := hb1.size
 have HB1 : Hid (Below p w w1) := HB0.out.trans (hb1.mono (by omega))
 have HK0 := hid ((hb1.block p (by omega)).trans HG0.out)
 have HK1 := hid ((hb1.block (p + 1) (by omega)).trans HG1.out)
 clear hb1 HCK HG0 HG1 HB0 a0 a1 a2 a3
 by_cases hE : E = 0
 ·have hEb : (E != 0) = false := by simp [hE]
  have HEE := hid hE
  clear hE
  go_wp2_with fail
  refine (HIE.out w1).mono ?_
  rintro e w2 ⟨rfl, hw2⟩
  obtain rfl := hw2
  cases eb with
  | true =>
    have hNR := nsE_zero.1 (HE.out.trans HEE.out)
    have h0N := (chk_zero hNR.1).1
    obtain ⟨n, hn⟩ : ∃ n : Nat, N = n := ⟨N.toNat, by omega⟩
    subst hn
    have hmb : C.length = bs.length := by have := hNR.2.2.2.1; rw [csl_len] at this; exact this
    have h1024 : n ≤ 1024 := by have := (chk_zero hNR.1).2.1; omega
    have HAM : Hid (∀ W2, Below w2.heap.size w2 W2 → Calls Tryz.prog 97 #[.agg #[.slice ba bs.length bc, .slice ca C.length cc]] W2 fun e w' => ∃ g gs, e = .returned (.slice (some ⟨g, 0, none⟩) C.length C.length) ∧ FT w' (g + 1) g C.length gs (fun j => List.replicate (szL (lvl (csl C) j)).length (mdF j)) C.length ∧ Below w2.heap.size w2 w') := fun W2 hb => by
     refine (allMade_any n l ba bs bc ca C cc W2 hNR (HRR.out.on (hp ▸ HB1.out.trans (hb.mono (by omega))))).mono ?_
     rintro e w' ⟨g, gs, h1, h2, h3⟩
     exact ⟨g, gs, h1, h2, hb.trans (h3.mono hb.size)⟩
    have HMX : Hid (∀ W2, Below w2.heap.size w2 W2 → ∀ g gs, FT W2 (g + 1) g C.length gs (fun j => List.replicate (szL (lvl (csl C) j)).length (mdF j)) C.length → Calls Tryz.prog 96 #[.agg #[.int .i64 n, .slice a l.length cap, .slice ba bs.length bc, .slice ca C.length cc, .int .i64 ep], .slice none 0 0, .slice (some ⟨g, 0, none⟩) C.length C.length] W2 fun e w' => ∃ g rv R, e = .returned (.tuple #[.slice (some ⟨g, 0, none⟩) C.length C.length, .int .i64 0]) ∧ OS w' p g C.length rv R ∧ (∀ j, j < C.length → RA n l bs (csl C) ep j (R j)) ∧ Below w2.heap.size w2 w') := fun W2 hb g gs hF => by
     have hbw : Below w.heap.size w W2 := hp ▸ HB1.out.trans (hb.mono (by omega))
     have hcnt : ∀ j, j < C.length → (szL (lvl (csl C) j)).length ≤ 1024 := fun j hj => by
      obtain ⟨b1, b2, _⟩ := hNR.lv (k := j) (by omega)
      have h1 := szL_length (lvl (csl C) j)
      omega
     have hrep : ∀ (c i : Nat) (x : Int), i < c → (List.replicate c x).getD i 0 = x := fun c i x h => by
      rw [List.getD_eq_getElem?_getD, List.getElem?_replicate, if_pos h]; rfl
     have h := matrices_any n a l cap ba bs bc ca C cc ep none [] 0 (some ⟨g, 0, none⟩) (ftC C.length gs (fun j => List.replicate (szL (lvl (csl C) j)).length (mdF j))) C.length C.length W2 hNR HEB.out hl hbl (HAR.out.on hbw) (HI.out.on hbw) (HRR.out.on hbw) hwt rfl (ftC_len _ _ _) (hF.rws (fun j hj => by rw [List.length_replicate]; exact hcnt j hj)) (fun j hj => by
      rw [ftC_at hj]
      exact ⟨List.length_replicate, fun i hi => Or.inr (hrep _ _ _ hi)⟩) ⟨Or.inl rfl, fun j hj => absurd hj (by simp)⟩ (fun j hj i hi hx => by
      rw [ftC_at hj] at hx
      have := hrep _ _ (mdF j) hi
      exact absurd (this.symm.trans hx) (mdF_ne j))
     refine h.mono ?_
     rintro e w' ⟨g2, rv, R, h1, h2, h3, h4⟩
     refine ⟨g2, rv, R, h1, h2.base (by have := hbw.size; omega), fun j hj => ?_, hb.trans (h4.mono hb.size)⟩
     have hri := mk_right (xs := fun j => (cl (ftC C.length gs (fun j => List.replicate (szL (lvl (csl C) j)).length (mdF j))) j).xs) (O := fun j => (lw [] j).M) (R := R) hNR (by omega) hwt h3 (fun j hj i hi hx => by
      rw [ftC_at hj] at hx
      have := hrep _ _ (mdF j) hi
      exact absurd (this.symm.trans hx) (mdF_ne j))
     refine ⟨(h3 j hj).len, fun i hi => ?_⟩
     obtain ⟨m1, m2, _, _⟩ := (h3 j hj).mf i hi
     have m3 := (h3 j hj).nw i hi (by rw [ftC_at hj]; rw [hrep _ _ _ hi]; exact mdF_ne j)
     exact ⟨m1, m2, m3.1, hri j hj i hi⟩
    clear hwt hNR h0N hmb h1024 hl hbl HAR HI HRR HE HIE
    obtain ⟨⟨a0, a1⟩, _⟩ := two_cells HK0.out
    obtain ⟨⟨a2, a3⟩, _⟩ := two_cells HK1.out
    go_wp2_with fail
    go_region_law (first | (rw [if_pos (by rfl)]; go_simp; go_at_call 97; refine (HAM.out _ (by first | exact Below.refl _ _ | exact ⟨rfl, rfl, rfl, Nat.le_refl _, fun _ _ => rfl⟩)).mono ?_; rintro e w3 ⟨g3, gs3, rfl, hft, hb3⟩; have v0 := ((hb3.block p (by omega)).trans HK0.out); have v1 := ((hb3.block (p + 1) (by omega)).trans HK1.out); obtain ⟨⟨b0, b1⟩, _⟩ := two_cells v0; obtain ⟨⟨b2, b3⟩, _⟩ := two_cells v1; have HFT := hid hft; have HB3 := hid hb3; clear hft hb3 v0 v1) | (rw [if_pos (by rfl)]; go_simp; go_at_call 96; refine (HMX.out _ (by first | exact HB3.out | exact HB3.out.trans ⟨rfl, rfl, rfl, Nat.le_refl _, fun _ _ => rfl⟩) g3 gs3 (by first | exact HFT.out | exact HFT.out.on ⟨rfl, rfl, rfl, Nat.le_refl _, fun _ _ => rfl⟩)).mono ?_; rintro e w4 ⟨g4, rv, R, rfl, hos, hra, hb4⟩; have HOS := hid hos; have HRA := hid hra; have HB4 := hid hb4; clear hos hra hb4))
    all_goals
     have HFIN : Hid (Below p w w4) := HB1.out.trans (HB4.out.mono (by omega))
     go_wp2_with fail
     go_ret2
     first | exact ⟨fun _ => ⟨g4, rfl, ⟨rv, R, HOS.out, HRA.out⟩⟩, fun h => absurd HEE.out h, HFIN.out⟩ | exact ⟨fun _ => ⟨g4, rfl, ⟨rv, R, HOS.out, HRA.out⟩⟩, fun h => absurd ⟨HEE.out, rfl⟩ h, HFIN.out⟩ | exact ⟨fun _ => ⟨g4, rfl, ⟨rv, ⟨R, HOS.out, HRA.out⟩⟩⟩, fun h => absurd HEE.out h, HFIN.out⟩
  | false =>
    go_wp2_with fail
    go_ret2
    exact ⟨fun h => absurd h.2 (by decide), fun _ => ⟨1, by decide, rfl⟩, HB1.out⟩
 ·have hEb : (E != 0) = true := by simp [hE]
  have HEE := hid hE
  clear hE
  go_wp2_with fail
  go_ret2
  exact ⟨fun h => absurd h.1 HEE.out, fun _ => ⟨E, HEE.out, rfl⟩, HB1.out⟩
theorem infoB4 : (Tryz.prog.info? 4).map (fun i => (i.zero, i.size, i.bytes)) = some (some (.bool false), 1, 1) := by kernel_rfl
def Tq (T : Nat → Bool) (u v : Nat) : Nat → Nat → Bool
 | 0 => T
 | 1 => fun x => if x = u then true else T x
 | _ => fun x => if x = v then true else (if x = u then true else T x)
structure BZ (w : World) (b1 b2 n cn : Nat) (L : List Int) (T : Nat → Bool) : Prop where
 ne : b1 ≠ b2
 sz : TbV w b1 cn 3 (fun c => .int .i64 (szT n L T c : Nat))
 ct : TbV w b2 n 4 (fun v => .bool (T v))
theorem BZ.old {w : World} {b1 b2 n cn : Nat} {L : List Int} {T : Nat → Bool} (h : BZ w b1 b2 n cn L T) {u : Nat} (hT : T u = true) : BZ w b1 b2 n cn L (fun v => if v = u then true else T v) := by
 have e : (fun v => if v = u then true else T v) = T := by
  funext v
  by_cases e : v = u
  ·rw [if_pos e, e, hT]
  ·rw [if_neg e]
 rw [e]
 exact h
theorem BZ.new {w : World} {b1 b2 n cn : Nat} {L : List Int} {T : Nat → Bool} (h : BZ w b1 b2 n cn L T) {u c : Nat} (hu : u < n) (hT : T u = false) (hc : L.getD u 0 = (c : Int)) : BZ ((w.setCell ⟨b2, u, none⟩ (.bool true)).setCell ⟨b1, c, none⟩ (.int .i64 ((szT n L T c : Nat) + 1 : Int))) b1 b2 n cn L (fun v => if v = u then true else T v) := by
 refine ⟨h.ne, ?_, ?_⟩
 ·refine ((h.sz.same (Below.heap_setCell _ _ _ _ h.ne)).set c _).congr (fun v _ => ?_)
  by_cases e : v = c
  ·subst e
   rw [updV_self, szT_put hu hT, if_pos hc]
   simp
  ·rw [updV_ne _ _ e, szT_put hu hT, if_neg (by rw [hc]; omega)]
   simp
 ·refine ((h.ct.set u _).congr (fun v _ => ?_)).same (Below.heap_setCell _ _ _ _ (fun e => h.ne e.symm))
  by_cases e : v = u
  ·subst e; rw [updV_self, if_pos rfl]
  ·rw [updV_ne _ _ e, if_neg e]
set_option maxHeartbeats 6400000 in
theorem bsizes_any (n : Nat) (a : Option Addr) (l : List A) (cap : Nat) (ba : Option Addr) (bs : List Int) (bc : Nat) (ca : Option Addr) (C : List Cl) (cc : Nat) (j : Nat) (w : World) (hNR : NR n l bs (csl C)) (hj : j < bs.length) (hl : l.length ≤ 9223372036854775807) (hbl : bs.length ≤ 9223372036854775807) (hr : Arcs w a l) (hi : Ints w ba bs) (hR : Rws w ca C) :
  Calls Tryz.prog 102 #[.agg #[.int .i64 n, .slice a l.length cap], .agg #[.slice ba bs.length bc, .slice ca C.length cc], .int .i64 ((j : Int) + 1)] w fun e w' => ∃ g, e = .returned (.tuple #[.slice (some ⟨g, 0, none⟩) (szL (lvl (csl C) j)).length (szL (lvl (csl C) j)).length, .int .i64 0]) ∧ TbV w' g (szL (lvl (csl C) j)).length 3 (fun c => .int .i64 ((bdV n l bs (csl C) ((j : Int) + 1) (c : Nat)).length : Nat)) ∧ Below w.heap.size w w' := by
 obtain ⟨hg0, hg1, hb0, hsz⟩ := top2 w (.cells #[.int .i64 n, .slice a l.length cap] 24) (.cells #[.slice ba bs.length bc, .slice ca C.length cc] 28)
 obtain ⟨⟨a0, a1⟩, _⟩ := two_cells hg0
 obtain ⟨⟨a2, a3⟩, _⟩ := two_cells hg1
 have hcl : C.length = bs.length := by have := hNR.2.2.2.1; rw [csl_len] at this; exact this
 have h5 : C.length ≤ 5 := by have := hNR.2.2.1; omega
 have h0N := (chk_zero hNR.1).1
 have h1024 : n ≤ 1024 := by have := (chk_zero hNR.1).2.1; omega
 obtain ⟨q1, q2, _⟩ := hNR.lv (k := j) hj
 have HOU := hid (outer_any n a l cap ba bs bc ca C cc ((j : Int) + 1) _ hl hbl (hr.on hb0) (hi.on hb0) (hR.on hb0))
 have hat0 : atE n l bs (csl C) ((j : Int) + 1) = 0 := atE_ok hNR hj
 have hou : ouV n l bs (csl C) ((j : Int) + 1) = arL l (prt (lvl (csl C) j)) := by
  unfold ouV
  rw [if_pos hat0, show ((j : Int) + 1).toNat - 1 = j by omega]
 rw [hat0, hou] at HOU
 have HCE : Hid (∀ c, c < (szL (lvl (csl C) j)).length → bdV n l bs (csl C) ((j : Int) + 1) (c : Nat) = bdL n (lvl (csl C) j) l (c : Nat)) := fun c hc => by
  unfold bdV
  rw [if_pos (inE_ok hNR hj hc), show ((j : Int) + 1).toNat - 1 = j by omega, Int.toNat_natCast]
 have HRL : Hid (∀ u, u < n → ∃ y : Nat, (lvl (csl C) j).getD u 0 = y ∧ y < (szL (lvl (csl C) j)).length) := fun u hu => right_lt q2 (by omega)
 have HENDS : Hid (∀ i, i < l.length → ∃ u v : Nat, (l.getD i A.zero).f = u ∧ (l.getD i A.zero).t = v ∧ u < n ∧ v < n) := fun i hi2 => by
  have h := chk_in hNR.1 hi2
  unfold inA at h
  refine ⟨(l.getD i A.zero).f.toNat, (l.getD i A.zero).t.toNat, ?_, ?_, ?_, ?_⟩ <;> omega
 have HIDS : Hid (∀ i, i < (arL l (prt (lvl (csl C) j))).length → (arL l (prt (lvl (csl C) j))).getD i 0 < l.length) := fun i hi2 => (cho_mem.1 (getS_mem hi2)).1
 have hids8 : (arL l (prt (lvl (csl C) j))).length ≤ 8192 := Nat.le_trans (cho_len _ _) (by have := (chk_zero hNR.1).2.2.1; omega)
 have HMC : Hid (∀ W2, Below w.heap.size w W2 → Calls Tryz.prog 167 #[(cl C j).val] W2 fun e w' => e = .returned (.int .i64 ((szL (lvl (csl C) j)).length : Nat)) ∧ w' = W2) := fun W2 hb => by
  rw [csl_at] at q1 q2 ⊢
  exact manyCells_any (cl C j).a (cl C j).xs (cl C j).c W2 q2 (by omega) (by omega) ((hR.2 j (by omega)).1.on hb)
 have hrowj := (hR.2 j (by omega)).1
 rw [← csl_at] at hrowj
 have HROW := hid hrowj
 have hc8 : (szL (lvl (csl C) j)).length ≤ 1024 := by
  have h1 := szL_length (lvl (csl C) j)
  omega
 obtain ⟨bx, ox, hbx⟩ := hR.get
 obtain ⟨rfl, hbl2, hnat⟩ := hbx (by omega)
 have HNAT := hid (hnat j (by omega))
 have hval : (cl C j).val = .slice (cl C j).a (lvl (csl C) j).length (cl C j).c := by rw [csl_at]; rfl
 rw [hval, show (lvl (csl C) j).length = n by omega] at HNAT HMC
 obtain ⟨va, HVA⟩ := named (cl C j).a
 obtain ⟨vc, HVC⟩ := named (cl C j).c
 rw [HVA.out, HVC.out] at HNAT HMC
 rw [HVA.out] at HROW
 obtain ⟨L, HL⟩ := named (lvl (csl C) j)
 rw [HL.out] at HOU HCE HRL HIDS hids8 HMC HROW hc8
 rw [HL.out]
 have HLL : Hid (L.length = n) := by show _ = _; rw [← HL.out]; omega
 obtain ⟨cn, HCN⟩ := named (szL L).length
 rw [HCN.out] at HCE HRL HMC hc8
 rw [HCN.out]
 obtain ⟨ids, HID⟩ := named (arL l (prt L))
 have HEND : Hid (∀ c, szT n L (crI l ids ids.length) c = (bdL n L l (c : Nat)).length) := fun c => by show _ = _; rw [← HID.out]; exact szT_bd n L l c
 rw [HID.out] at HOU HIDS hids8
 obtain ⟨i3, hi3, hz3, hs3, hby3⟩ := info_parts info3
 obtain ⟨i4, hi4, hz4, hs4, hby4⟩ := info_parts infoB4
 have hmk3 : ∀ w, (Instr.makeSlice 25 (.int .i64 cn) (.int .i64 cn)).run Tryz.prog w = .ok (.slice (some ⟨w.heap.size, 0, none⟩) cn cn) (w.alloc (.cells ((List.range cn).map (fun _ => Value.int .i64 0)).toArray 3)) := fun w => by
  have := run_make (P := Tryz.prog) w 25 3 i3 (.int .i64 0) Tryz.underlying25 hi3 hz3 .i64 .i64 cn cn (by omega) (by omega) (by rw [hby3]; omega) (by omega)
  rw [hs3] at this
  rw [this, Int.toNat_natCast, made_int]
 have hmk4 : ∀ w, (Instr.makeSlice 160 (.int .i64 n) (.int .i64 n)).run Tryz.prog w = .ok (.slice (some ⟨w.heap.size, 0, none⟩) n n) (w.alloc (.cells ((List.range n).map (fun _ => Value.bool false)).toArray 4)) := fun w => by
  have := run_make (P := Tryz.prog) w 160 4 i4 (.bool false) Tryz.underlying160 hi4 hz4 .i64 .i64 n n (by omega) (by omega) (by rw [hby4]; omega) (by omega)
  rw [hs4] at this
  rw [this, Int.toNat_natCast, made_bool]
 have HZERO : Hid (∀ c, szT n L (fun _ => false) c = 0) := fun c => by
  show szT n L (fun _ => false) c = 0
  unfold szT
  rw [cho_congr (q := fun _ => false) (fun v _ => by simp)]
  simp [cho]
 have HAR := hid hr
 have HB0 := hid hb0
 have HG0 := hid hg0
 have HG1 := hid hg1
 have hjj : (j : Int) < C.length := by omega
 have hwj : IntKind.i64.wrap ((j : Int) + 1 - 1) = (j : Int) := by rw [IntKind.wrap_i64]; omega
 have hwj2 : IntKind.i64.wrap (j : Int) = (j : Int) := by rw [IntKind.wrap_i64]; omega
 clear hr hi hR hb0 hg0 hg1 hNR hcl hat0 hou q1 q2 hrowj hbx hnat hval
 generalize hp : w.heap.size = p at *
 go_enter Tryz.func102, Tryz.ntmps102
 go_wp2_with fail
 generalize (w.alloc (.cells #[.int .i64 n, .slice a l.length cap] 24)).alloc (.cells #[.slice ba bs.length bc, .slice (some ⟨bx, ox, none⟩) C.length cc] 28) = W at *
 refine HOU.out.mono ?_
 rintro e w1 ⟨v1, rfl, hrow1, hb1⟩
 have hz1 := hb1.size
 have HB1 : Hid (Below p w w1) := HB0.out.trans (hb1.mono (by omega))
 have HK0 := hid ((hb1.block p (by omega)).trans HG0.out)
 have HK1 := hid ((hb1.block (p + 1) (by omega)).trans HG1.out)
 have HIN1 := hid hrow1.ints
 clear hb1 hrow1 HOU HG0 HG1 HB0 a0 a1 a2 a3
 obtain ⟨⟨a0, a1⟩, _⟩ := two_cells HK0.out
 obtain ⟨⟨a2, a3⟩, _⟩ := two_cells HK1.out
 have c0 := (HB1.out.cell (p := ⟨bx, ox + j, none⟩) (by show bx < _; omega)).trans HNAT.out
 have HMCd := hid (fun W2 hb => HMC.out W2 hb)
 go_wp2_with fail
 go_cut [11, 12] (fun s11 s12 wc => ∃ (b1 b2 : Nat), s11 = .slice (some ⟨b1, 0, none⟩) cn cn ∧ s12 = .slice (some ⟨b2, 0, none⟩) n n ∧ w1.heap.size ≤ b1 ∧ w1.heap.size ≤ b2 ∧ Hid (BZ wc b1 b2 n cn L (fun _ => false)) ∧ Hid (Below w1.heap.size w1 wc))
 case first =>
  have z0 : (w1.alloc (.cells ((List.range cn).map (fun _ => Value.int .i64 0)).toArray 3)).cell? ⟨p, 0, none⟩ = some (.int .i64 n) := (((Below.refl w1.heap.size w1).alloc (Nat.le_refl _) (.cells ((List.range cn).map (fun _ => Value.int .i64 0)).toArray 3)).cell (p := ⟨p, 0, none⟩) (by show p < _; omega)).trans a0
  have HBZ1 : Hid (BZ ((w1.alloc (.cells ((List.range cn).map (fun _ => Value.int .i64 0)).toArray 3)).alloc (.cells ((List.range n).map (fun _ => Value.bool false)).toArray 4)) w1.heap.size (w1.heap.size + 1) n cn L (fun _ => false)) := by
   obtain ⟨t1, t2, _, _⟩ := top2 w1 (.cells ((List.range cn).map (fun _ => Value.int .i64 0)).toArray 3) (.cells ((List.range n).map (fun _ => Value.bool false)).toArray 4)
   exact ⟨by omega, TbV.congr (V := fun _ => .int .i64 0) t1 (fun c _ => by rw [HZERO.out]; rfl), t2⟩
  have HBZ2 : Hid (BZ ((w1.alloc (.cells ((List.range n).map (fun _ => Value.bool false)).toArray 4)).alloc (.cells ((List.range cn).map (fun _ => Value.int .i64 0)).toArray 3)) (w1.heap.size + 1) w1.heap.size n cn L (fun _ => false)) := by
   obtain ⟨t1, t2, _, _⟩ := top2 w1 (.cells ((List.range n).map (fun _ => Value.bool false)).toArray 4) (.cells ((List.range cn).map (fun _ => Value.int .i64 0)).toArray 3)
   exact ⟨by omega, TbV.congr (V := fun _ => .int .i64 0) t2 (fun c _ => by rw [HZERO.out]; rfl), t1⟩
  have HBB : Hid (∀ x y : Obj, Below w1.heap.size w1 ((w1.alloc x).alloc y)) := fun x y => ((Below.refl _ _).alloc (Nat.le_refl _) x).alloc (by rw [World.size_alloc]; omega) y
  go_region_law (rw [if_pos (by rfl)]; go_simp; go_at_call 167; refine (HMC.out _ (by first | exact HB1.out | exact HB1.out.drew | exact HB1.out.alloc (by omega) _ | exact (HB1.out.alloc (by omega) _).drew | exact HB1.out.drew.alloc (by show p ≤ w1.heap.size; omega) _)).mono ?_; rintro e w9 ⟨rfl, rfl⟩)
  all_goals
   go_wp2_with fail
   go_meet
   case rel => first | exact ⟨w1.heap.size, w1.heap.size + 1, rfl, rfl, Nat.le_refl _, by omega, ⟨HBZ1.out.ne, HBZ1.out.sz, HBZ1.out.ct⟩, (HBB.out _ _).drew⟩ | exact ⟨w1.heap.size, w1.heap.size + 1, rfl, rfl, Nat.le_refl _, by omega, HBZ1, HBB.out _ _⟩ | exact ⟨w1.heap.size + 1, w1.heap.size, rfl, rfl, by omega, Nat.le_refl _, ⟨HBZ2.out.ne, HBZ2.out.sz, HBZ2.out.ct⟩, (HBB.out _ _).drew⟩ | exact ⟨w1.heap.size + 1, w1.heap.size, rfl, rfl, by omega, Nat.le_refl _, HBZ2, HBB.out _ _⟩
 case rest =>
  obtain ⟨b1, b2, rfl, rfl, hbb1, hbb2, HZ, HBC⟩ := hcut
  have HBW : Hid (Below p w wc) := HB1.out.trans (HBC.out.mono (by omega))
  have HPW := hid ((HBC.out.block p (by omega)).trans HK0.out)
  obtain ⟨lx, lo, hlx⟩ := HROW.out.get
  obtain ⟨rfl, hlbl, hlat⟩ := hlx (by rw [HLL.out]; omega)
  have HLAT := hid hlat
  obtain ⟨ax, ao, hax⟩ := HAR.out.get
  have HAX := hid hax
  obtain ⟨dx, dd, hdx⟩ := HIN1.out.get
  rw [ints_len] at hdx
  have HDX := hid hdx
  have hz1c := HBC.out.size
  clear hlx hlat hax hdx a0 a1 a2 a3 c0 hmk3 hmk4 HMC HMCd HNAT HIN1 HROW HAR
  go_wp2_with fail
  go_loopw [41] (fun q wr => ∃ (k : Nat), k ≤ ids.length ∧ q = .int .i64 k ∧ Hid (BZ wr b1 b2 n cn L (crI l ids k)) ∧ Hid (wr.heap[p]? = some (.cells #[.int .i64 n, .slice a l.length cap] 24)) ∧ Hid (Below w1.heap.size w1 wr)) (fun q _ => ids.length - (intOf q).toNat)
  case atStart =>
   refine ⟨0, Nat.zero_le _, rfl, ?_, HPW, HBC⟩
   have e : crI l ids 0 = fun _ => false := by funext v; exact crI_zero l ids v
   show BZ _ _ _ _ _ _ _
   rw [e]
   exact HZ.out
  case round =>
   clear HZ HPW HBW HBC
   obtain ⟨k, hk, rfl, HZR, HPR, HBL⟩ := hrel
   have HBR : Hid (Below p w wr) := HB1.out.trans (HBL.out.mono (by omega))
   by_cases hlk : k < ids.length
   ·have hlk' : (k : Int) < ids.length := by omega
    obtain ⟨rfl, hdbl, hdat⟩ := HDX.out (by omega)
    have y0 := (HBL.out.cell (p := ⟨dx, dd + k, none⟩) hdbl).trans (hdat k hlk)
    rw [ints_getD hlk] at y0
    have hidl := HIDS.out k hlk
    have HSTEP := hid (fun x => crI_step (l := l) hlk x)
    obtain ⟨u, v, hu, hv, hun, hvn⟩ := HENDS.out _ hidl
    obtain ⟨i, HII⟩ := named (ids.getD k 0)
    rw [HII.out] at y0 hidl hu hv HSTEP
    obtain ⟨rfl, habl, haat⟩ := HAX.out (by omega)
    obtain ⟨x0, x1, x2⟩ := haat i hidl
    rw [hu] at x0
    rw [hv] at x1
    rw [hu, hv, Int.toNat_natCast, Int.toNat_natCast] at HSTEP
    have y1 := (HBR.out.cell (p := ⟨ax, ao + i * 3, none⟩) (by show ax < p; omega)).trans x0
    have y2 := (HBR.out.cell (p := ⟨ax, ao + i * 3 + 1, none⟩) (by show ax < p; omega)).trans x1
    obtain ⟨⟨g0, g1⟩, _⟩ := two_cells HPR.out
    have hidl' : (i : Int) < l.length := by omega
    clear x0 x1 x2 haat hdat hu hv
    go_wp2_with fail
    go_quiet (fail)
    obtain ⟨T, HT⟩ := named (crI l ids k)
    rw [HT.out] at HZR
    have HTE : Hid (Tq T u v 2 = crI l ids (k + 1)) := by
     show _ = _
     funext x
     rw [HSTEP.out x, HT.out]
     rfl
    go_wp2_with fail
    go_loopw [58] (fun q wr => ∃ (e : Nat), e ≤ 2 ∧ q = .int .i64 e ∧ Hid (BZ wr b1 b2 n cn L (Tq T u v e)) ∧ Hid (wr.heap[p]? = some (.cells #[.int .i64 n, .slice (some ⟨ax, ao, none⟩) l.length cap] 24)) ∧ Hid (Below w1.heap.size w1 wr)) (fun q _ => 2 - (intOf q).toNat)
    case atStart => exact ⟨0, by omega, rfl, ⟨HZR.out.ne, HZR.out.sz, HZR.out.ct⟩, HPR.out, HBL.out.trans (below_drewN _ _ _)⟩
    case round =>
     clear HZR HPR HBL HBR
     obtain ⟨e, he2, rfl, HZQ, HPQ, HBL⟩ := hrel
     have HBQ : Hid (Below p w wr) := HB1.out.trans (HBL.out.mono (by omega))
     have he : e = 0 ∨ e = 1 ∨ e = 2 := by omega
     have hix0 : ∀ w, (Instr.index 219 (.agg #[.int .i64 (u : Nat), .int .i64 (v : Nat)]) (.int .i64 0)).run Tryz.prog w = .ok (.int .i64 (u : Nat)) w := fun w => by kernel_rfl
     have hix1 : ∀ w, (Instr.index 219 (.agg #[.int .i64 (u : Nat), .int .i64 (v : Nat)]) (.int .i64 1)).run Tryz.prog w = .ok (.int .i64 (v : Nat)) w := fun w => by kernel_rfl
     rcases he with he | he | he
     ·obtain rfl : e = 0 := he
      have ux : u < n := hun
      have ux' : (u : Int) < n := by omega
      obtain ⟨c, hc, hcc⟩ := HRL.out u ux
      have hcc' : (c : Int) < cn := by omega
      have l0 := (HBQ.out.cell (p := ⟨lx, lo + u, none⟩) (by show lx < p; omega)).trans (HLAT.out u (by rw [HLL.out]; exact ux))
      rw [hc] at l0
      have k0 := HZQ.out.ct.cell ux
      have k1 := HZQ.out.ct.free u
      cases hT : Tq T u v 0 u with
      | true =>
        rw [hT] at k0
        have HZN : Hid (BZ wr b1 b2 n cn L (Tq T u v 1)) := HZQ.out.old hT
        clear hT
        go_wp2_with fail
        exact ⟨⟨0 + 1, by omega, by simp, HZN, HPQ, HBL⟩, by simp [intOf]⟩
      | false =>
        rw [hT] at k0
        have m0 := HZQ.out.sz.cell hcc
        have m1 := HZQ.out.sz.free c
        have hle := szT_le n L (Tq T u v 0) c
        have HZN : Hid (BZ _ b1 b2 n cn L (Tq T u v 1)) := HZQ.out.new ux hT hc
        have HNE := hid HZQ.out.ne
        obtain ⟨sz, HSZ⟩ := named (szT n L (Tq T u v 0) c)
        rw [HSZ.out] at m0 hle HZN
        have hws : IntKind.i64.wrap ((sz : Int) + 1) = (sz : Int) + 1 := by rw [IntKind.wrap_i64]; omega
        have m2 : (wr.setCell ⟨b2, u, none⟩ (.bool true)).cell? ⟨b1, c, none⟩ = some (.int .i64 sz) := by rw [World.cell?_of_block (Below.heap_setCell _ _ _ _ HNE.out)]; exact m0
        have m3 : (wr.setCell ⟨b2, u, none⟩ (.bool true)).frozen? ⟨b1, c, none⟩ = false := TbV.free (TbV.same HZQ.out.sz (Below.heap_setCell _ _ _ _ HNE.out)) c
        have m4 : (wr.setCell ⟨b2, u, none⟩ (.bool true)).cell? ⟨lx, lo + u, none⟩ = some (.int .i64 c) := by rw [World.cell?_of_block (Below.heap_setCell _ _ _ _ (show lx ≠ b2 by omega))]; exact l0
        have HBN : Hid (Below w1.heap.size w1 ((wr.setCell ⟨b2, u, none⟩ (.bool true)).setCell ⟨b1, c, none⟩ (.int .i64 ((sz : Int) + 1)))) := (HBL.out.setCell (p := ⟨b2, u, none⟩) (by show w1.heap.size ≤ b2; omega) _).setCell (p := ⟨b1, c, none⟩) (by show w1.heap.size ≤ b1; omega) _
        have HPN : Hid (((wr.setCell ⟨b2, u, none⟩ (.bool true)).setCell ⟨b1, c, none⟩ (.int .i64 ((sz : Int) + 1))).heap[p]? = some (.cells #[.int .i64 n, .slice (some ⟨ax, ao, none⟩) l.length cap] 24)) := (Below.heap_setCell _ _ _ _ (show p ≠ b1 by omega)).trans ((Below.heap_setCell _ _ _ _ (show p ≠ b2 by omega)).trans HPQ.out)
        clear hT m0 m1
        go_wp2_with fail
        exact ⟨⟨0 + 1, by omega, by simp, HZN, HPN, HBN⟩, by simp [intOf]⟩
     ·obtain rfl : e = 1 := he
      have ux : v < n := hvn
      have ux' : (v : Int) < n := by omega
      obtain ⟨c, hc, hcc⟩ := HRL.out v ux
      have hcc' : (c : Int) < cn := by omega
      have l0 := (HBQ.out.cell (p := ⟨lx, lo + v, none⟩) (by show lx < p; omega)).trans (HLAT.out v (by rw [HLL.out]; exact ux))
      rw [hc] at l0
      have k0 := HZQ.out.ct.cell ux
      have k1 := HZQ.out.ct.free v
      cases hT : Tq T u v 1 v with
      | true =>
        rw [hT] at k0
        have HZN : Hid (BZ wr b1 b2 n cn L (Tq T u v 2)) := HZQ.out.old hT
        clear hT
        go_wp2_with fail
        exact ⟨⟨1 + 1, by omega, by simp, HZN, HPQ, HBL⟩, by simp [intOf]⟩
      | false =>
        rw [hT] at k0
        have m0 := HZQ.out.sz.cell hcc
        have m1 := HZQ.out.sz.free c
        have hle := szT_le n L (Tq T u v 1) c
        have HZN : Hid (BZ _ b1 b2 n cn L (Tq T u v 2)) := HZQ.out.new ux hT hc
        have HNE := hid HZQ.out.ne
        obtain ⟨sz, HSZ⟩ := named (szT n L (Tq T u v 1) c)
        rw [HSZ.out] at m0 hle HZN
        have hws : IntKind.i64.wrap ((sz : Int) + 1) = (sz : Int) + 1 := by rw [IntKind.wrap_i64]; omega
        have m2 : (wr.setCell ⟨b2, v, none⟩ (.bool true)).cell? ⟨b1, c, none⟩ = some (.int .i64 sz) := by rw [World.cell?_of_block (Below.heap_setCell _ _ _ _ HNE.out)]; exact m0
        have m3 : (wr.setCell ⟨b2, v, none⟩ (.bool true)).frozen? ⟨b1, c, none⟩ = false := TbV.free (TbV.same HZQ.out.sz (Below.heap_setCell _ _ _ _ HNE.out)) c
        have m4 : (wr.setCell ⟨b2, v, none⟩ (.bool true)).cell? ⟨lx, lo + v, none⟩ = some (.int .i64 c) := by rw [World.cell?_of_block (Below.heap_setCell _ _ _ _ (show lx ≠ b2 by omega))]; exact l0
        have HBN : Hid (Below w1.heap.size w1 ((wr.setCell ⟨b2, v, none⟩ (.bool true)).setCell ⟨b1, c, none⟩ (.int .i64 ((sz : Int) + 1)))) := (HBL.out.setCell (p := ⟨b2, v, none⟩) (by show w1.heap.size ≤ b2; omega) _).setCell (p := ⟨b1, c, none⟩) (by show w1.heap.size ≤ b1; omega) _
        have HPN : Hid (((wr.setCell ⟨b2, v, none⟩ (.bool true)).setCell ⟨b1, c, none⟩ (.int .i64 ((sz : Int) + 1))).heap[p]? = some (.cells #[.int .i64 n, .slice (some ⟨ax, ao, none⟩) l.length cap] 24)) := (Below.heap_setCell _ _ _ _ (show p ≠ b1 by omega)).trans ((Below.heap_setCell _ _ _ _ (show p ≠ b2 by omega)).trans HPQ.out)
        clear hT m0 m1
        go_wp2_with fail
        exact ⟨⟨1 + 1, by omega, by simp, HZN, HPN, HBN⟩, by simp [intOf]⟩
     ·obtain rfl : e = 2 := he
      rw [HTE.out] at HZQ
      go_wp2_with fail
      exact ⟨⟨k + 1, by omega, by simp, HZQ, HPQ, HBL⟩, by simp [intOf]; omega⟩
   ·have hlk' : ¬ (k : Int) < ids.length := by omega
    obtain rfl : k = ids.length := by omega
    have HFIN : Hid (TbV wr b1 cn 3 (fun c => .int .i64 ((bdV n l bs (csl C) ((j : Int) + 1) (c : Nat)).length : Nat))) := HZR.out.sz.congr (fun c hc => by rw [HEND.out, HCE.out c hc])
    go_wp2_with fail
    go_ret2
    exact ⟨b1, rfl, HFIN.out, HBR.out⟩
end Go.Proofs.YtaafkpojjdjphaaGreat
