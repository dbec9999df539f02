/-
  OverlayStays holds, where Stale tells 0.
-/
import Derived.Test.YtaafkpojjdjphaaGreatYAW
import Derived.Test.YtaafkpojjdjphaaGreatYStaysN
import Derived.Deep.RegionLaw
namespace Go.Proofs.YtaafkpojjdjphaaGreat
open Go.RowKit
set_option maxRecDepth 100000 in
set_option maxHeartbeats 12800000 in
theorem stays0_any (N : Int) (a : Option Addr) (l : List A) (cap : Nat) (ba : Option Addr) (bs : List Int) (bc : Nat) (ca : Option Addr) (C : List Cl) (cc : Nat) (d : Option Addr) (ids : List Int) (dc : Nat) (w : World) (hlen : l.length * 24 ≤ 140737488351232) (hbl0 : bs.length * 8 ≤ 140737488351232) (hwt : ∀ x ∈ l, 0 ≤ x.w ∧ x.w < 4294967296) (hdl0 : ids.length * 8 ≤ 140737488351232) (hr : Arcs w a l) (hi : Ints w ba bs) (hR : Rws w ca C) (hd : Ints w d ids) (hmode : nsE N l bs (csl C) = 0 → stE N l bs (csl C) ids = 0) :
    Calls Tryz.prog 10 #[.agg #[.int .i64 N, .slice a l.length cap], .agg #[.slice ba bs.length bc, .slice ca C.length cc], .slice d ids.length dc] w fun e w' => e = .returned (.bool true) ∧ Below w.heap.size w w' := by
  have hl : l.length ≤ 9223372036854775807 := by omega
  have hbl : bs.length ≤ 9223372036854775807 := by omega
  have hdl : ids.length ≤ 9223372036854775807 := by omega
  obtain ⟨hg0, hg1, hb0, hsz⟩ := top2 w (.cells #[.int .i64 N, .slice a l.length cap] 24) (.cells #[.slice ba bs.length bc, .slice ca C.length cc] 28)
  have HWK := Lib.hid (fun w => works14_any w)
  have HLG : Hid (∀ W2, Below w.heap.size w W2 → Calls Tryz.prog 36 #[.agg #[.int .i64 N, .slice a l.length cap]] W2 fun e w' => e = .returned (.bool (lgB N l)) ∧ Below W2.heap.size W2 w') := fun W2 hb => large14_any N a l cap W2 hl (hr.on hb)
  have HAL : Hid (∀ W2, Below w.heap.size w W2 → Calls Tryz.prog 38 #[.agg #[.int .i64 N, .slice a l.length cap], .agg #[.slice ba bs.length bc, .slice ca C.length cc], .int .i64 3] W2 fun e w' => (nsE N l bs (csl C) = 0 → ∃ g rv R, e = .returned (.tuple #[.slice (some ⟨g, 0, none⟩) C.length C.length, .int .i64 0]) ∧ OS w' W2.heap.size g C.length rv R ∧ ∀ j, j < C.length → RA N.toNat l bs (csl C) 3 j (R j)) ∧ (nsE N l bs (csl C) ≠ 0 → ∃ x, x ≠ 0 ∧ e = .returned (.tuple #[.slice none 0 0, .int .i64 x])) ∧ Below W2.heap.size W2 w') := fun W2 hb => by
    refine (all_any N a l cap ba bs bc ca C cc 3 W2 hl hbl (hr.on hb) (hi.on hb) (hR.on hb) hwt).mono ?_
    rintro e w' ⟨h1, h2, h3⟩
    exact ⟨fun h => h1 ⟨h, by decide⟩, fun h => h2 (fun h' => h h'.1), h3⟩
  have HAR := Lib.hid hr
  have HI := Lib.hid hi
  have HRR := Lib.hid hR
  have HDD := Lib.hid hd
  have HWT := Lib.hid hwt
  have HB0 := Lib.hid hb0
  have HG0 := Lib.hid hg0
  have HG1 := Lib.hid hg1
  clear hr hi hR hd hb0 hg0 hg1 hwt hlen hbl0 hdl0
  generalize hp : w.heap.size = p at *
  go_enter Tryz.func10, Tryz.ntmps10
  go_wp2_with fail
  generalize (w.alloc (.cells #[.int .i64 N, .slice a l.length cap] 24)).alloc (.cells #[.slice ba bs.length bc, .slice ca C.length cc] 28) = W at *
  refine (HWK.out W).mono ?_
  rintro e w1 ⟨rfl, hb1⟩
  have hz1 := hb1.size
  have HB1 : Hid (Below p w w1) := HB0.out.trans (hb1.mono (by omega))
  have HK0 := Lib.hid ((hb1.block p (by omega)).trans HG0.out)
  have HK1 := Lib.hid ((hb1.block (p + 1) (by omega)).trans HG1.out)
  clear hb1 HG0 HG1 HB0 HWK
  obtain ⟨⟨a0, a1⟩, _⟩ := two_cells HK0.out
  have HLGc := Lib.hid (HLG.out w1 HB1.out)
  obtain ⟨lg, HLB⟩ := named (lgB N l)
  rw [HLB.out] at HLGc
  go_wp2_with fail
  refine HLGc.out.mono ?_
  rintro e w2 ⟨rfl, hb2⟩
  have hz2 := hb2.size
  have HB2 : Hid (Below p w w2) := HB1.out.trans (hb2.mono (by omega))
  have HL0 := Lib.hid ((hb2.block p (by omega)).trans HK0.out)
  have HL1 := Lib.hid ((hb2.block (p + 1) (by omega)).trans HK1.out)
  clear hb2 HK0 HK1 HLGc HLG a0 a1
  cases lg with
  | true =>
    go_wp2_with fail
    go_ret
    exact ⟨rfl, HB2.out⟩
  | false =>
    obtain ⟨⟨a0, a1⟩, _⟩ := two_cells HL0.out
    obtain ⟨⟨a2, a3⟩, _⟩ := two_cells HL1.out
    have HALc := Lib.hid (HAL.out w2 HB2.out)
    go_wp2_with fail
    refine HALc.out.mono ?_
    rintro e w3 ⟨h1, h2, hb3⟩
    have hz3 := hb3.size
    have HB3 : Hid (Below p w w3) := HB2.out.trans (hb3.mono (by omega))
    have HM0 := Lib.hid ((hb3.block p (by omega)).trans HL0.out)
    have HM1 := Lib.hid ((hb3.block (p + 1) (by omega)).trans HL1.out)
    clear hb3 HALc HAL HL0 HL1 a0 a1 a2 a3
    by_cases hns : nsE N l bs (csl C) = 0
    · obtain ⟨go, rv, R, rfl, hos, hra⟩ := h1 hns
      clear h1 h2
      have hNR := nsE_zero.1 hns
      have h0N := (chk_zero hNR.1).1
      obtain ⟨n, hn⟩ : ∃ n : Nat, N = n := ⟨N.toNat, by omega⟩
      subst hn
      rw [Int.toNat_natCast] at hra
      have hmb : C.length = bs.length := by have := hNR.2.2.2.1; rw [csl_len] at this; exact this
      have h1024 : n ≤ 1024 := by have := (chk_zero hNR.1).2.1; omega
      have hcnt : ∀ j, j < C.length → (szL (lvl (csl C) j)).length ≤ 1024 := fun j hj => by
        obtain ⟨b1, b2, _⟩ := hNR.lv (k := j) (by omega)
        have h1 := szL_length (lvl (csl C) j)
        omega
      obtain ⟨O, hOv, hOl, hOM⟩ := hos.ovs (fun j hj => by rw [(hra j hj).len]; exact hcnt j hj)
      have hF : OvF n l bs (csl C) 3 O := ⟨by omega, fun j hj => by
        rw [(hOM j (by omega)).1]
        refine ⟨(hra j (by omega)).len, fun i hi2 => ?_⟩
        obtain ⟨q1, q2, q3, q4⟩ := (hra j (by omega)).rt i hi2
        exact ⟨q1, q2, by rw [q3]; decide, by rw [q4, rD_len]⟩⟩
      have HREN : Hid (∀ W2, Below w3.heap.size w3 W2 → ∀ (d : Option Addr) (ids : List Int) (dc : Nat), ids.length ≤ 9223372036854775807 → Ints W2 d ids → Calls Tryz.prog 44 #[.agg #[.int .i64 n, .slice a l.length cap], .agg #[.slice ba bs.length bc, .slice ca C.length cc], .slice (some ⟨go, 0, none⟩) C.length C.length, .slice d ids.length dc, .int .i64 3] W2 fun e w' => (stE n l bs (csl C) ids = 0 → ∃ g OA, e = .returned (.tuple #[.slice (some ⟨g, 0, none⟩) C.length C.length, .int .i64 (stN n (csl C) l ids C.length : Nat), .int .i64 0]) ∧ Ovs w' (some ⟨g, 0, none⟩) OA ∧ OA.length = C.length ∧ ∀ j, j < C.length → (lw OA j).M.length = (szL (lvl (csl C) j)).length ∧ ∀ i, i < (szL (lvl (csl C) j)).length → (mt (lw OA j).M i).lv = (mt (lw O j).M i).lv ∧ (mt (lw OA j).M i).ce = (mt (lw O j).M i).ce ∧ (mt (lw OA j).M i).ep = (mt (lw O j).M i).ep ∧ (mt (lw OA j).M i).D = (mt (lw O j).M i).D) ∧ (stE n l bs (csl C) ids ≠ 0 → e = .returned (.tuple #[.slice none 0 0, .int .i64 0, .int .i64 (stE n l bs (csl C) ids)])) ∧ Below W2.heap.size W2 w') := fun W2 hb d ids dc hdl hd => by
        have hbw : Below w.heap.size w W2 := hp ▸ HB3.out.trans (hb.mono (by omega))
        refine (renew_ok n a l cap ba bs bc ca C cc (some ⟨go, 0, none⟩) O C.length d ids dc 3 W2 hNR (by decide) (hOv.on hb) hF hdl hd HWT.out hl hbl (HAR.out.on hbw) (HI.out.on hbw) (HRR.out.on hbw)).mono ?_
        rintro e w' ⟨h1, h2, h3⟩
        refine ⟨fun hst => ?_, h2, h3⟩
        obtain ⟨g, rv, R2, e1, e2, e3⟩ := h1 hst
        obtain ⟨OA, f1, f2, f3⟩ := e2.ovs (fun j hj => by rw [(e3 j hj).len]; exact hcnt j hj)
        refine ⟨g, OA, e1, f1, f2, fun j hj => ?_⟩
        rw [(f3 j hj).1, (hOM j hj).1]
        have hri := mk_right (xs := fun j => smX (szL (lvl (csl C) j)).length (mdF j) (ints (tcL n (lvl (csl C) j) l ids))) (O := fun j => (lw O j).M) (R := R2) hNR (by omega) HWT.out e3 (fun j hj i hi2 _ => by
          rw [(hOM j hj).1]
          exact ((hra j hj).rt i hi2).2.2.2)
        refine ⟨(e3 j hj).len, fun i hi2 => ?_⟩
        obtain ⟨q1, q2, q3, q4⟩ := (hra j hj).rt i hi2
        obtain ⟨m1, m2, _, _⟩ := (e3 j hj).mf i hi2
        refine ⟨by rw [m1, q1], by rw [m2, q2], ?_, by rw [hri j hj i hi2, q4]⟩
        rw [q3]
        by_cases e : (smX (szL (lvl (csl C) j)).length (mdF j) (ints (tcL n (lvl (csl C) j) l ids))).getD i 0 = 0
        · have := ((e3 j hj).kp i hi2 e).1
          rw [(hOM j hj).1, q3] at this
          exact this
        · exact ((e3 j hj).nw i hi2 e).1
      have HSAME : Hid (∀ (W1 : World) (g : Nat) (OA : List Lw), Ovs W1 (some ⟨g, 0, none⟩) OA → Ovs W1 (some ⟨go, 0, none⟩) O → OA.length = C.length → (∀ j, j < C.length → (lw OA j).M.length = (szL (lvl (csl C) j)).length ∧ ∀ i, i < (szL (lvl (csl C) j)).length → (mt (lw OA j).M i).lv = (mt (lw O j).M i).lv ∧ (mt (lw OA j).M i).ce = (mt (lw O j).M i).ce ∧ (mt (lw OA j).M i).ep = (mt (lw O j).M i).ep ∧ (mt (lw OA j).M i).D = (mt (lw O j).M i).D) → ∀ k, k < C.length → ∀ wr, Below W1.heap.size W1 wr → ∀ W2, Below wr.heap.size wr W2 → Calls Tryz.prog 28 #[.slice (lw OA k).a (szL (lvl (csl C) k)).length (lw OA k).c, .slice (lw O k).a (szL (lvl (csl C) k)).length (lw O k).c] W2 fun e w' => e = .returned (.bool true) ∧ Below wr.heap.size wr w') := fun W1 g OA h1 h2 h3 h4 k hk wr hb1 W2 hb2 => by
        have hb : Below W1.heap.size W1 W2 := hb1.trans (hb2.mono hb1.size)
        refine (sameMats_any (lw OA k).a (lw O k).a (lw OA k).M (lw O k).M (lw OA k).c (lw O k).c _ W2 (h4 k hk).1 (by rw [(hOM k hk).1]; exact (hra k hk).len) (hcnt k hk) ((h1.2 k (by omega)).1.on hb) ((h2.2 k (by omega)).1.on hb) (h4 k hk).2).mono ?_
        rintro e w' ⟨e1, e2⟩
        exact ⟨e1, hb2.trans (e2.mono hb2.size)⟩
      have HCELL : Hid (∀ (W1 : World) (g : Nat) (OA : List Lw), Ovs W1 (some ⟨g, 0, none⟩) OA → OA.length = C.length → (∀ j, j < C.length → (lw OA j).M.length = (szL (lvl (csl C) j)).length) → g < W1.heap.size ∧ ∀ k, k < C.length → W1.cell? ⟨g, k, none⟩ = some (.slice (lw OA k).a (szL (lvl (csl C) k)).length (lw OA k).c)) := fun W1 g OA h1 h2 h3 => by
        rcases h1.1 with h | ⟨b, o, e1, e2, e3⟩
        · rw [h] at h2
          have := hNR.2.1
          simp at h2
          omega
        · injection e1 with e1
          injection e1 with q1 q2 _
          subst q1
          subst q2
          refine ⟨e2, fun k hk => ?_⟩
          have := e3 k (by omega)
          rw [h3 k hk, Nat.zero_add] at this
          exact this
      have HOv := Lib.hid hOv
      have HOl := Lib.hid hOl
      have HOLN : Hid (∀ j, j < C.length → (lw O j).M.length = (szL (lvl (csl C) j)).length) := fun j hj => by rw [(hOM j hj).1]; exact (hra j hj).len
      have hst0 : stE n l bs (csl C) [] = 0 := by rw [stE_nil]; exact hns
      have HR1 := Lib.hid (HREN.out w3 (Below.refl _ _) none [] 0 (by decide) (Or.inl rfl))
      rw [hst0, stN_nil] at HR1
      have HST : Hid (stE n l bs (csl C) ids = 0) := hmode hns
      have h5 : C.length ≤ 5 := by have := hNR.2.2.1; omega
      have hnc : ((C.length : Int) != (C.length : Int)) = false := by simp
      clear hos hra hOv hOl hOM hF hNR h0N hmb h1024 hcnt hns hst0 hl hbl hmode
      obtain ⟨⟨a0, a1⟩, _⟩ := two_cells HM0.out
      obtain ⟨⟨a2, a3⟩, _⟩ := two_cells HM1.out
      go_wp2_with fail
      refine HR1.out.mono ?_
      rintro e w4 ⟨k1, _, hb4⟩
      obtain ⟨ga, OA, rfl, hOA, hOAl, hOAe⟩ := k1 (by first | rfl | trivial)
      have hz4 := hb4.size
      have HB4 := Lib.hid hb4
      have HN0 := Lib.hid ((hb4.block p (by omega)).trans HM0.out)
      have HN1 := Lib.hid ((hb4.block (p + 1) (by omega)).trans HM1.out)
      have HOA := Lib.hid hOA
      have HOAL := Lib.hid hOAl
      have HOAE := Lib.hid hOAe
      clear k1 hb4 HR1 hOA hOAl hOAe a0 a1 a2 a3 HM0 HM1
      have HR2 := Lib.hid (HREN.out w4 HB4.out d ids dc hdl (HDD.out.on (hp ▸ HB3.out.trans (HB4.out.mono (by omega)))))
      rw [HST.out] at HR2
      obtain ⟨⟨a0, a1⟩, _⟩ := two_cells HN0.out
      obtain ⟨⟨a2, a3⟩, _⟩ := two_cells HN1.out
      go_wp2_with fail
      refine HR2.out.mono ?_
      rintro e wb ⟨k1, k2, hb5⟩
      have hz5 := hb5.size
      have hO5 := (HOv.out.on HB4.out).on hb5
      have hA5 := HOA.out.on hb5
      have HBF : Hid (Below p w wb) := HB3.out.trans ((HB4.out.mono (by omega)).trans (hb5.mono (by omega)))
      obtain ⟨q1, q2⟩ := HCELL.out wb go O hO5 HOl.out HOLN.out
      obtain ⟨q3, q4⟩ := HCELL.out wb ga OA hA5 HOAL.out (fun j hj => (HOAE.out j hj).1)
      have HLo := Lib.hid q1
      have HCo := Lib.hid q2
      have HLa := Lib.hid q3
      have HCa := Lib.hid q4
      have HSa := Lib.hid (HSAME.out wb ga OA hA5 hO5 HOAL.out HOAE.out)
      have hpwb : p ≤ wb.heap.size := by have := HB3.out.size; omega
      obtain ⟨gb, OB, rfl, hOB, hOBl, hOBe⟩ := k1 (by first | rfl | trivial)
      obtain ⟨q5, q6⟩ := HCELL.out wb gb OB hOB hOBl (fun j hj => (hOBe j hj).1)
      have HLb := Lib.hid q5
      have HCb := Lib.hid q6
      have HSb := Lib.hid (HSAME.out wb gb OB hOB hO5 hOBl hOBe)
      generalize stN n (csl C) l ids C.length = many at *
      clear k1 k2 hOB hOBl hOBe q1 q2 q3 q4 q5 q6 hO5 hA5 hb5 HR2 HREN HSAME HCELL HOv HOl HOLN HOA HOAL HOAE HST a0 a1 a2 a3 HN0 HN1
      go_wp2_with fail
      go_loopw [63] (fun q wr => ∃ (k : Nat), k ≤ C.length ∧ q = .int .i64 k ∧ Hid (Below wb.heap.size wb wr)) (fun q _ => C.length - (intOf q).toNat)
      case atStart => exact ⟨0, Nat.zero_le _, rfl, Below.refl _ _⟩
      case round =>
        obtain ⟨k, hk, rfl, HBR⟩ := hrel
        have hwz := HBR.out.size
        by_cases hlk : k < C.length
        · have hlk' : (k : Int) < C.length := by omega
          have x0 := (HBR.out.cell (p := ⟨ga, k, none⟩) HLa.out).trans (HCa.out k hlk)
          have x1 := (HBR.out.cell (p := ⟨go, k, none⟩) HLo.out).trans (HCo.out k hlk)
          have HSA := Lib.hid (fun W2 hb => HSa.out k hlk wr HBR.out W2 hb)
          have x2 := (HBR.out.cell (p := ⟨gb, k, none⟩) HLb.out).trans (HCb.out k hlk)
          have HSB := Lib.hid (fun W2 hb => HSb.out k hlk wr HBR.out W2 hb)
          have hla := HLa.out
          have hlo := HLo.out
          have hlb := HLb.out
          obtain ⟨cn, HCN⟩ := named (szL (lvl (csl C) k)).length
          obtain ⟨xa, HXA⟩ := named (lw OA k).a
          obtain ⟨xc, HXC⟩ := named (lw OA k).c
          obtain ⟨ya, HYA⟩ := named (lw O k).a
          obtain ⟨yc, HYC⟩ := named (lw O k).c
          rw [HCN.out, HXA.out, HXC.out] at x0
          rw [HCN.out, HYA.out, HYC.out] at x1
          rw [HCN.out, HXA.out, HXC.out, HYA.out, HYC.out] at HSA
          obtain ⟨za, HZA⟩ := named (lw OB k).a
          obtain ⟨zc, HZC⟩ := named (lw OB k).c
          rw [HCN.out, HZA.out, HZC.out] at x2
          rw [HCN.out, HZA.out, HZC.out, HYA.out, HYC.out] at HSB
          have HX2 := Lib.hid x2
          have HX0 := Lib.hid x0
          have HX1 := Lib.hid x1
          (try clear HBF); (try clear HAR); (try clear HI); (try clear HRR); (try clear HDD); (try clear HWT); (try clear HLB); (try clear HB1); (try clear HB2); (try clear HB3); (try clear HB4); (try clear HSa); (try clear HCa); (try clear HCo); (try clear HLa); (try clear HLo); (try clear HCb); (try clear HSb); (try clear HLb); (try clear HCN); (try clear HXA); (try clear HXC); (try clear HYA); (try clear HYC); (try clear HZA); (try clear HZC); (try clear hz1); (try clear hz2); (try clear hz3); (try clear hz4); (try clear hz5); (try clear hpwb); (try clear hdl); (try clear hsz); (try clear hnc); (try clear hp)
          go_wp2_with fail
          go_region_held3 (fun w' => w'.cell? ⟨ga, k, none⟩ = some (.slice xa cn xc) ∧ w'.cell? ⟨go, k, none⟩ = some (.slice ya cn yc) ∧ w'.cell? ⟨gb, k, none⟩ = some (.slice za cn zc)) (go_keep) (first | (go_at_call 28; have HB7x := HB7.out; refine (HSB.out _ (by first | exact HB7x | exact HB7x.drew | exact HB7x.trans (below_drewN _ _ _))).mono ?_; rintro e w8 ⟨rfl, hb8⟩; have u0 := (hb8.cell (p := ⟨ga, k, none⟩) (by show ga < _; omega)).trans HX0.out; have u1 := (hb8.cell (p := ⟨go, k, none⟩) (by show go < _; omega)).trans HX1.out; have u2 := (hb8.cell (p := ⟨gb, k, none⟩) (by show gb < _; omega)).trans HX2.out; have HB8 := Lib.hid hb8; clear hb8) | (go_at_call 28; refine (HSA.out _ (by first | exact Below.refl _ _ | exact (Below.refl _ _).drew | exact below_drewN _ _ _)).mono ?_; rintro e w7 ⟨rfl, hb7⟩; have v0 := (hb7.cell (p := ⟨ga, k, none⟩) (by show ga < _; omega)).trans HX0.out; have v1 := (hb7.cell (p := ⟨go, k, none⟩) (by show go < _; omega)).trans HX1.out; have v2 := (hb7.cell (p := ⟨gb, k, none⟩) (by show gb < _; omega)).trans HX2.out; have HB7 := Lib.hid hb7; clear hb7))
          all_goals
            go_wp2_with fail
            first | exact ⟨⟨k + 1, by omega, by simp, HBR.out.trans (HB8.out.mono hwz)⟩, by simp [intOf]; omega⟩ | exact ⟨⟨k + 1, by omega, by simp, (HBR.out.trans (HB8.out.mono hwz)).drew⟩, by simp [intOf]; omega⟩
        · have hlk' : ¬ (k : Int) < C.length := by omega
          go_wp2_with fail
          go_ret
          exact ⟨rfl, HBF.out.trans (HBR.out.mono (by omega))⟩
    · obtain ⟨x, hx, rfl⟩ := h2 hns
      have hxb : (x != 0) = true := by simp [hx]
      clear h1 h2 hns
      go_wp2_with fail
      go_ret
      exact ⟨rfl, HB3.out⟩
end Go.Proofs.YtaafkpojjdjphaaGreat
