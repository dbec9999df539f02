/-
  Two messages that are unlike have bytes unlike, and no beginning of each other.
-/
import Derived.Test.YtchmiiclogmheaaDoorWk0
namespace Go.Proofs.YtchmiiclogmheaaDoor.C2
open Go.RowKit
theorem me_ok {m : MM} (h : (mE m).2 = 0) : mayB m = true ∧ longM m = false ∧ (bytesM m).length ≤ 262144 ∧ mE m = (bytesM m, 0) := by
  unfold mE at h ⊢
  by_cases h1 : longM m = true
  · rw [if_pos h1] at h; cases h
  · rw [if_neg h1] at h ⊢
    by_cases h2 : mayB m = false
    · rw [if_pos h2] at h; cases h
    · rw [if_neg h2] at h ⊢
      by_cases h3 : 262144 < (bytesM m).length
      · rw [if_pos h3] at h; cases h
      · rw [if_neg h3]
        exact ⟨by simpa using h2, by simpa using h1, by omega, rfl⟩
theorem me_no {m : MM} (h : (mE m).2 ≠ 0) : (mE m).1 = [] := by
  unfold mE at h ⊢
  by_cases h1 : longM m = true
  · rw [if_pos h1]
  · rw [if_neg h1] at h ⊢
    by_cases h2 : mayB m = false
    · rw [if_pos h2]
    · rw [if_neg h2] at h ⊢
      by_cases h3 : 262144 < (bytesM m).length
      · rw [if_pos h3]
      · rw [if_neg h3] at h; exact absurd rfl h
/-- Messages' bytes, with anything behind, tell the messages. -/
theorem bytes_tell {a b : MM} (a1 : mayB a = true) (a2 : longM a = false) (a3 : Rng a) (b1 : mayB b = true) (b2 : longM b = false) (b3 : Rng b) {r q : List UInt8} (h : bytesM a ++ r = bytesM b ++ q) : a = b :=
  sm_msg a1 b1 (pT_is a) (pT_is b) (encF_inj 8 _ _ r q (okk_msg (fine_of a3 a2 a1) (pT_is a)) (okk_msg (fine_of b3 b2 b1) (pT_is b)) h).1
theorem take_data (s : ByteArray) (i : Nat) : (s.extract 0 i).data.toList = s.data.toList.take i := by
  rw [ByteArray.data_extract, Array.toList_extract]
  simp [List.extract]
theorem ext_join {s t : ByteArray} {i : Nat} (h : s = t.extract 0 i) : s.data.toList ++ t.data.toList.drop i = t.data.toList ++ [] := by
  have e : s.data.toList = t.data.toList.take i := by rw [h, take_data]
  rw [e, List.take_append_drop, List.append_nil]
theorem str_ne {s t : ByteArray} (h : s ≠ t) : (s.toList == t.toList) = false := by
  rw [beq_eq_false_iff_ne]
  intro e
  rw [ByteArray.toList_eq, ByteArray.toList_eq] at e
  exact h (ByteArray.ext (Array.toList_inj.1 e))
set_option maxRecDepth 100000 in
set_option maxHeartbeats 6400000 in
theorem law_unlike (a b : MM) (p q : Ad) (w : World) (hF : Flds w) (ha : MsIn w a p) (hb : MsIn w b q) (ra : Rng a) (rb : Rng b) (fa : Fit a) (fb : Fit b) :
    Calls Tryd.prog 7 #[.agg (msC a p), .agg (msC b q)] w fun e w' => e = .returned (.bool true) ∧ Below w.heap.size w w' := by
  have HW := Lib.hid (fun W (hW : Below w.heap.size w W) => works_any W (hF.on hW (Nat.le_refl _)))
  have HEA := Lib.hid (fun W (hW : Below w.heap.size w W) => encodeM_any a p W (hF.on hW (Nat.le_refl _)) (ha.on hW) ra fa.ml)
  have HEB := Lib.hid (fun W (hW : Below w.heap.size w W) => encodeM_any b q W (hF.on hW (Nat.le_refl _)) (hb.on hW) rb fb.ml)
  have HSM := Lib.hid (fun W (hW : Below w.heap.size w W) => sameMsg_any a b p q W (ha.on hW) (hb.on hW) fa fb)
  have hb0 : Below w.heap.size w ((w.alloc (.cells #[.int .i64 a.kd, .int .i64 a.ep, .int .i64 a.lv, .int .i64 a.ce, .int .i64 a.qu, .int .i64 a.ve, .int .i64 a.ot, .int .i64 a.bk, .slice p.wa a.ws.length p.wc, .slice p.ma a.ms.length p.mc, .slice p.da a.ds.length p.dc] 26)).alloc (.cells #[.int .i64 b.kd, .int .i64 b.ep, .int .i64 b.lv, .int .i64 b.ce, .int .i64 b.qu, .int .i64 b.ve, .int .i64 b.ot, .int .i64 b.bk, .slice q.wa b.ws.length q.wc, .slice q.ma b.ms.length q.mc, .slice q.da b.ds.length q.dc] 26)) := ((Below.refl _ _).alloc (Nat.le_refl _) _).alloc (by simp) _
  have HB0 := Lib.hid hb0
  have HX0 := Lib.hid ((Below.heap_alloc (w.alloc (.cells #[.int .i64 a.kd, .int .i64 a.ep, .int .i64 a.lv, .int .i64 a.ce, .int .i64 a.qu, .int .i64 a.ve, .int .i64 a.ot, .int .i64 a.bk, .slice p.wa a.ws.length p.wc, .slice p.ma a.ms.length p.mc, .slice p.da a.ds.length p.dc] 26)) (.cells #[.int .i64 b.kd, .int .i64 b.ep, .int .i64 b.lv, .int .i64 b.ce, .int .i64 b.qu, .int .i64 b.ve, .int .i64 b.ot, .int .i64 b.bk, .slice q.wa b.ws.length q.wc, .slice q.ma b.ms.length q.mc, .slice q.da b.ds.length q.dc] 26) w.heap.size (by simp)).trans (heap_top w (.cells #[.int .i64 a.kd, .int .i64 a.ep, .int .i64 a.lv, .int .i64 a.ce, .int .i64 a.qu, .int .i64 a.ve, .int .i64 a.ot, .int .i64 a.bk, .slice p.wa a.ws.length p.wc, .slice p.ma a.ms.length p.mc, .slice p.da a.ds.length p.dc] 26)))
  have hy := heap_top (w.alloc (.cells #[.int .i64 a.kd, .int .i64 a.ep, .int .i64 a.lv, .int .i64 a.ce, .int .i64 a.qu, .int .i64 a.ve, .int .i64 a.ot, .int .i64 a.bk, .slice p.wa a.ws.length p.wc, .slice p.ma a.ms.length p.mc, .slice p.da a.ds.length p.dc] 26)) (.cells #[.int .i64 b.kd, .int .i64 b.ep, .int .i64 b.lv, .int .i64 b.ce, .int .i64 b.qu, .int .i64 b.ve, .int .i64 b.ot, .int .i64 b.bk, .slice q.wa b.ws.length q.wc, .slice q.ma b.ms.length q.mc, .slice q.da b.ds.length q.dc] 26)
  rw [World.size_alloc] at hy
  have HY0 := Lib.hid hy
  have HRA := Lib.hid ra
  have HRB := Lib.hid rb
  clear hb0 hy hF ha hb ra rb fa fb
  unfold msC encV at *
  by_cases hEA : (mE a).2 = 0
  rotate_left
  · have hEA' : ((mE a).2 == 0) = false := beq_eq_false_iff_ne.2 hEA
    clear HSM HRA HRB hEA
    generalize (mE a).2 = EA at *
    generalize (mE a).1 = YA at *
    generalize (mE b).2 = EB at *
    generalize (mE b).1 = YB at *
    go_enter Tryd.func7, Tryd.ntmps7
    go_wp2_with fail
    refine (HW.out _ HB0.out).mono ?_
    rintro e w1 ⟨rfl, hb1⟩
    have HB1 := Lib.hid (HB0.out.trans (hb1.mono HB0.out.size))
    have hx1 := (hb1.block _ (lt_of_block HX0.out)).trans HX0.out
    have HX1 := Lib.hid hx1
    have HY1 := Lib.hid ((hb1.block _ (lt_of_block HY0.out)).trans HY0.out)
    obtain ⟨z0, z1, z2, z3, z4, z5, z6, z7, z8, z9, z10⟩ := cells11 hx1
    clear hb1 hx1 HW HX0 HY0 HB0
    go_wp2_with fail
    refine (HEA.out _ HB1.out).mono ?_
    rintro e w2 ⟨rfl, hb2⟩
    have HB2 := Lib.hid (HB1.out.trans (hb2.mono HB1.out.size))
    have hy2 := (hb2.block _ (lt_of_block HY1.out)).trans HY1.out
    have HY2 := Lib.hid hy2
    have HX2 := Lib.hid ((hb2.block _ (lt_of_block HX1.out)).trans HX1.out)
    clear z0 z1 z2 z3 z4 z5 z6 z7 z8 z9 z10
    obtain ⟨z0, z1, z2, z3, z4, z5, z6, z7, z8, z9, z10⟩ := cells11 hy2
    clear hb2 hy2 HEA HX1 HY1 HB1
    go_wp2_with fail
    refine (HEB.out _ HB2.out).mono ?_
    rintro e w3 ⟨rfl, hb3⟩
    have HB3 := Lib.hid (HB2.out.trans (hb3.mono HB2.out.size))
    clear hb3 HEB HX2 HY2 HB2 z0 z1 z2 z3 z4 z5 z6 z7 z8 z9 z10
    go_wp2_with fail
    go_ret
    exact ⟨rfl, HB3.out⟩
  obtain ⟨a1, a2, a3, a4⟩ := me_ok hEA
  rw [a4] at HEA
  obtain ⟨SA, HSA⟩ := named (⟨(bytesM a).toArray⟩ : ByteArray)
  have hsa : SA.data.toList = bytesM a := by rw [← HSA.out]
  simp only [HSA.out] at HEA
  have HGA := Lib.hid (And.intro a1 (And.intro a2 hsa))
  clear a1 a2 a3 a4 hEA hsa
  by_cases hEB : (mE b).2 = 0
  rotate_left
  · have hEB' : ((mE b).2 == 0) = false := beq_eq_false_iff_ne.2 hEB
    clear HSM HRA HRB HGA HSA hEB
    generalize (mE b).2 = EB at *
    generalize (mE b).1 = YB at *
    go_enter Tryd.func7, Tryd.ntmps7
    go_wp2_with fail
    refine (HW.out _ HB0.out).mono ?_
    rintro e w1 ⟨rfl, hb1⟩
    have HB1 := Lib.hid (HB0.out.trans (hb1.mono HB0.out.size))
    have hx1 := (hb1.block _ (lt_of_block HX0.out)).trans HX0.out
    have HX1 := Lib.hid hx1
    have HY1 := Lib.hid ((hb1.block _ (lt_of_block HY0.out)).trans HY0.out)
    obtain ⟨z0, z1, z2, z3, z4, z5, z6, z7, z8, z9, z10⟩ := cells11 hx1
    clear hb1 hx1 HW HX0 HY0 HB0
    go_wp2_with fail
    refine (HEA.out _ HB1.out).mono ?_
    rintro e w2 ⟨rfl, hb2⟩
    have HB2 := Lib.hid (HB1.out.trans (hb2.mono HB1.out.size))
    have hy2 := (hb2.block _ (lt_of_block HY1.out)).trans HY1.out
    have HY2 := Lib.hid hy2
    have HX2 := Lib.hid ((hb2.block _ (lt_of_block HX1.out)).trans HX1.out)
    clear z0 z1 z2 z3 z4 z5 z6 z7 z8 z9 z10
    obtain ⟨z0, z1, z2, z3, z4, z5, z6, z7, z8, z9, z10⟩ := cells11 hy2
    clear hb2 hy2 HEA HX1 HY1 HB1
    go_wp2_with fail
    refine (HEB.out _ HB2.out).mono ?_
    rintro e w3 ⟨rfl, hb3⟩
    have HB3 := Lib.hid (HB2.out.trans (hb3.mono HB2.out.size))
    clear hb3 HEB HX2 HY2 HB2 z0 z1 z2 z3 z4 z5 z6 z7 z8 z9 z10
    go_wp2_with fail
    go_ret
    exact ⟨rfl, HB3.out⟩
  obtain ⟨b1, b2, b3, b4⟩ := me_ok hEB
  rw [b4] at HEB
  obtain ⟨SB, HSB⟩ := named (⟨(bytesM b).toArray⟩ : ByteArray)
  have hsb : SB.data.toList = bytesM b := by rw [← HSB.out]
  simp only [HSB.out] at HEB
  have HGB := Lib.hid (And.intro b1 (And.intro b2 hsb))
  clear b1 b2 b3 b4 hEB hsb
  by_cases hab : a = b
  · subst hab
    rw [sameM_iff.2 rfl] at HSM
    have hss : SA = SB := HSA.out.symm.trans HSB.out
    subst hss
    have hbb : (SA.toList == SA.toList) = true := by simp
    clear HGA HGB HSA HSB HRA HRB
    go_enter Tryd.func7, Tryd.ntmps7
    go_wp2_with fail
    refine (HW.out _ HB0.out).mono ?_
    rintro e w1 ⟨rfl, hb1⟩
    have HB1 := Lib.hid (HB0.out.trans (hb1.mono HB0.out.size))
    have hx1 := (hb1.block _ (lt_of_block HX0.out)).trans HX0.out
    have HX1 := Lib.hid hx1
    have HY1 := Lib.hid ((hb1.block _ (lt_of_block HY0.out)).trans HY0.out)
    obtain ⟨z0, z1, z2, z3, z4, z5, z6, z7, z8, z9, z10⟩ := cells11 hx1
    clear hb1 hx1 HW HX0 HY0 HB0
    go_wp2_with fail
    refine (HEA.out _ HB1.out).mono ?_
    rintro e w2 ⟨rfl, hb2⟩
    have HB2 := Lib.hid (HB1.out.trans (hb2.mono HB1.out.size))
    have hy2 := (hb2.block _ (lt_of_block HY1.out)).trans HY1.out
    have HY2 := Lib.hid hy2
    have HX2 := Lib.hid ((hb2.block _ (lt_of_block HX1.out)).trans HX1.out)
    clear z0 z1 z2 z3 z4 z5 z6 z7 z8 z9 z10
    obtain ⟨z0, z1, z2, z3, z4, z5, z6, z7, z8, z9, z10⟩ := cells11 hy2
    clear hb2 hy2 HEA HX1 HY1 HB1
    go_wp2_with fail
    refine (HEB.out _ HB2.out).mono ?_
    rintro e w3 ⟨rfl, hb3⟩
    have HB3 := Lib.hid (HB2.out.trans (hb3.mono HB2.out.size))
    have hx3 := (hb3.block _ (lt_of_block HX2.out)).trans HX2.out
    have hy3 := (hb3.block _ (lt_of_block HY2.out)).trans HY2.out
    clear z0 z1 z2 z3 z4 z5 z6 z7 z8 z9 z10
    obtain ⟨z0, z1, z2, z3, z4, z5, z6, z7, z8, z9, z10⟩ := cells11 hx3
    obtain ⟨y0, y1, y2, y3, y4, y5, y6, y7, y8, y9, y10⟩ := cells11 hy3
    clear hb3 HEB HX2 HY2 HB2 hx3 hy3
    go_wp2_with fail
    refine (HSM.out _ HB3.out).mono ?_
    rintro e w4 ⟨rfl, hb4⟩
    have HB4 := Lib.hid (HB3.out.trans (hb4.mono HB3.out.size))
    clear hb4 z0 z1 z2 z3 z4 z5 z6 z7 z8 z9 z10 y0 y1 y2 y3 y4 y5 y6 y7 y8 y9 y10
    go_wp2_with fail
    go_ret
    exact ⟨rfl, HB4.out⟩
  have hsf : sameM a b = false := by rw [Bool.eq_false_iff]; exact fun h => hab (sameM_iff.1 h)
  rw [hsf] at HSM
  have HT : Hid (∀ r q : List UInt8, SA.data.toList ++ r = SB.data.toList ++ q → False) := Lib.hid (fun r q h => hab (bytes_tell HGA.out.1 HGA.out.2.1 HRA.out HGB.out.1 HGB.out.2.1 HRB.out (r := r) (q := q) (by rw [← HGA.out.2.2, ← HGB.out.2.2]; exact h)))
  have hne : (SA.toList == SB.toList) = false := str_ne (fun h => HT.out [] [] (by rw [h]))
  clear HGA HGB HSA HSB HRA HRB hab hsf
  rcases Nat.lt_trichotomy SA.size SB.size with hlt | heq | hgt
  · have h1 : ¬ (SB.size : Int) ≤ SA.size := by omega
    have h2 : (SA.size : Int) ≤ SB.size := by omega
    have hx : (SA.toList == (SB.extract 0 SA.size).toList) = false := str_ne (fun h => HT.out (SB.data.toList.drop SA.size) [] (ext_join h))
    clear HT hlt
    go_enter Tryd.func7, Tryd.ntmps7
    go_wp2_with fail
    refine (HW.out _ HB0.out).mono ?_
    rintro e w1 ⟨rfl, hb1⟩
    have HB1 := Lib.hid (HB0.out.trans (hb1.mono HB0.out.size))
    have hx1 := (hb1.block _ (lt_of_block HX0.out)).trans HX0.out
    have HX1 := Lib.hid hx1
    have HY1 := Lib.hid ((hb1.block _ (lt_of_block HY0.out)).trans HY0.out)
    obtain ⟨z0, z1, z2, z3, z4, z5, z6, z7, z8, z9, z10⟩ := cells11 hx1
    clear hb1 hx1 HW HX0 HY0 HB0
    go_wp2_with fail
    refine (HEA.out _ HB1.out).mono ?_
    rintro e w2 ⟨rfl, hb2⟩
    have HB2 := Lib.hid (HB1.out.trans (hb2.mono HB1.out.size))
    have hy2 := (hb2.block _ (lt_of_block HY1.out)).trans HY1.out
    have HY2 := Lib.hid hy2
    have HX2 := Lib.hid ((hb2.block _ (lt_of_block HX1.out)).trans HX1.out)
    clear z0 z1 z2 z3 z4 z5 z6 z7 z8 z9 z10
    obtain ⟨z0, z1, z2, z3, z4, z5, z6, z7, z8, z9, z10⟩ := cells11 hy2
    clear hb2 hy2 HEA HX1 HY1 HB1
    go_wp2_with fail
    refine (HEB.out _ HB2.out).mono ?_
    rintro e w3 ⟨rfl, hb3⟩
    have HB3 := Lib.hid (HB2.out.trans (hb3.mono HB2.out.size))
    have hx3 := (hb3.block _ (lt_of_block HX2.out)).trans HX2.out
    have hy3 := (hb3.block _ (lt_of_block HY2.out)).trans HY2.out
    clear z0 z1 z2 z3 z4 z5 z6 z7 z8 z9 z10
    obtain ⟨z0, z1, z2, z3, z4, z5, z6, z7, z8, z9, z10⟩ := cells11 hx3
    obtain ⟨y0, y1, y2, y3, y4, y5, y6, y7, y8, y9, y10⟩ := cells11 hy3
    clear hb3 HEB HX2 HY2 HB2 hx3 hy3
    go_wp2_with fail
    refine (HSM.out _ HB3.out).mono ?_
    rintro e w4 ⟨rfl, hb4⟩
    have HB4 := Lib.hid (HB3.out.trans (hb4.mono HB3.out.size))
    clear hb4 z0 z1 z2 z3 z4 z5 z6 z7 z8 z9 z10 y0 y1 y2 y3 y4 y5 y6 y7 y8 y9 y10
    go_wp2_with fail
    go_ret
    exact ⟨rfl, HB4.out⟩
  · have h1 : (SB.size : Int) ≤ SA.size := by omega
    have h2 : (SA.size : Int) ≤ SB.size := by omega
    clear HT
    go_enter Tryd.func7, Tryd.ntmps7
    go_wp2_with fail
    refine (HW.out _ HB0.out).mono ?_
    rintro e w1 ⟨rfl, hb1⟩
    have HB1 := Lib.hid (HB0.out.trans (hb1.mono HB0.out.size))
    have hx1 := (hb1.block _ (lt_of_block HX0.out)).trans HX0.out
    have HX1 := Lib.hid hx1
    have HY1 := Lib.hid ((hb1.block _ (lt_of_block HY0.out)).trans HY0.out)
    obtain ⟨z0, z1, z2, z3, z4, z5, z6, z7, z8, z9, z10⟩ := cells11 hx1
    clear hb1 hx1 HW HX0 HY0 HB0
    go_wp2_with fail
    refine (HEA.out _ HB1.out).mono ?_
    rintro e w2 ⟨rfl, hb2⟩
    have HB2 := Lib.hid (HB1.out.trans (hb2.mono HB1.out.size))
    have hy2 := (hb2.block _ (lt_of_block HY1.out)).trans HY1.out
    have HY2 := Lib.hid hy2
    have HX2 := Lib.hid ((hb2.block _ (lt_of_block HX1.out)).trans HX1.out)
    clear z0 z1 z2 z3 z4 z5 z6 z7 z8 z9 z10
    obtain ⟨z0, z1, z2, z3, z4, z5, z6, z7, z8, z9, z10⟩ := cells11 hy2
    clear hb2 hy2 HEA HX1 HY1 HB1
    go_wp2_with fail
    refine (HEB.out _ HB2.out).mono ?_
    rintro e w3 ⟨rfl, hb3⟩
    have HB3 := Lib.hid (HB2.out.trans (hb3.mono HB2.out.size))
    have hx3 := (hb3.block _ (lt_of_block HX2.out)).trans HX2.out
    have hy3 := (hb3.block _ (lt_of_block HY2.out)).trans HY2.out
    clear z0 z1 z2 z3 z4 z5 z6 z7 z8 z9 z10
    obtain ⟨z0, z1, z2, z3, z4, z5, z6, z7, z8, z9, z10⟩ := cells11 hx3
    obtain ⟨y0, y1, y2, y3, y4, y5, y6, y7, y8, y9, y10⟩ := cells11 hy3
    clear hb3 HEB HX2 HY2 HB2 hx3 hy3
    go_wp2_with fail
    refine (HSM.out _ HB3.out).mono ?_
    rintro e w4 ⟨rfl, hb4⟩
    have HB4 := Lib.hid (HB3.out.trans (hb4.mono HB3.out.size))
    clear hb4 z0 z1 z2 z3 z4 z5 z6 z7 z8 z9 z10 y0 y1 y2 y3 y4 y5 y6 y7 y8 y9 y10
    go_wp2_with fail
    go_ret
    exact ⟨rfl, HB4.out⟩
  · have h1 : (SB.size : Int) ≤ SA.size := by omega
    have h2 : ¬ (SA.size : Int) ≤ SB.size := by omega
    have hx : (SB.toList == (SA.extract 0 SB.size).toList) = false := str_ne (fun h => HT.out [] (SA.data.toList.drop SB.size) (ext_join h).symm)
    clear HT hgt
    go_enter Tryd.func7, Tryd.ntmps7
    go_wp2_with fail
    refine (HW.out _ HB0.out).mono ?_
    rintro e w1 ⟨rfl, hb1⟩
    have HB1 := Lib.hid (HB0.out.trans (hb1.mono HB0.out.size))
    have hx1 := (hb1.block _ (lt_of_block HX0.out)).trans HX0.out
    have HX1 := Lib.hid hx1
    have HY1 := Lib.hid ((hb1.block _ (lt_of_block HY0.out)).trans HY0.out)
    obtain ⟨z0, z1, z2, z3, z4, z5, z6, z7, z8, z9, z10⟩ := cells11 hx1
    clear hb1 hx1 HW HX0 HY0 HB0
    go_wp2_with fail
    refine (HEA.out _ HB1.out).mono ?_
    rintro e w2 ⟨rfl, hb2⟩
    have HB2 := Lib.hid (HB1.out.trans (hb2.mono HB1.out.size))
    have hy2 := (hb2.block _ (lt_of_block HY1.out)).trans HY1.out
    have HY2 := Lib.hid hy2
    have HX2 := Lib.hid ((hb2.block _ (lt_of_block HX1.out)).trans HX1.out)
    clear z0 z1 z2 z3 z4 z5 z6 z7 z8 z9 z10
    obtain ⟨z0, z1, z2, z3, z4, z5, z6, z7, z8, z9, z10⟩ := cells11 hy2
    clear hb2 hy2 HEA HX1 HY1 HB1
    go_wp2_with fail
    refine (HEB.out _ HB2.out).mono ?_
    rintro e w3 ⟨rfl, hb3⟩
    have HB3 := Lib.hid (HB2.out.trans (hb3.mono HB2.out.size))
    have hx3 := (hb3.block _ (lt_of_block HX2.out)).trans HX2.out
    have hy3 := (hb3.block _ (lt_of_block HY2.out)).trans HY2.out
    clear z0 z1 z2 z3 z4 z5 z6 z7 z8 z9 z10
    obtain ⟨z0, z1, z2, z3, z4, z5, z6, z7, z8, z9, z10⟩ := cells11 hx3
    obtain ⟨y0, y1, y2, y3, y4, y5, y6, y7, y8, y9, y10⟩ := cells11 hy3
    clear hb3 HEB HX2 HY2 HB2 hx3 hy3
    go_wp2_with fail
    refine (HSM.out _ HB3.out).mono ?_
    rintro e w4 ⟨rfl, hb4⟩
    have HB4 := Lib.hid (HB3.out.trans (hb4.mono HB3.out.size))
    clear hb4 z0 z1 z2 z3 z4 z5 z6 z7 z8 z9 z10 y0 y1 y2 y3 y4 y5 y6 y7 y8 y9 y10
    go_wp2_with fail
    go_ret
    exact ⟨rfl, HB4.out⟩
end Go.Proofs.YtchmiiclogmheaaDoor.C2
