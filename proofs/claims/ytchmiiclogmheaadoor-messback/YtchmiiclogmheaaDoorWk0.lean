/-
  The chapter's example.
-/
import Derived.Test.YtchmiiclogmheaaDoorRd9
import Derived.Test.YtchmiiclogmheaaDoorMe11
import Derived.Test.YtchmiiclogmheaaDoorSm3
namespace Go.Proofs.YtchmiiclogmheaaDoor.C2
open Go.RowKit
def exM : MM := ⟨2, 1, 2, 3, 0, 0, 0, 0, [], [], [0, 18446744073709551615]⟩
theorem exM_rng : Rng exM := by
  refine ⟨(fun j hj => by cases hj), fun j hj => ?_, (fun j hj => by cases hj)⟩
  have hj : j < 2 := hj
  have : j = 0 ∨ j = 1 := by omega
  rcases this with rfl | rfl
  · show (0 : Int) ≤ 0 ∧ (0 : Int) ≤ _
    omega
  · show (0 : Int) ≤ 18446744073709551615 ∧ (18446744073709551615 : Int) ≤ 18446744073709551615
    omega
theorem exM_may : mayB exM = true := by decide
theorem exM_long : longM exM = false := by decide
theorem exM_len : (bytesM exM).length = 25 := by decide +kernel
theorem exM_fit : Fit exM := ⟨by decide, by decide, by decide, fun j hj => by cases hj⟩
theorem exM_mE : mE exM = (bytesM exM, 0) := by
  unfold mE
  rw [exM_long, exM_may, if_neg (by decide), if_neg (by decide), if_neg (by rw [exM_len]; omega)]
/-- The bytes 1, 5 are a number's. -/
theorem dec_five {e : Ending} {w' : World} (h : DcO ⟨#[1, 5]⟩ e w') : e = .returned (.tuple #[.agg (msC (mz 0) adz), .agg #[.int .i64 0, .int .i64 200]]) := by
  rcases h with ⟨a, c, _, rfl, h⟩ | ⟨M, p, _, _, h2, h3, h4, h5, _⟩
  · have hk : Okk 8 (nT 5) := okk_num (by omega) (by omega)
    obtain ⟨rfl, rfl, _⟩ := h (nT 5) hk (by decide +kernel) (by decide +kernel)
    rfl
  · have e : bytesM M = _ := enc_list 7 none 0 (nT M.kd :: (fK M).map (pF M))
    rw [e] at h5
    cases h5
theorem ex_in {W : World} {b : Nat} (h : W.heap[b]? = some (.cells #[.int .u64 0, .int .u64 18446744073709551615] 40 (0, 0))) : MsIn W exM ⟨none, 0, none, 0, some ⟨b, 0, none⟩, 2⟩ := by
  refine ⟨Or.inl rfl, Or.inl rfl, Or.inr ⟨b, 0, rfl, lt_of_block h, fun j hj => ?_⟩⟩
  obtain ⟨⟨h0, h1⟩, _⟩ := two_cells h
  have hj : j < 2 := hj
  have : j = 0 ∨ j = 1 := by omega
  rcases this with rfl | rfl
  · exact h0
  · exact h1
set_option maxRecDepth 100000 in
set_option maxHeartbeats 6400000 in
theorem works_any (w : World) (hF : Flds w) : Calls Tryd.prog 13 #[] w fun e w' => e = .returned (.bool true) ∧ Below w.heap.size w w' := by
  have hb0 : Below w.heap.size w (w.alloc (.cells #[.int .u64 0, .int .u64 18446744073709551615] 40)) := (Below.refl _ _).alloc (Nat.le_refl _) _
  have hx0 := heap_top w (.cells #[.int .u64 0, .int .u64 18446744073709551615] 40)
  have HX0 := Lib.hid hx0
  have HFL := Lib.hid (fun W (hW : Below w.heap.size w W) => hF.on hW (Nat.le_refl _))
  have hb1 := hb0.alloc (o := .cells #[.int .i64 2, .int .i64 1, .int .i64 2, .int .i64 3, .int .i64 0, .int .i64 0, .int .i64 0, .int .i64 0, .slice none 0 0, .slice none 0 0, .slice (some ⟨w.heap.size, 0, none⟩) 2 2] 26) (by simp)
  have HB1 := Lib.hid hb1
  clear hb0 hx0 hF
  go_enter Tryd.func13, Tryd.ntmps13
  go_wp2_with fail
  have HXA := Lib.hid ((Below.heap_alloc (w.alloc (.cells #[.int .u64 0, .int .u64 18446744073709551615] 40)) (.cells #[.int .i64 2, .int .i64 1, .int .i64 2, .int .i64 3, .int .i64 0, .int .i64 0, .int .i64 0, .int .i64 0, .slice none 0 0, .slice none 0 0, .slice (some ⟨w.heap.size, 0, none⟩) 2 2] 26) w.heap.size (by simp)).trans HX0.out)
  have HMB : Hid (((w.alloc (.cells #[.int .u64 0, .int .u64 18446744073709551615] 40)).alloc (.cells #[.int .i64 2, .int .i64 1, .int .i64 2, .int .i64 3, .int .i64 0, .int .i64 0, .int .i64 0, .int .i64 0, .slice none 0 0, .slice none 0 0, .slice (some ⟨w.heap.size, 0, none⟩) 2 2] 26)).heap[w.heap.size + 1]? = some (.cells #[.int .i64 2, .int .i64 1, .int .i64 2, .int .i64 3, .int .i64 0, .int .i64 0, .int .i64 0, .int .i64 0, .slice none 0 0, .slice none 0 0, .slice (some ⟨w.heap.size, 0, none⟩) 2 2] 26)) := by
    have := heap_top (w.alloc (.cells #[.int .u64 0, .int .u64 18446744073709551615] 40)) (.cells #[.int .i64 2, .int .i64 1, .int .i64 2, .int .i64 3, .int .i64 0, .int .i64 0, .int .i64 0, .int .i64 0, .slice none 0 0, .slice none 0 0, .slice (some ⟨w.heap.size, 0, none⟩) 2 2] 26)
    rw [World.size_alloc] at this
    exact this
  generalize hW1 : ((w.alloc (.cells #[.int .u64 0, .int .u64 18446744073709551615] 40)).alloc (.cells #[.int .i64 2, .int .i64 1, .int .i64 2, .int .i64 3, .int .i64 0, .int .i64 0, .int .i64 0, .int .i64 0, .slice none 0 0, .slice none 0 0, .slice (some ⟨w.heap.size, 0, none⟩) 2 2] 26)) = W1 at *
  have HE := Lib.hid (encodeM_any exM ⟨none, 0, none, 0, some ⟨w.heap.size, 0, none⟩, 2⟩ W1 (HFL.out _ HB1.out) (ex_in HXA.out) exM_rng (by decide))
  rw [exM_mE] at HE
  obtain ⟨SB, hSB⟩ : ∃ SB, Hid ((⟨(bytesM exM).toArray⟩ : ByteArray) = SB) := ⟨_, Lib.hid rfl⟩
  have HSZ : Hid (SB.size = 25) := Lib.hid (by rw [← hSB.out]; show (bytesM exM).toArray.size = 25; rw [List.size_toArray, exM_len])
  have HBL : Hid (bytesM exM = SB.data.toList) := Lib.hid (by rw [← hSB.out])
  have HEV : Hid (encV (bytesM exM, 0) = .tuple #[.string SB, .int .i64 0]) := Lib.hid (by rw [← hSB.out]; rfl)
  rw [HEV.out] at HE
  clear hSB HEV hb1
  refine HE.out.mono ?_
  rintro e w2 ⟨rfl, hb2⟩
  have HB2 := Lib.hid (HB1.out.trans (hb2.mono HB1.out.size))
  have HX2 := Lib.hid ((hb2.block _ (lt_of_block HXA.out)).trans HXA.out)
  have HM2 := Lib.hid ((hb2.block _ (lt_of_block HMB.out)).trans HMB.out)
  have HD := Lib.hid (decodeM_any SB (by rw [HSZ.out]; omega) w2 (HFL.out _ HB2.out))
  clear hb2 HE HXA HMB HX0 HB1 hW1
  go_wp2_with fail
  refine HD.out.mono ?_
  rintro e w3 ⟨hd, hb3⟩
  obtain ⟨q, rfl, hin⟩ := hd.msg exM_may exM_long exM_rng (by rw [exM_len]; omega) HBL.out
  have HI := Lib.hid hin
  have HB3 := Lib.hid (HB2.out.trans (hb3.mono HB2.out.size))
  have HX3 := Lib.hid ((hb3.block _ (lt_of_block HX2.out)).trans HX2.out)
  have HM3 := Lib.hid ((hb3.block _ (lt_of_block HM2.out)).trans HM2.out)
  clear hd hin hb3 HD HX2 HM2 HB2 HBL
  unfold msC
  go_wp2_with fail
  have hb4 : Below w3.heap.size w3 ((w3.alloc (.cells #[.int .i64 exM.kd, .int .i64 exM.ep, .int .i64 exM.lv, .int .i64 exM.ce, .int .i64 exM.qu, .int .i64 exM.ve, .int .i64 exM.ot, .int .i64 exM.bk, .slice q.wa exM.ws.length q.wc, .slice q.ma exM.ms.length q.mc, .slice q.da exM.ds.length q.dc] 26)).alloc (.cells #[.int .i64 0, .int .i64 0] 35)) := ((Below.refl _ _).alloc (Nat.le_refl _) _).alloc (by simp) _
  have HB4 := Lib.hid (HB3.out.trans (hb4.mono HB3.out.size))
  have HX4 := Lib.hid ((hb4.block _ (lt_of_block HX3.out)).trans HX3.out)
  have HM4 := Lib.hid ((hb4.block _ (lt_of_block HM3.out)).trans HM3.out)
  have HI4 := Lib.hid (HI.out.on hb4)
  have HA4 : Hid (((w3.alloc (.cells #[.int .i64 exM.kd, .int .i64 exM.ep, .int .i64 exM.lv, .int .i64 exM.ce, .int .i64 exM.qu, .int .i64 exM.ve, .int .i64 exM.ot, .int .i64 exM.bk, .slice q.wa exM.ws.length q.wc, .slice q.ma exM.ms.length q.mc, .slice q.da exM.ds.length q.dc] 26)).alloc (.cells #[.int .i64 0, .int .i64 0] 35)).heap[w3.heap.size]? = some (.cells #[.int .i64 exM.kd, .int .i64 exM.ep, .int .i64 exM.lv, .int .i64 exM.ce, .int .i64 exM.qu, .int .i64 exM.ve, .int .i64 exM.ot, .int .i64 exM.bk, .slice q.wa exM.ws.length q.wc, .slice q.ma exM.ms.length q.mc, .slice q.da exM.ds.length q.dc] 26)) := Lib.hid ((Below.heap_alloc _ _ _ (by simp)).trans (heap_top w3 (.cells #[.int .i64 exM.kd, .int .i64 exM.ep, .int .i64 exM.lv, .int .i64 exM.ce, .int .i64 exM.qu, .int .i64 exM.ve, .int .i64 exM.ot, .int .i64 exM.bk, .slice q.wa exM.ws.length q.wc, .slice q.ma exM.ms.length q.mc, .slice q.da exM.ds.length q.dc] 26)))
  have HF4 : Hid (((w3.alloc (.cells #[.int .i64 exM.kd, .int .i64 exM.ep, .int .i64 exM.lv, .int .i64 exM.ce, .int .i64 exM.qu, .int .i64 exM.ve, .int .i64 exM.ot, .int .i64 exM.bk, .slice q.wa exM.ws.length q.wc, .slice q.ma exM.ms.length q.mc, .slice q.da exM.ds.length q.dc] 26)).alloc (.cells #[.int .i64 0, .int .i64 0] 35)).heap[w3.heap.size + 1]? = some (.cells #[.int .i64 0, .int .i64 0] 35)) := by
    have := heap_top (w3.alloc (.cells #[.int .i64 exM.kd, .int .i64 exM.ep, .int .i64 exM.lv, .int .i64 exM.ce, .int .i64 exM.qu, .int .i64 exM.ve, .int .i64 exM.ot, .int .i64 exM.bk, .slice q.wa exM.ws.length q.wc, .slice q.ma exM.ms.length q.mc, .slice q.da exM.ds.length q.dc] 26)) (.cells #[.int .i64 0, .int .i64 0] 35)
    rw [World.size_alloc] at this
    exact this
  have HD2 := Lib.hid (decodeM_any ⟨#[1, 5]⟩ (by decide) ((w3.alloc (.cells #[.int .i64 exM.kd, .int .i64 exM.ep, .int .i64 exM.lv, .int .i64 exM.ce, .int .i64 exM.qu, .int .i64 exM.ve, .int .i64 exM.ot, .int .i64 exM.bk, .slice q.wa exM.ws.length q.wc, .slice q.ma exM.ms.length q.mc, .slice q.da exM.ds.length q.dc] 26)).alloc (.cells #[.int .i64 0, .int .i64 0] 35)) (HFL.out _ HB4.out))
  clear hb4 HX3 HM3 HI
  generalize ((w3.alloc (.cells #[.int .i64 exM.kd, .int .i64 exM.ep, .int .i64 exM.lv, .int .i64 exM.ce, .int .i64 exM.qu, .int .i64 exM.ve, .int .i64 exM.ot, .int .i64 exM.bk, .slice q.wa exM.ws.length q.wc, .slice q.ma exM.ms.length q.mc, .slice q.da exM.ds.length q.dc] 26)).alloc (.cells #[.int .i64 0, .int .i64 0] 35)) = W4 at *
  generalize w3.heap.size = xb at *
  refine HD2.out.mono ?_
  rintro e w5 ⟨hd, hb5⟩
  obtain rfl := dec_five hd
  have HB5 := Lib.hid (HB4.out.trans (hb5.mono HB4.out.size))
  have HX5 := Lib.hid ((hb5.block _ (lt_of_block HX4.out)).trans HX4.out)
  have HM5 := Lib.hid ((hb5.block _ (lt_of_block HM4.out)).trans HM4.out)
  have HA5 := Lib.hid ((hb5.block _ (lt_of_block HA4.out)).trans HA4.out)
  have HF5 := Lib.hid ((hb5.block _ (lt_of_block HF4.out)).trans HF4.out)
  have HI5 := Lib.hid (HI4.out.on hb5)
  clear hd hb5 HD2 HX4 HM4 HA4 HF4 HI4 HB4 HB3
  unfold msC mz adz
  have hb6 : Below w5.heap.size w5 ((w5.alloc (.cells #[.int .i64 0, .int .i64 0, .int .i64 0, .int .i64 0, .int .i64 0, .int .i64 0, .int .i64 0, .int .i64 0, .slice none 0 0, .slice none 0 0, .slice none 0 0] 26)).alloc (.cells #[.int .i64 0, .int .i64 200] 35)) := ((Below.refl _ _).alloc (Nat.le_refl _) _).alloc (by simp) _
  have HB6 := Lib.hid (HB5.out.trans (hb6.mono HB5.out.size))
  have hx6 := (hb6.block _ (lt_of_block HX5.out)).trans HX5.out
  have hm6 := (hb6.block _ (lt_of_block HM5.out)).trans HM5.out
  have ha6 := (hb6.block _ (lt_of_block HA5.out)).trans HA5.out
  have hf6 := (hb6.block _ (lt_of_block HF5.out)).trans HF5.out
  have hg6 : ((w5.alloc (.cells #[.int .i64 0, .int .i64 0, .int .i64 0, .int .i64 0, .int .i64 0, .int .i64 0, .int .i64 0, .int .i64 0, .slice none 0 0, .slice none 0 0, .slice none 0 0] 26)).alloc (.cells #[.int .i64 0, .int .i64 200] 35)).heap[w5.heap.size + 1]? = some (.cells #[.int .i64 0, .int .i64 200] 35) := by
    have := heap_top (w5.alloc (.cells #[.int .i64 0, .int .i64 0, .int .i64 0, .int .i64 0, .int .i64 0, .int .i64 0, .int .i64 0, .int .i64 0, .slice none 0 0, .slice none 0 0, .slice none 0 0] 26)) (.cells #[.int .i64 0, .int .i64 200] 35)
    rw [World.size_alloc] at this
    exact this
  have HG6 := Lib.hid hg6
  have HSM : Hid (Calls Tryd.prog 12 #[.agg (msC exM q), .agg (msC exM ⟨none, 0, none, 0, some ⟨w.heap.size, 0, none⟩, 2⟩)] ((w5.alloc (.cells #[.int .i64 0, .int .i64 0, .int .i64 0, .int .i64 0, .int .i64 0, .int .i64 0, .int .i64 0, .int .i64 0, .slice none 0 0, .slice none 0 0, .slice none 0 0] 26)).alloc (.cells #[.int .i64 0, .int .i64 200] 35)) fun e w' => e = .returned (.bool (sameM exM exM)) ∧ Below ((w5.alloc (.cells #[.int .i64 0, .int .i64 0, .int .i64 0, .int .i64 0, .int .i64 0, .int .i64 0, .int .i64 0, .int .i64 0, .slice none 0 0, .slice none 0 0, .slice none 0 0] 26)).alloc (.cells #[.int .i64 0, .int .i64 200] 35)).heap.size ((w5.alloc (.cells #[.int .i64 0, .int .i64 0, .int .i64 0, .int .i64 0, .int .i64 0, .int .i64 0, .int .i64 0, .int .i64 0, .slice none 0 0, .slice none 0 0, .slice none 0 0] 26)).alloc (.cells #[.int .i64 0, .int .i64 200] 35)) w') := Lib.hid (sameMsg_any exM exM q ⟨none, 0, none, 0, some ⟨w.heap.size, 0, none⟩, 2⟩ ((w5.alloc (.cells #[.int .i64 0, .int .i64 0, .int .i64 0, .int .i64 0, .int .i64 0, .int .i64 0, .int .i64 0, .int .i64 0, .slice none 0 0, .slice none 0 0, .slice none 0 0] 26)).alloc (.cells #[.int .i64 0, .int .i64 200] 35)) (HI5.out.on hb6) (ex_in hx6) exM_fit exM_fit)
  rw [sameM_iff.2 rfl] at HSM
  obtain ⟨a0, a1, a2, a3, a4, a5, a6, a7, a8, a9, a10⟩ := cells11 ha6
  obtain ⟨m0, m1, m2, m3, m4, m5, m6, m7, m8, m9, m10⟩ := cells11 hm6
  obtain ⟨⟨f0, f1⟩, _⟩ := two_cells hf6
  obtain ⟨⟨g0, g1⟩, _⟩ := two_cells hg6
  have hsz : ((SB.size : Int) == 25) = true := by rw [HSZ.out]; rfl
  clear hx6 hm6 ha6 hf6 hg6 hb6 HX5 HM5 HA5 HF5 HI5
  go_wp2_with fail
  refine HSM.out.mono ?_
  rintro e w7 ⟨rfl, hb7⟩
  obtain ⟨⟨g0, g1⟩, _⟩ := two_cells ((hb7.block _ (lt_of_block HG6.out)).trans HG6.out)
  have HB7 := Lib.hid (HB6.out.trans (hb7.mono HB6.out.size))
  clear hb7 HSM HG6 HB6
  go_wp2_with fail
  go_ret
  exact ⟨rfl, HB7.out⟩
end Go.Proofs.YtchmiiclogmheaaDoor.C2
