/-
  Contract of mess.Encode.
-/
import Derived.Test.YtchmiiclogmheaaDoorMa2
import Derived.Test.YtchmiiclogmheaaDoorMe10
namespace Go.Proofs.YtchmiiclogmheaaDoor.C2
open Go.RowKit
set_option maxRecDepth 100000 in
set_option maxHeartbeats 6400000 in
theorem encodeM_any (m : MM) (p : Ad) (w : World) (hF : Flds w) (hm : MsIn w m p) (hr : Rng m) (hl : m.ms.length ≤ 140737488351232) :
    Calls Tryd.prog 9 #[.agg (msC m p)] w fun e w' => e = .returned (encV (mE m)) ∧ Below w.heap.size w w' := by
  have hb0 : Below w.heap.size w (w.alloc (.cells (msC m p) 26)) := (Below.refl _ _).alloc (Nat.le_refl _) _
  have HB0 := Lib.hid hb0
  have HX0 := Lib.hid (heap_top w (.cells (msC m p) 26))
  have HL := Lib.hid (hasLong_any m p _ (hm.ms.on hb0) hl)
  have HM := Lib.hid (fun W (hW : Below w.heap.size w W) => mayBe_any m p W (hF.on hW (Nat.le_refl _)) (hm.ms.on hW) hl)
  have HLE := Lib.hid (fun W (hW : Below w.heap.size w W) (hn : longM m = false) => least_any m p W (hm.ms.on hW) hn)
  have HI := Lib.hid (fun W (hW : Below w.heap.size w W) (hk : Fine m) => itemOf_any m p W (hF.on hW (Nat.le_refl _)) (hm.on hW) hk)
  have HFI := Lib.hid (fun (h1 : longM m = false) (h2 : mayB m = true) => fine_of hr h1 h2)
  have HME : Hid (mE m = if longM m = true then ([], 2) else if mayB m = false then ([], 200) else if 262144 < (bytesM m).length then ([], 2) else (bytesM m, 0)) := Lib.hid rfl
  rw [HME.out]
  have HLL := Lib.hid (fun h => least_le (m := m) h)
  clear hb0 hF hm hr hl HME
  unfold msC at *
  have hx0 := HX0.out
  obtain ⟨z0, z1, z2, z3, z4, z5, z6, z7, z8, z9, z10⟩ := cells11 hx0
  clear hx0
  by_cases c1 : longM m = true
  · rw [c1] at HL
    rw [if_pos c1]
    clear HM HLE HI HFI HLL c1
    go_enter Tryd.func9, Tryd.ntmps9
    go_wp2_with fail
    refine HL.out.mono ?_
    rintro e w2 ⟨rfl, hb2⟩
    have HB2 := Lib.hid (HB0.out.trans (hb2.mono HB0.out.size))
    clear hb2 HL z0 z1 z2 z3 z4 z5 z6 z7 z8 z9 z10
    go_wp2_with fail
    go_ret2
    exact ⟨rfl, HB2.out⟩
  · have c1' : longM m = false := by simpa using c1
    rw [c1'] at HL
    rw [if_neg c1]
    by_cases c2 : mayB m = false
    · rw [c2] at HM
      rw [if_pos c2]
      clear HLE HI HFI HLL c1 c1' c2
      go_enter Tryd.func9, Tryd.ntmps9
      go_wp2_with fail
      refine HL.out.mono ?_
      rintro e w2 ⟨rfl, hb2⟩
      have HB2 := Lib.hid (HB0.out.trans (hb2.mono HB0.out.size))
      have hx2 := (hb2.block _ (lt_of_block HX0.out)).trans HX0.out
      clear hb2 HL z0 z1 z2 z3 z4 z5 z6 z7 z8 z9 z10
      obtain ⟨z0, z1, z2, z3, z4, z5, z6, z7, z8, z9, z10⟩ := cells11 hx2
      clear hx2
      go_wp2_with fail
      refine (HM.out w2 HB2.out).mono ?_
      rintro e w3 ⟨rfl, hb3⟩
      have HB3 := Lib.hid (HB2.out.trans (hb3.mono HB2.out.size))
      clear hb3 HM z0 z1 z2 z3 z4 z5 z6 z7 z8 z9 z10
      go_wp2_with fail
      go_ret2
      exact ⟨rfl, HB3.out⟩
    · have c2' : mayB m = true := by simpa using c2
      rw [c2'] at HM
      rw [if_neg c2]
      have hle := HLL.out c2'
      have HFN := Lib.hid (HFI.out c1' c2')
      have HLE2 := Lib.hid (fun W hW => HLE.out W hW c1')
      clear HLE HLL HFI c1 c1' c2 c2'
      obtain ⟨N, hN⟩ := named (leastN m)
      obtain ⟨BY, hBY⟩ := named (bytesM m)
      rw [hN.out] at hle HLE2
      rw [hBY.out] at hle ⊢
      obtain ⟨R, HR⟩ := named (if 262144 < BY.length then (([], 2) : List UInt8 × Int) else (BY, 0))
      rw [HR.out]
      obtain ⟨SB, CE, hSC⟩ : ∃ SB CE, Hid (encV R = .tuple #[.string SB, .int .i64 CE]) := ⟨_, _, Lib.hid rfl⟩
      go_enter Tryd.func9, Tryd.ntmps9
      go_wp2_with fail
      refine HL.out.mono ?_
      rintro e w2 ⟨rfl, hb2⟩
      have HB2 := Lib.hid (HB0.out.trans (hb2.mono HB0.out.size))
      have hx2 := (hb2.block _ (lt_of_block HX0.out)).trans HX0.out
      have HX2 := Lib.hid hx2
      clear hb2 HL z0 z1 z2 z3 z4 z5 z6 z7 z8 z9 z10
      obtain ⟨z0, z1, z2, z3, z4, z5, z6, z7, z8, z9, z10⟩ := cells11 hx2
      clear hx2
      go_wp2_with fail
      refine (HM.out w2 HB2.out).mono ?_
      rintro e w3 ⟨rfl, hb3⟩
      have HB3 := Lib.hid (HB2.out.trans (hb3.mono HB2.out.size))
      have hx3 := (hb3.block _ (lt_of_block HX2.out)).trans HX2.out
      have HX3 := Lib.hid hx3
      clear hb3 HM z0 z1 z2 z3 z4 z5 z6 z7 z8 z9 z10
      obtain ⟨z0, z1, z2, z3, z4, z5, z6, z7, z8, z9, z10⟩ := cells11 hx3
      clear hx3
      go_wp2_with fail
      refine (HLE2.out w3 HB3.out).mono ?_
      rintro e w4 ⟨rfl, hb4⟩
      have HB4 := Lib.hid (HB3.out.trans (hb4.mono HB3.out.size))
      have hx4 := (hb4.block _ (lt_of_block HX3.out)).trans HX3.out
      clear hb4 HLE2 z0 z1 z2 z3 z4 z5 z6 z7 z8 z9 z10
      by_cases c3 : 262144 < N
      · have HRc : Hid (R = ([], 2)) := Lib.hid (by rw [← HR.out, if_pos (by omega)])
        have c3' : (262144 : Int) < (N : Int) := by omega
        clear hx4 hSC
        go_wp2_with fail
        go_ret2
        exact ⟨by rw [HRc.out]; rfl, HB4.out⟩
      · have c3' : ¬ (262144 : Int) < (N : Int) := by omega
        obtain ⟨z0, z1, z2, z3, z4, z5, z6, z7, z8, z9, z10⟩ := cells11 hx4
        clear hx4
        go_wp2_with fail
        refine (HI.out w4 HB4.out HFN.out).mono ?_
        rintro e w5 ⟨t, rfl, ht, hin, hb5⟩
        have HB5 := Lib.hid (HB4.out.trans (hb5.mono HB4.out.size))
        have HE := Lib.hid (encode_any t w5 (hin 8).inF)
        have HT : Hid (encD t = if 262144 < BY.length then ([], 2) else (BY, 0)) := Lib.hid (by
          rw [encD_eq, (okk_msg HFN.out ht).wrong, bytes_of ht, hBY.out]
          simp)
        rw [HT.out, HR.out, hSC.out] at HE
        clear hin hb5 ht HI z0 z1 z2 z3 z4 z5 z6 z7 z8 z9 z10
        unfold T.val at HE ⊢
        go_wp2_with fail
        refine HE.out.mono ?_
        rintro e w6 ⟨rfl, hb6⟩
        have HB6 := Lib.hid (HB5.out.trans (hb6.mono HB5.out.size))
        clear hb6 HE
        go_wp2_with fail
        go_ret2
        exact ⟨by rw [hSC.out]; rfl, HB6.out⟩
end Go.Proofs.YtchmiiclogmheaaDoor.C2
