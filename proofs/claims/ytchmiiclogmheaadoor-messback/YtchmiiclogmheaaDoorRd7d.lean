/-
  Reading a message: the call.
-/
import Derived.Test.YtchmiiclogmheaaDoorRd6
import Derived.Test.YtchmiiclogmheaaDoorMa2
namespace Go.Proofs.YtchmiiclogmheaaDoor.C2
open Go.RowKit
set_option maxRecDepth 100000 in
set_option maxHeartbeats 12800000 in
theorem messageOf_yes (t : T) (w : World) (hF : Flds w) (h : ∀ f, InF w f t) (hl : 0 < t.l.length) (hSM : ∀ j, j < t.l.length → Small (t.m j)) (hO : okS (t.m 0) 1073741824 = true) (hK : isKB (t.m 0).n = true) (hN : t.l.length = 1 + (fl (t.m 0).n.toNat).length) : Calls Tryd.prog 38 #[t.val] w fun e w' => MgR w.heap.size t e w' ∧ Below w.heap.size w w' := by
  unfold MgR
  obtain ⟨b, o, ha, hat0⟩ := (h 1).2.1 hl
  have hat : ∀ j, j < t.l.length → (t.m j).at w b (o + j * 4) := fun j hj => by rw [← T.m_eq t j hj]; exact hat0 j hj
  have hb : b < w.heap.size := World.block_lt_of_cell? w _ (hat 0 hl).1
  have hI : ∀ j, j < t.l.length → ∀ f, InF w f (t.m j) := fun j hj f => (h (f + 1)).mem hj
  have HAT := Lib.hid (fun (j : Nat) (hj : j < t.l.length) (W : World) (hW : Below w.heap.size w W) => (hat j hj).on hW)
  have hi0 := (hI 0 hl 1).1
  have HSM : Hid (∀ W, Calls Tryd.prog 64 #[.agg #[.int .i64 (t.m 0).k, .int .u64 (t.m 0).n, .string (t.m 0).s, .slice (t.m 0).a (t.m 0).l.length (t.m 0).cap], .int .i64 1073741824] W fun e w' => e = .returned (.tuple #[.int .i64 (if okS (t.m 0) 1073741824 = true then (t.m 0).n else 0), .bool (okS (t.m 0) 1073741824)]) ∧ Below W.heap.size W w') := Lib.hid (fun W => small_any (t.m 0) _ W hi0.1 hi0.2.1 (by omega) (by omega))
  have hn0 : 0 ≤ (t.m 0).n := hi0.1
  have HV : Hid (t.val = .agg #[.int .i64 t.k, .int .u64 t.n, .string t.s, .slice (some ⟨b, o, none⟩) t.l.length t.cap]) := Lib.hid (by unfold T.val; rw [ha])
  rw [HV.out]
  have HFL := Lib.hid (fun W (hW : Below w.heap.size w W) => hF.on hW (Nat.le_refl _))
  rw [hO, if_pos rfl] at HSM
  have HKK := Lib.hid hK
  have hk4 : 1 ≤ (t.m 0).n ∧ (t.m 0).n ≤ 4 := of_decide_eq_true hK
  obtain ⟨K, hKN⟩ := Int.eq_ofNat_of_zero_le (a := (t.m 0).n) (by omega)
  have hK5 : 1 ≤ K ∧ K ≤ 4 := by omega
  obtain ⟨fb, fo, fc, hc, hcc⟩ := hF.2 K hK5.1 hK5.2
  have HT := Lib.hid (fun (W : World) (hW : Below w.heap.size w W) => (hW.cell (p := ⟨0, K, none⟩) hF.size).trans hc)
  have HTC := Lib.hid (fun (W : World) (hW : Below w.heap.size w W) (j : Nat) (hj : j < (fl K).length) => (hW.cell (p := ⟨fb, fo + j, none⟩) (World.block_lt_of_cell? w _ (hcc j hj))).trans (hcc j hj))
  have hKt : (t.m 0).n.toNat = K := by omega
  have HOM : Hid (okM t = okK (fl K) t (fl K).length) := Lib.hid (by unfold okM; rw [hO, hK, decide_eq_true hl, decide_eq_true hN, hKt]; simp)
  have HRM : Hid (RM t = RMk K (fl K) t (fl K).length) := Lib.hid (by unfold RM; rw [hKt, hKN])
  rw [hKt] at hN
  have hlen : (fl K).length ≤ 100 := by
    have : K = 1 ∨ K = 2 ∨ K = 3 ∨ K = 4 := by omega
    rcases this with rfl | rfl | rfl | rfl <;> decide
  have HFE : Hid (∀ j, j < (fl K).length → ∃ f : Nat, (fl K).getD j 0 = (f : Int) ∧ f ≤ 9) := Lib.hid (fun j hj => by
    have hm : (fl K)[j] ∈ fl K := List.getElem_mem _
    obtain ⟨b0, b9⟩ := fl_le _ _ hm
    obtain ⟨f, e⟩ := Int.eq_ofNat_of_zero_le b0
    exact ⟨f, by rw [← e]; simp [List.getD, hj], by omega⟩)
  have HRF : Hid (∀ j, j + 1 < t.l.length → ∀ (W : World) (bb f : Nat) (M : MM) (q : Ad), Below w.heap.size w W → f ≤ 9 → W.heap[bb]? = some (.cells (msC M q) 26) → LsS (bb + 1) W M q → Calls Tryd.prog 65 #[.pointer (some ⟨bb, 0, none⟩), .int .i64 f, .agg #[.int .i64 (t.m (j + 1)).k, .int .u64 (t.m (j + 1)).n, .string (t.m (j + 1)).s, .slice (t.m (j + 1)).a (t.m (j + 1)).l.length (t.m (j + 1)).cap]] W fun e w' => FdO bb f (t.m (j + 1)) M W e w') := Lib.hid (fun j hj W bb f M q hW hf hb hL => readField_any bb f hf (t.m (j + 1)) M q W hb hL (fun g => (hI (j + 1) hj g).on hW) (hSM (j + 1) hj))
  obtain ⟨FL, hFL⟩ := named (fl K).length
  rw [hFL.out] at HT HTC HOM HRM hN hlen HFE
  have hKi : (K : Int) < 5 := by omega
  have HKN := Lib.hid hKN
  have HNE := Lib.hid hN
  clear h hat0 hat hI hi0 hn0 hF hO ha hK hc hcc hk4 hKN hN hKt hSM
  obtain ⟨L, HL⟩ := named t.l.length
  rw [HL.out] at hl HAT ⊢
  have hh : ((w.alloc (.cells #[.int .i64 t.k, .int .u64 t.n, .string t.s, .slice (some ⟨b, o, none⟩) L t.cap] 54)).alloc (.cells #[.int .i64 0, .int .i64 0, .int .i64 0, .int .i64 0, .int .i64 0, .int .i64 0, .int .i64 0, .int .i64 0, .slice none 0 0, .slice none 0 0, .slice none 0 0] 26)).heap[w.heap.size]? = some (.cells #[.int .i64 t.k, .int .u64 t.n, .string t.s, .slice (some ⟨b, o, none⟩) L t.cap] 54) ∧ ((w.alloc (.cells #[.int .i64 t.k, .int .u64 t.n, .string t.s, .slice (some ⟨b, o, none⟩) L t.cap] 54)).alloc (.cells #[.int .i64 0, .int .i64 0, .int .i64 0, .int .i64 0, .int .i64 0, .int .i64 0, .int .i64 0, .int .i64 0, .slice none 0 0, .slice none 0 0, .slice none 0 0] 26)).heap[w.heap.size + 1]? = some (.cells #[.int .i64 0, .int .i64 0, .int .i64 0, .int .i64 0, .int .i64 0, .int .i64 0, .int .i64 0, .int .i64 0, .slice none 0 0, .slice none 0 0, .slice none 0 0] 26) ∧ Below w.heap.size w ((w.alloc (.cells #[.int .i64 t.k, .int .u64 t.n, .string t.s, .slice (some ⟨b, o, none⟩) L t.cap] 54)).alloc (.cells #[.int .i64 0, .int .i64 0, .int .i64 0, .int .i64 0, .int .i64 0, .int .i64 0, .int .i64 0, .int .i64 0, .slice none 0 0, .slice none 0 0, .slice none 0 0] 26)) := by
    refine ⟨?_, ?_, ((Below.refl _ _).alloc (Nat.le_refl _) _).alloc (by simp) _⟩
    · rw [Below.heap_alloc _ _ _ (by simp), heap_top]
    · have := heap_top (w.alloc (.cells #[.int .i64 t.k, .int .u64 t.n, .string t.s, .slice (some ⟨b, o, none⟩) L t.cap] 54)) (.cells #[.int .i64 0, .int .i64 0, .int .i64 0, .int .i64 0, .int .i64 0, .int .i64 0, .int .i64 0, .int .i64 0, .slice none 0 0, .slice none 0 0, .slice none 0 0] 26)
      rw [World.size_alloc] at this
      exact this
  have HX0 := Lib.hid hh.1
  have HR0 := Lib.hid hh.2.1
  have HB0 := Lib.hid hh.2.2
  clear hh HV
  go_enter Tryd.func38, Tryd.ntmps38
  obtain ⟨⟨k0, k1, k2, k3⟩, _⟩ := cells4 HX0.out
  obtain ⟨c0, c1, c2, c3⟩ := at_cells (HAT.out 0 hl _ HB0.out)
  rw [Nat.zero_mul, Nat.add_zero] at c0 c1 c2 c3
  have hlz : ((L : Int) == 0) = false := by simp; omega
  have hl0 : (0 : Int) < (L : Int) := by omega
  have hsz1 : w.heap.size + 1 < ((w.alloc (.cells #[.int .i64 t.k, .int .u64 t.n, .string t.s, .slice (some ⟨b, o, none⟩) L t.cap] 54)).alloc (.cells #[.int .i64 0, .int .i64 0, .int .i64 0, .int .i64 0, .int .i64 0, .int .i64 0, .int .i64 0, .int .i64 0, .slice none 0 0, .slice none 0 0, .slice none 0 0] 26)).heap.size := by simp
  generalize hW1 : ((w.alloc (.cells #[.int .i64 t.k, .int .u64 t.n, .string t.s, .slice (some ⟨b, o, none⟩) L t.cap] 54)).alloc (.cells #[.int .i64 0, .int .i64 0, .int .i64 0, .int .i64 0, .int .i64 0, .int .i64 0, .int .i64 0, .int .i64 0, .slice none 0 0, .slice none 0 0, .slice none 0 0] 26)) = W1 at *
  go_wp2_with fail
  rw [HL.out] at HRF
  refine (HSM.out _).mono ?_
  rintro e w2 ⟨rfl, hb2⟩
  have HB2 := Lib.hid (HB0.out.trans (hb2.mono HB0.out.size))
  have hx2 := (hb2.block _ (by omega)).trans HX0.out
  have hr2 := (hb2.block _ hsz1).trans HR0.out
  have HX2 := Lib.hid hx2
  have HR2 := Lib.hid hr2
  have hsz2 : w.heap.size + 1 < w2.heap.size := by have := hb2.size; omega
  clear hb2 HSM k0 k1 k2 k3 c0 c1 c2 c3 hW1 HX0 HR0 HB0 hsz1
  obtain ⟨⟨k0, k1, k2, k3⟩, _⟩ := cells4 hx2
  obtain ⟨z0, z1, z2, z3, z4, z5, z6, z7, z8, z9, z10⟩ := cells11 hr2
  obtain ⟨f0, f1, f2, f3, f4, f5, f6, f7, f8, f9, f10⟩ := cells11f hr2
  clear hx2 hr2
  have HIK : Hid (∀ W, Below w2.heap.size w2 W → Calls Tryd.prog 46 #[.int .i64 (t.m 0).n] W fun e w' => e = .returned (.bool (isKB (t.m 0).n)) ∧ w' = W) := Lib.hid (fun W hW => isKind_any (t.m 0).n W ((HFL.out w2 HB2.out).on hW (by have := (HFL.out w2 HB2.out).size; omega)))
  rw [HKK.out] at HIK
  have t0 := HT.out w2 HB2.out
  have hkk := HKN.out
  have hLF : L = 1 + FL := by rw [← HL.out]; exact HNE.out
  have hne : ((L : Int) != 1 + (FL : Int)) = false := by simp; omega
  clear HKK HFL HKN HNE
  obtain ⟨kd, hkd⟩ := named (t.m 0).n
  rw [hkd.out] at HIK hkk ⊢
  subst hkk
  go_wp2_with fail
  go_quiet ((go_at_call 46; exact Calls.quiet_of_same (HIK.out _ (by first | exact Below.refl _ _ | exact below_drewN _ _ _ | exact (Below.refl _ _).drew))))
  have hsd := ((below_drewN w2.heap.size w2 nq).block _ hsz2).trans HR2.out
  have hxd := ((below_drewN w2.heap.size w2 nq).block _ (by omega)).trans HX2.out
  have hbd := HB2.out.trans (below_drewN w.heap.size w2 nq)
  have hszd : w.heap.size + 1 < (w2.drewN nq).heap.size := lt_of_block hsd
  have t1 := HT.out _ hbd
  have HRD := Lib.hid hsd
  have HXD := Lib.hid hxd
  have HBD := Lib.hid hbd
  clear hsd hxd hbd HX2 HR2 HB2 z0 z1 z2 z3 z4 z5 z6 z7 z8 z9 z10 f0 f1 f2 f3 f4 f5 f6 f7 f8 f9 f10 k0 k1 k2 k3 t0
  generalize w2.drewN nq = W5 at *
  have t1' := HT.out (W5.alloc (.cells #[.int .i64 K, .int .i64 0, .int .i64 0, .int .i64 0, .int .i64 0, .int .i64 0, .int .i64 0, .int .i64 0, .slice none 0 0, .slice none 0 0, .slice none 0 0] 26)) (HBD.out.alloc (by have := HBD.out.size; omega) _)
  have HB6 := Lib.hid (HBD.out.alloc (by have := HBD.out.size; omega : w.heap.size ≤ W5.heap.size) (.cells #[.int .i64 K, .int .i64 0, .int .i64 0, .int .i64 0, .int .i64 0, .int .i64 0, .int .i64 0, .int .i64 0, .slice none 0 0, .slice none 0 0, .slice none 0 0] 26))
  have HX6 := Lib.hid ((Below.heap_alloc W5 (.cells #[.int .i64 K, .int .i64 0, .int .i64 0, .int .i64 0, .int .i64 0, .int .i64 0, .int .i64 0, .int .i64 0, .slice none 0 0, .slice none 0 0, .slice none 0 0] 26) _ (by omega : w.heap.size < W5.heap.size)).trans HXD.out)
  have HR6 := Lib.hid ((Below.heap_alloc W5 (.cells #[.int .i64 K, .int .i64 0, .int .i64 0, .int .i64 0, .int .i64 0, .int .i64 0, .int .i64 0, .int .i64 0, .slice none 0 0, .slice none 0 0, .slice none 0 0] 26) _ hszd).trans HRD.out)
  have HM6 : Hid ((W5.alloc (.cells #[.int .i64 K, .int .i64 0, .int .i64 0, .int .i64 0, .int .i64 0, .int .i64 0, .int .i64 0, .int .i64 0, .slice none 0 0, .slice none 0 0, .slice none 0 0] 26)).heap[W5.heap.size]? = some (.cells (msC (mz K) adz) 26)) := Lib.hid (heap_top W5 (.cells #[.int .i64 K, .int .i64 0, .int .i64 0, .int .i64 0, .int .i64 0, .int .i64 0, .int .i64 0, .int .i64 0, .slice none 0 0, .slice none 0 0, .slice none 0 0] 26))
  have HL6 : Hid (LsS (W5.heap.size + 1) (W5.alloc (.cells #[.int .i64 K, .int .i64 0, .int .i64 0, .int .i64 0, .int .i64 0, .int .i64 0, .int .i64 0, .int .i64 0, .slice none 0 0, .slice none 0 0, .slice none 0 0] 26)) (mz K) adz) := Lib.hid ⟨Or.inl rfl, Or.inl rfl, Or.inl rfl⟩
  clear HXD HRD HBD HIK
  go_wp2_with fail
  generalize hW6 : W5.alloc (.cells #[.int .i64 K, .int .i64 0, .int .i64 0, .int .i64 0, .int .i64 0, .int .i64 0, .int .i64 0, .int .i64 0, .slice none 0 0, .slice none 0 0, .slice none 0 0] 26) = W6 at *
  generalize hbb : W5.heap.size = bb at *
  go_loopw [47] (fun i wr => ∃ (j : Nat) (M : MM) (q : Ad), j ≤ FL ∧ i = .int .i64 j ∧ Hid (M = RMk K (fl K) t j) ∧ Hid (okK (fl K) t j = true) ∧ Hid (wr.heap[bb]? = some (.cells (msC M q) 26)) ∧ Hid (LsS (bb + 1) wr M q) ∧ Hid (wr.heap[w.heap.size]? = some (.cells #[.int .i64 t.k, .int .u64 t.n, .string t.s, .slice (some ⟨b, o, none⟩) L t.cap] 54)) ∧ Hid (wr.heap[w.heap.size + 1]? = some (.cells #[.int .i64 0, .int .i64 0, .int .i64 0, .int .i64 0, .int .i64 0, .int .i64 0, .int .i64 0, .int .i64 0, .slice none 0 0, .slice none 0 0, .slice none 0 0] 26)) ∧ Hid (Below w.heap.size w wr)) (fun i _ => FL - (intOf i).toNat)
  case atStart => exact ⟨0, mz K, adz, by omega, rfl, Lib.hid rfl, Lib.hid rfl, HM6, HL6, HX6, HR6, HB6⟩
  case round =>
    clear HM6 HL6 HX6 HR6 HB6
    obtain ⟨j, M, q, hj, rfl, HMJ, HOK, HMR, HLS, HXR, HRR, HBR⟩ := hrel
    have hbw : bb < wr.heap.size := lt_of_block HMR.out
    by_cases hlt : j < FL
    · have hlt' : (j : Int) < (FL : Int) := by omega
      obtain ⟨f, hf, hf9⟩ := HFE.out j hlt
      have HC := Lib.hid (HRF.out j (by omega) wr bb f M q HBR.out hf9 HMR.out HLS.out)
      have u0 := HTC.out wr HBR.out j hlt
      rw [hf] at u0
      obtain ⟨d0, d1, d2, d3⟩ := at_cells (HAT.out (j + 1) (by omega) wr HBR.out)
      have hoo : o + (1 + j) * 4 = o + (j + 1) * 4 := by omega
      obtain ⟨⟨k0, k1, k2, k3⟩, _⟩ := cells4 HXR.out
      have hj1 : (1 : Int) + (j : Int) < 1 + (FL : Int) := by omega
      have HFD := Lib.hid hf
      generalize hX : t.m (j + 1) = X at *
      have HXE := Lib.hid hX
      clear hX hf HRF HTC HT
      rw [show (j + 1) * 4 = (1 + j) * 4 by omega] at d0 d1 d2 d3
      clear hoo
      go_wp2_with fail
      refine HC.out.mono ?_
      rintro e w3 ⟨⟨M', q', rfl, hM', hY⟩, hot, hbe⟩
      have HM3 := Lib.hid hM'
      have HX3 := Lib.hid ((hot w.heap.size (by omega) (by omega)).trans HXR.out)
      have hr3 := (hot (w.heap.size + 1) (by omega) (by omega)).trans HRR.out
      have HR3 := Lib.hid hr3
      have HB3 := Lib.hid (HBR.out.trans (hbe.mono (by omega : w.heap.size ≤ bb)))
      have HY := Lib.hid hY
      clear hM' hot hbe hY HC k0 k1 k2 k3 d0 d1 d2 d3 u0 HMR HLS HXR HRR
      have HKE : Hid (okF ((fl K).getD j 0).toNat (t.m (j + 1)) = okF f X) := Lib.hid (by rw [HFD.out, HXE.out]; rfl)
      by_cases hO : okF f X = true
      · have hYY := HY.out hO
        have HOK2 := Lib.hid (okK_step HOK.out (by rw [HKE.out]; exact hO))
        have HMJ2 : Hid (M' = RMk K (fl K) t (j + 1)) := Lib.hid (by
          show M' = setF (RMk K (fl K) t j) ((fl K).getD j 0).toNat (t.m (j + 1))
          rw [hYY.1, HFD.out, HXE.out, HMJ.out]
          rfl)
        have HLS2 := Lib.hid hYY.2
        clear hYY hr3
        rw [hO]
        clear hO
        go_wp2_with fail
        exact ⟨⟨j + 1, M', q', by omega, by go_num, HMJ2, HOK2, HM3, HLS2, HX3, HR3, HB3⟩, by simp [intOf]; omega⟩
      · have hO' : okF f X = false := by simpa using hO
        have HNO : Hid (okM t = false) := Lib.hid (by rw [HOM.out]; exact okK_no hlt (by rw [HKE.out]; exact hO'))
        rw [hO']
        clear hO hO' HY
        obtain ⟨z0, z1, z2, z3, z4, z5, z6, z7, z8, z9, z10⟩ := cells11 hr3
        obtain ⟨f0, f1, f2, f3, f4, f5, f6, f7, f8, f9, f10⟩ := cells11f hr3
        clear hr3
        go_wp2_with fail
        have hfin := set11 (b0 := (.int .i64 0)) (b1 := (.int .i64 0)) (b2 := (.int .i64 0)) (b3 := (.int .i64 0)) (b4 := (.int .i64 0)) (b5 := (.int .i64 0)) (b6 := (.int .i64 0)) (b7 := (.int .i64 0)) (b8 := (.slice none 0 0)) (b9 := (.slice none 0 0)) (b10 := (.slice none 0 0)) HR3.out
        have hbel := set11_below (b0 := (.int .i64 0)) (b1 := (.int .i64 0)) (b2 := (.int .i64 0)) (b3 := (.int .i64 0)) (b4 := (.int .i64 0)) (b5 := (.int .i64 0)) (b6 := (.int .i64 0)) (b7 := (.int .i64 0)) (b8 := (.slice none 0 0)) (b9 := (.slice none 0 0)) (b10 := (.slice none 0 0)) HB3.out (by omega : w.heap.size ≤ w.heap.size + 1)
        generalize (((((((((((w3.setCell ⟨w.heap.size + 1, 0, none⟩ (.int .i64 0)).setCell ⟨w.heap.size + 1, 1, none⟩ (.int .i64 0)).setCell ⟨w.heap.size + 1, 2, none⟩ (.int .i64 0)).setCell ⟨w.heap.size + 1, 3, none⟩ (.int .i64 0)).setCell ⟨w.heap.size + 1, 4, none⟩ (.int .i64 0)).setCell ⟨w.heap.size + 1, 5, none⟩ (.int .i64 0)).setCell ⟨w.heap.size + 1, 6, none⟩ (.int .i64 0)).setCell ⟨w.heap.size + 1, 7, none⟩ (.int .i64 0)).setCell ⟨w.heap.size + 1, 8, none⟩ (.slice none 0 0)).setCell ⟨w.heap.size + 1, 9, none⟩ (.slice none 0 0)).setCell ⟨w.heap.size + 1, 10, none⟩ (.slice none 0 0)) = W4 at *
        obtain ⟨y0, y1, y2, y3, y4, y5, y6, y7, y8, y9, y10⟩ := cells11 hfin
        exact bodyPost_ret (v := noV) (by simp [results, Tryd.results38, go_sem, y0, y1, y2, y3, y4, y5, y6, y7, y8, y9, y10, noV, msC, mz, adz]) rfl ⟨⟨(fun h => by rw [HNO.out] at h; cases h), fun _ => rfl⟩, hbel⟩
    · have hlt' : ¬ (j : Int) < (FL : Int) := by omega
      obtain rfl : j = FL := by omega
      have hmr := HMR.out
      unfold msC at hmr
      obtain ⟨m0, m1, m2, m3, m4, m5, m6, m7, m8, m9, m10⟩ := cells11 hmr
      clear hmr
      have hrr := HRR.out
      obtain ⟨z0, z1, z2, z3, z4, z5, z6, z7, z8, z9, z10⟩ := cells11 hrr
      obtain ⟨f0, f1, f2, f3, f4, f5, f6, f7, f8, f9, f10⟩ := cells11f hrr
      clear hrr HRF HTC HT HFE HAT
      have hMe := HMJ.out.symm
      have HME := Lib.hid hMe
      clear hMe
      go_wp2_with fail
      have hMe := HME.out
      have hfin := set11 (b0 := (.int .i64 M.kd)) (b1 := (.int .i64 M.ep)) (b2 := (.int .i64 M.lv)) (b3 := (.int .i64 M.ce)) (b4 := (.int .i64 M.qu)) (b5 := (.int .i64 M.ve)) (b6 := (.int .i64 M.ot)) (b7 := (.int .i64 M.bk)) (b8 := (.slice q.wa M.ws.length q.wc)) (b9 := (.slice q.ma M.ms.length q.mc)) (b10 := (.slice q.da M.ds.length q.dc)) HRR.out
      have hbel := set11_below (b0 := (.int .i64 M.kd)) (b1 := (.int .i64 M.ep)) (b2 := (.int .i64 M.lv)) (b3 := (.int .i64 M.ce)) (b4 := (.int .i64 M.qu)) (b5 := (.int .i64 M.ve)) (b6 := (.int .i64 M.ot)) (b7 := (.int .i64 M.bk)) (b8 := (.slice q.wa M.ws.length q.wc)) (b9 := (.slice q.ma M.ms.length q.mc)) (b10 := (.slice q.da M.ds.length q.dc)) HBR.out (by omega : w.heap.size ≤ w.heap.size + 1)
      have hoth := fun c (hc : c ≠ w.heap.size + 1) => set11_oth (w := wr) (b0 := (.int .i64 M.kd)) (b1 := (.int .i64 M.ep)) (b2 := (.int .i64 M.lv)) (b3 := (.int .i64 M.ce)) (b4 := (.int .i64 M.qu)) (b5 := (.int .i64 M.ve)) (b6 := (.int .i64 M.ot)) (b7 := (.int .i64 M.bk)) (b8 := (.slice q.wa M.ws.length q.wc)) (b9 := (.slice q.ma M.ms.length q.mc)) (b10 := (.slice q.da M.ds.length q.dc)) hc
      generalize (((((((((((wr.setCell ⟨w.heap.size + 1, 0, none⟩ (.int .i64 M.kd)).setCell ⟨w.heap.size + 1, 1, none⟩ (.int .i64 M.ep)).setCell ⟨w.heap.size + 1, 2, none⟩ (.int .i64 M.lv)).setCell ⟨w.heap.size + 1, 3, none⟩ (.int .i64 M.ce)).setCell ⟨w.heap.size + 1, 4, none⟩ (.int .i64 M.qu)).setCell ⟨w.heap.size + 1, 5, none⟩ (.int .i64 M.ve)).setCell ⟨w.heap.size + 1, 6, none⟩ (.int .i64 M.ot)).setCell ⟨w.heap.size + 1, 7, none⟩ (.int .i64 M.bk)).setCell ⟨w.heap.size + 1, 8, none⟩ (.slice q.wa M.ws.length q.wc)).setCell ⟨w.heap.size + 1, 9, none⟩ (.slice q.ma M.ms.length q.mc)).setCell ⟨w.heap.size + 1, 10, none⟩ (.slice q.da M.ds.length q.dc)) = W4 at *
      obtain ⟨y0, y1, y2, y3, y4, y5, y6, y7, y8, y9, y10⟩ := cells11 hfin
      have hLW : LsS w.heap.size W4 M q := HLS.out.same (fun c hc hc2 => by
        have h2 := hoth c (by omega)
        refine ⟨by omega, ?_, h2⟩
        have h4 : wr.heap[c]? = some wr.heap[c] := Array.getElem?_eq_getElem hc2
        rw [← h2] at h4
        exact lt_of_block h4)
      exact bodyPost_ret (v := .tuple #[.agg (msC M q), .bool true]) (by simp [results, Tryd.results38, go_sem, y0, y1, y2, y3, y4, y5, y6, y7, y8, y9, y10, msC]) rfl ⟨⟨fun _ => ⟨q, by rw [HRM.out, hMe], by rw [HRM.out, hMe]; exact hLW⟩, (fun h => by rw [HOM.out, HOK.out] at h; cases h)⟩, hbel⟩
end Go.Proofs.YtchmiiclogmheaaDoor.C2
