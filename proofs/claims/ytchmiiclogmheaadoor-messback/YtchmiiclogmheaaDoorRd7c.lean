/-
  Reading a message: the call. Reading a message: the call. Reading a message: the call.
-/
import Derived.Test.YtchmiiclogmheaaDoorRd6
namespace Go.Proofs.YtchmiiclogmheaaDoor.C2
open Go.RowKit
set_option maxRecDepth 100000 in
set_option maxHeartbeats 3200000 in
theorem messageOf_no0 (t : T) (w : World) (hF : Flds w) (h : ∀ f, InF w f t) (hl : 0 < t.l.length) (hO : okS (t.m 0) 1073741824 = false) : Calls Tryd.prog 38 #[t.val] w fun e w' => MgR w.heap.size t e w' ∧ Below w.heap.size w w' := by
  have HNO : Hid (okM t = false) := Lib.hid (by unfold okM; rw [hO]; simp)
  unfold MgR
  obtain ⟨b, o, ha, hat0⟩ := (h 1).2.1 hl
  have hat : ∀ j, j < t.l.length → (t.m j).at w b (o + j * 4) := fun j hj => by rw [← T.m_eq t j hj]; exact hat0 j hj
  have hb : b < w.heap.size := World.block_lt_of_cell? w _ (hat 0 hl).1
  have hI : ∀ j, j < t.l.length → ∀ f, InF w f (t.m j) := fun j hj f => (h (f + 1)).mem hj
  have HAT := Lib.hid (fun (j : Nat) (hj : j < t.l.length) (W : World) (hW : Below w.heap.size w W) => (hat j hj).on hW)
  have hi0 := (hI 0 hl 1).1
  have HSM : Hid (∀ W, Calls Tryd.prog 64 #[.agg #[.int .i64 (t.m 0).k, .int .u64 (t.m 0).n, .string (t.m 0).s, .slice (t.m 0).a (t.m 0).l.length (t.m 0).cap], .int .i64 1073741824] W fun e w' => e = .returned (.tuple #[.int .i64 (if okS (t.m 0) 1073741824 = true then (t.m 0).n else 0), .bool (okS (t.m 0) 1073741824)]) ∧ Below W.heap.size W w') := Lib.hid (fun W => small_any (t.m 0) _ W hi0.1 hi0.2.1 (by omega) (by omega))
  have hn0 : 0 ≤ (t.m 0).n := hi0.1
  have HV : Hid (t.val = .agg #[.int .i64 t.k, .int .u64 t.n, .string t.s, .slice (some ⟨b, o, none⟩) t.l.length t.cap]) := Lib.hid (by unfold T.val; rw [ha])
  rw [HV.out]
  have HFL := Lib.hid (fun W (hW : Below w.heap.size w W) => hF.on hW (Nat.le_refl _))
  rw [hO, if_neg (by decide)] at HSM
  clear h hat0 hat hI hi0 hn0 HFL hF hO ha
  obtain ⟨L, HL⟩ := named t.l.length
  rw [HL.out] at hl HAT ⊢
  have hh : ((w.alloc (.cells #[.int .i64 t.k, .int .u64 t.n, .string t.s, .slice (some ⟨b, o, none⟩) L t.cap] 54)).alloc (.cells #[.int .i64 0, .int .i64 0, .int .i64 0, .int .i64 0, .int .i64 0, .int .i64 0, .int .i64 0, .int .i64 0, .slice none 0 0, .slice none 0 0, .slice none 0 0] 26)).heap[w.heap.size]? = some (.cells #[.int .i64 t.k, .int .u64 t.n, .string t.s, .slice (some ⟨b, o, none⟩) L t.cap] 54) ∧ ((w.alloc (.cells #[.int .i64 t.k, .int .u64 t.n, .string t.s, .slice (some ⟨b, o, none⟩) L t.cap] 54)).alloc (.cells #[.int .i64 0, .int .i64 0, .int .i64 0, .int .i64 0, .int .i64 0, .int .i64 0, .int .i64 0, .int .i64 0, .slice none 0 0, .slice none 0 0, .slice none 0 0] 26)).heap[w.heap.size + 1]? = some (.cells #[.int .i64 0, .int .i64 0, .int .i64 0, .int .i64 0, .int .i64 0, .int .i64 0, .int .i64 0, .int .i64 0, .slice none 0 0, .slice none 0 0, .slice none 0 0] 26) ∧ Below w.heap.size w ((w.alloc (.cells #[.int .i64 t.k, .int .u64 t.n, .string t.s, .slice (some ⟨b, o, none⟩) L t.cap] 54)).alloc (.cells #[.int .i64 0, .int .i64 0, .int .i64 0, .int .i64 0, .int .i64 0, .int .i64 0, .int .i64 0, .int .i64 0, .slice none 0 0, .slice none 0 0, .slice none 0 0] 26)) := by
    refine ⟨?_, ?_, ((Below.refl _ _).alloc (Nat.le_refl _) _).alloc (by simp) _⟩
    · rw [Below.heap_alloc _ _ _ (by simp), heap_top]
    · have := heap_top (w.alloc (.cells #[.int .i64 t.k, .int .u64 t.n, .string t.s, .slice (some ⟨b, o, none⟩) L t.cap] 54)) (.cells #[.int .i64 0, .int .i64 0, .int .i64 0, .int .i64 0, .int .i64 0, .int .i64 0, .int .i64 0, .int .i64 0, .slice none 0 0, .slice none 0 0, .slice none 0 0] 26)
      rw [World.size_alloc] at this
      exact this
  have HX0 := Lib.hid hh.1
  have HR0 := Lib.hid hh.2.1
  have HB0 := Lib.hid hh.2.2
  clear hh HV
  go_enter Tryd.func38, Tryd.ntmps38
  obtain ⟨⟨k0, k1, k2, k3⟩, _⟩ := cells4 HX0.out
  obtain ⟨c0, c1, c2, c3⟩ := at_cells (HAT.out 0 hl _ HB0.out)
  rw [Nat.zero_mul, Nat.add_zero] at c0 c1 c2 c3
  have hlz : ((L : Int) == 0) = false := by simp; omega
  have hl0 : (0 : Int) < (L : Int) := by omega
  have hsz1 : w.heap.size + 1 < ((w.alloc (.cells #[.int .i64 t.k, .int .u64 t.n, .string t.s, .slice (some ⟨b, o, none⟩) L t.cap] 54)).alloc (.cells #[.int .i64 0, .int .i64 0, .int .i64 0, .int .i64 0, .int .i64 0, .int .i64 0, .int .i64 0, .int .i64 0, .slice none 0 0, .slice none 0 0, .slice none 0 0] 26)).heap.size := by simp
  generalize hW1 : ((w.alloc (.cells #[.int .i64 t.k, .int .u64 t.n, .string t.s, .slice (some ⟨b, o, none⟩) L t.cap] 54)).alloc (.cells #[.int .i64 0, .int .i64 0, .int .i64 0, .int .i64 0, .int .i64 0, .int .i64 0, .int .i64 0, .int .i64 0, .slice none 0 0, .slice none 0 0, .slice none 0 0] 26)) = W1 at *
  go_wp2_with fail
  refine (HSM.out _).mono ?_
  rintro e w2 ⟨rfl, hb2⟩
  have HB2 := Lib.hid (HB0.out.trans (hb2.mono HB0.out.size))
  have hx2 := (hb2.block _ (by omega)).trans HX0.out
  have hr2 := (hb2.block _ hsz1).trans HR0.out
  have HX2 := Lib.hid hx2
  have HR2 := Lib.hid hr2
  have hsz2 : w.heap.size + 1 < w2.heap.size := by have := hb2.size; omega
  clear hb2 HSM k0 k1 k2 k3 c0 c1 c2 c3 hW1 HX0 HR0 HB0 hsz1
  obtain ⟨⟨k0, k1, k2, k3⟩, _⟩ := cells4 hx2
  obtain ⟨z0, z1, z2, z3, z4, z5, z6, z7, z8, z9, z10⟩ := cells11 hr2
  obtain ⟨f0, f1, f2, f3, f4, f5, f6, f7, f8, f9, f10⟩ := cells11f hr2
  clear hx2 hr2
  go_wp2_with fail
  go_quiet (fail)
  go_wp2_with fail
  have hrd := ((below_drewN w2.heap.size w2 nq).block _ hsz2).trans HR2.out
  have hbd := HB2.out.trans (below_drewN w.heap.size w2 nq)
  generalize w2.drewN nq = WD at *
  have hfin := set11 (b0 := (.int .i64 0)) (b1 := (.int .i64 0)) (b2 := (.int .i64 0)) (b3 := (.int .i64 0)) (b4 := (.int .i64 0)) (b5 := (.int .i64 0)) (b6 := (.int .i64 0)) (b7 := (.int .i64 0)) (b8 := (.slice none 0 0)) (b9 := (.slice none 0 0)) (b10 := (.slice none 0 0)) hrd
  have hbel := set11_below (b0 := (.int .i64 0)) (b1 := (.int .i64 0)) (b2 := (.int .i64 0)) (b3 := (.int .i64 0)) (b4 := (.int .i64 0)) (b5 := (.int .i64 0)) (b6 := (.int .i64 0)) (b7 := (.int .i64 0)) (b8 := (.slice none 0 0)) (b9 := (.slice none 0 0)) (b10 := (.slice none 0 0)) hbd (by omega : w.heap.size ≤ w.heap.size + 1)
  generalize (((((((((((WD.setCell ⟨w.heap.size + 1, 0, none⟩ (.int .i64 0)).setCell ⟨w.heap.size + 1, 1, none⟩ (.int .i64 0)).setCell ⟨w.heap.size + 1, 2, none⟩ (.int .i64 0)).setCell ⟨w.heap.size + 1, 3, none⟩ (.int .i64 0)).setCell ⟨w.heap.size + 1, 4, none⟩ (.int .i64 0)).setCell ⟨w.heap.size + 1, 5, none⟩ (.int .i64 0)).setCell ⟨w.heap.size + 1, 6, none⟩ (.int .i64 0)).setCell ⟨w.heap.size + 1, 7, none⟩ (.int .i64 0)).setCell ⟨w.heap.size + 1, 8, none⟩ (.slice none 0 0)).setCell ⟨w.heap.size + 1, 9, none⟩ (.slice none 0 0)).setCell ⟨w.heap.size + 1, 10, none⟩ (.slice none 0 0)) = W4 at *
  obtain ⟨y0, y1, y2, y3, y4, y5, y6, y7, y8, y9, y10⟩ := cells11 hfin
  exact bodyPost_ret (v := noV) (by simp [results, Tryd.results38, go_sem, y0, y1, y2, y3, y4, y5, y6, y7, y8, y9, y10, noV, msC, mz, adz]) rfl ⟨⟨(fun h => by rw [HNO.out] at h; cases h), fun _ => rfl⟩, hbel⟩
end Go.Proofs.YtchmiiclogmheaaDoor.C2
namespace Go.Proofs.YtchmiiclogmheaaDoor.C2
open Go.RowKit
set_option maxRecDepth 100000 in
set_option maxHeartbeats 3200000 in
theorem messageOf_no1 (t : T) (w : World) (hF : Flds w) (h : ∀ f, InF w f t) (hl : 0 < t.l.length) (hO : okS (t.m 0) 1073741824 = true) (hK : isKB (t.m 0).n = false) : Calls Tryd.prog 38 #[t.val] w fun e w' => MgR w.heap.size t e w' ∧ Below w.heap.size w w' := by
  have HNO : Hid (okM t = false) := Lib.hid (by unfold okM; rw [hO, hK]; simp)
  unfold MgR
  obtain ⟨b, o, ha, hat0⟩ := (h 1).2.1 hl
  have hat : ∀ j, j < t.l.length → (t.m j).at w b (o + j * 4) := fun j hj => by rw [← T.m_eq t j hj]; exact hat0 j hj
  have hb : b < w.heap.size := World.block_lt_of_cell? w _ (hat 0 hl).1
  have hI : ∀ j, j < t.l.length → ∀ f, InF w f (t.m j) := fun j hj f => (h (f + 1)).mem hj
  have HAT := Lib.hid (fun (j : Nat) (hj : j < t.l.length) (W : World) (hW : Below w.heap.size w W) => (hat j hj).on hW)
  have hi0 := (hI 0 hl 1).1
  have HSM : Hid (∀ W, Calls Tryd.prog 64 #[.agg #[.int .i64 (t.m 0).k, .int .u64 (t.m 0).n, .string (t.m 0).s, .slice (t.m 0).a (t.m 0).l.length (t.m 0).cap], .int .i64 1073741824] W fun e w' => e = .returned (.tuple #[.int .i64 (if okS (t.m 0) 1073741824 = true then (t.m 0).n else 0), .bool (okS (t.m 0) 1073741824)]) ∧ Below W.heap.size W w') := Lib.hid (fun W => small_any (t.m 0) _ W hi0.1 hi0.2.1 (by omega) (by omega))
  have hn0 : 0 ≤ (t.m 0).n := hi0.1
  have HV : Hid (t.val = .agg #[.int .i64 t.k, .int .u64 t.n, .string t.s, .slice (some ⟨b, o, none⟩) t.l.length t.cap]) := Lib.hid (by unfold T.val; rw [ha])
  rw [HV.out]
  have HFL := Lib.hid (fun W (hW : Below w.heap.size w W) => hF.on hW (Nat.le_refl _))
  rw [hO, if_pos rfl] at HSM
  have HKK := Lib.hid hK
  clear h hat0 hat hI hi0 hn0 hF hO ha hK
  obtain ⟨L, HL⟩ := named t.l.length
  rw [HL.out] at hl HAT ⊢
  have hh : ((w.alloc (.cells #[.int .i64 t.k, .int .u64 t.n, .string t.s, .slice (some ⟨b, o, none⟩) L t.cap] 54)).alloc (.cells #[.int .i64 0, .int .i64 0, .int .i64 0, .int .i64 0, .int .i64 0, .int .i64 0, .int .i64 0, .int .i64 0, .slice none 0 0, .slice none 0 0, .slice none 0 0] 26)).heap[w.heap.size]? = some (.cells #[.int .i64 t.k, .int .u64 t.n, .string t.s, .slice (some ⟨b, o, none⟩) L t.cap] 54) ∧ ((w.alloc (.cells #[.int .i64 t.k, .int .u64 t.n, .string t.s, .slice (some ⟨b, o, none⟩) L t.cap] 54)).alloc (.cells #[.int .i64 0, .int .i64 0, .int .i64 0, .int .i64 0, .int .i64 0, .int .i64 0, .int .i64 0, .int .i64 0, .slice none 0 0, .slice none 0 0, .slice none 0 0] 26)).heap[w.heap.size + 1]? = some (.cells #[.int .i64 0, .int .i64 0, .int .i64 0, .int .i64 0, .int .i64 0, .int .i64 0, .int .i64 0, .int .i64 0, .slice none 0 0, .slice none 0 0, .slice none 0 0] 26) ∧ Below w.heap.size w ((w.alloc (.cells #[.int .i64 t.k, .int .u64 t.n, .string t.s, .slice (some ⟨b, o, none⟩) L t.cap] 54)).alloc (.cells #[.int .i64 0, .int .i64 0, .int .i64 0, .int .i64 0, .int .i64 0, .int .i64 0, .int .i64 0, .int .i64 0, .slice none 0 0, .slice none 0 0, .slice none 0 0] 26)) := by
    refine ⟨?_, ?_, ((Below.refl _ _).alloc (Nat.le_refl _) _).alloc (by simp) _⟩
    · rw [Below.heap_alloc _ _ _ (by simp), heap_top]
    · have := heap_top (w.alloc (.cells #[.int .i64 t.k, .int .u64 t.n, .string t.s, .slice (some ⟨b, o, none⟩) L t.cap] 54)) (.cells #[.int .i64 0, .int .i64 0, .int .i64 0, .int .i64 0, .int .i64 0, .int .i64 0, .int .i64 0, .int .i64 0, .slice none 0 0, .slice none 0 0, .slice none 0 0] 26)
      rw [World.size_alloc] at this
      exact this
  have HX0 := Lib.hid hh.1
  have HR0 := Lib.hid hh.2.1
  have HB0 := Lib.hid hh.2.2
  clear hh HV
  go_enter Tryd.func38, Tryd.ntmps38
  obtain ⟨⟨k0, k1, k2, k3⟩, _⟩ := cells4 HX0.out
  obtain ⟨c0, c1, c2, c3⟩ := at_cells (HAT.out 0 hl _ HB0.out)
  rw [Nat.zero_mul, Nat.add_zero] at c0 c1 c2 c3
  have hlz : ((L : Int) == 0) = false := by simp; omega
  have hl0 : (0 : Int) < (L : Int) := by omega
  have hsz1 : w.heap.size + 1 < ((w.alloc (.cells #[.int .i64 t.k, .int .u64 t.n, .string t.s, .slice (some ⟨b, o, none⟩) L t.cap] 54)).alloc (.cells #[.int .i64 0, .int .i64 0, .int .i64 0, .int .i64 0, .int .i64 0, .int .i64 0, .int .i64 0, .int .i64 0, .slice none 0 0, .slice none 0 0, .slice none 0 0] 26)).heap.size := by simp
  generalize hW1 : ((w.alloc (.cells #[.int .i64 t.k, .int .u64 t.n, .string t.s, .slice (some ⟨b, o, none⟩) L t.cap] 54)).alloc (.cells #[.int .i64 0, .int .i64 0, .int .i64 0, .int .i64 0, .int .i64 0, .int .i64 0, .int .i64 0, .int .i64 0, .slice none 0 0, .slice none 0 0, .slice none 0 0] 26)) = W1 at *
  go_wp2_with fail
  refine (HSM.out _).mono ?_
  rintro e w2 ⟨rfl, hb2⟩
  have HB2 := Lib.hid (HB0.out.trans (hb2.mono HB0.out.size))
  have hx2 := (hb2.block _ (by omega)).trans HX0.out
  have hr2 := (hb2.block _ hsz1).trans HR0.out
  have HX2 := Lib.hid hx2
  have HR2 := Lib.hid hr2
  have hsz2 : w.heap.size + 1 < w2.heap.size := by have := hb2.size; omega
  clear hb2 HSM k0 k1 k2 k3 c0 c1 c2 c3 hW1 HX0 HR0 HB0 hsz1
  obtain ⟨⟨k0, k1, k2, k3⟩, _⟩ := cells4 hx2
  obtain ⟨z0, z1, z2, z3, z4, z5, z6, z7, z8, z9, z10⟩ := cells11 hr2
  obtain ⟨f0, f1, f2, f3, f4, f5, f6, f7, f8, f9, f10⟩ := cells11f hr2
  clear hx2 hr2
  have HIK : Hid (∀ W, Below w2.heap.size w2 W → Calls Tryd.prog 46 #[.int .i64 (t.m 0).n] W fun e w' => e = .returned (.bool (isKB (t.m 0).n)) ∧ w' = W) := Lib.hid (fun W hW => isKind_any (t.m 0).n W ((HFL.out w2 HB2.out).on hW (by have := (HFL.out w2 HB2.out).size; omega)))
  rw [HKK.out] at HIK
  generalize (t.m 0).n = kd at *
  go_wp2_with fail
  go_quiet ((go_at_call 46; exact Calls.quiet_of_same (HIK.out _ (by first | exact Below.refl _ _ | exact below_drewN _ _ _ | exact (Below.refl _ _).drew))))
  go_wp2_with fail
  have hrd := ((below_drewN w2.heap.size w2 nq).block _ hsz2).trans HR2.out
  have hbd := HB2.out.trans (below_drewN w.heap.size w2 nq)
  generalize w2.drewN nq = WD at *
  have hfin := set11 (b0 := (.int .i64 0)) (b1 := (.int .i64 0)) (b2 := (.int .i64 0)) (b3 := (.int .i64 0)) (b4 := (.int .i64 0)) (b5 := (.int .i64 0)) (b6 := (.int .i64 0)) (b7 := (.int .i64 0)) (b8 := (.slice none 0 0)) (b9 := (.slice none 0 0)) (b10 := (.slice none 0 0)) hrd
  have hbel := set11_below (b0 := (.int .i64 0)) (b1 := (.int .i64 0)) (b2 := (.int .i64 0)) (b3 := (.int .i64 0)) (b4 := (.int .i64 0)) (b5 := (.int .i64 0)) (b6 := (.int .i64 0)) (b7 := (.int .i64 0)) (b8 := (.slice none 0 0)) (b9 := (.slice none 0 0)) (b10 := (.slice none 0 0)) hbd (by omega : w.heap.size ≤ w.heap.size + 1)
  generalize (((((((((((WD.setCell ⟨w.heap.size + 1, 0, none⟩ (.int .i64 0)).setCell ⟨w.heap.size + 1, 1, none⟩ (.int .i64 0)).setCell ⟨w.heap.size + 1, 2, none⟩ (.int .i64 0)).setCell ⟨w.heap.size + 1, 3, none⟩ (.int .i64 0)).setCell ⟨w.heap.size + 1, 4, none⟩ (.int .i64 0)).setCell ⟨w.heap.size + 1, 5, none⟩ (.int .i64 0)).setCell ⟨w.heap.size + 1, 6, none⟩ (.int .i64 0)).setCell ⟨w.heap.size + 1, 7, none⟩ (.int .i64 0)).setCell ⟨w.heap.size + 1, 8, none⟩ (.slice none 0 0)).setCell ⟨w.heap.size + 1, 9, none⟩ (.slice none 0 0)).setCell ⟨w.heap.size + 1, 10, none⟩ (.slice none 0 0)) = W4 at *
  obtain ⟨y0, y1, y2, y3, y4, y5, y6, y7, y8, y9, y10⟩ := cells11 hfin
  exact bodyPost_ret (v := noV) (by simp [results, Tryd.results38, go_sem, y0, y1, y2, y3, y4, y5, y6, y7, y8, y9, y10, noV, msC, mz, adz]) rfl ⟨⟨(fun h => by rw [HNO.out] at h; cases h), fun _ => rfl⟩, hbel⟩
end Go.Proofs.YtchmiiclogmheaaDoor.C2
namespace Go.Proofs.YtchmiiclogmheaaDoor.C2
open Go.RowKit
set_option maxRecDepth 100000 in
set_option maxHeartbeats 3200000 in
theorem messageOf_no2 (t : T) (w : World) (hF : Flds w) (h : ∀ f, InF w f t) (hl : 0 < t.l.length) (hO : okS (t.m 0) 1073741824 = true) (hK : isKB (t.m 0).n = true) (hN : t.l.length ≠ 1 + (fl (t.m 0).n.toNat).length) : Calls Tryd.prog 38 #[t.val] w fun e w' => MgR w.heap.size t e w' ∧ Below w.heap.size w w' := by
  have HNO : Hid (okM t = false) := Lib.hid (by unfold okM; rw [hO, hK, decide_eq_false hN]; simp)
  unfold MgR
  obtain ⟨b, o, ha, hat0⟩ := (h 1).2.1 hl
  have hat : ∀ j, j < t.l.length → (t.m j).at w b (o + j * 4) := fun j hj => by rw [← T.m_eq t j hj]; exact hat0 j hj
  have hb : b < w.heap.size := World.block_lt_of_cell? w _ (hat 0 hl).1
  have hI : ∀ j, j < t.l.length → ∀ f, InF w f (t.m j) := fun j hj f => (h (f + 1)).mem hj
  have HAT := Lib.hid (fun (j : Nat) (hj : j < t.l.length) (W : World) (hW : Below w.heap.size w W) => (hat j hj).on hW)
  have hi0 := (hI 0 hl 1).1
  have HSM : Hid (∀ W, Calls Tryd.prog 64 #[.agg #[.int .i64 (t.m 0).k, .int .u64 (t.m 0).n, .string (t.m 0).s, .slice (t.m 0).a (t.m 0).l.length (t.m 0).cap], .int .i64 1073741824] W fun e w' => e = .returned (.tuple #[.int .i64 (if okS (t.m 0) 1073741824 = true then (t.m 0).n else 0), .bool (okS (t.m 0) 1073741824)]) ∧ Below W.heap.size W w') := Lib.hid (fun W => small_any (t.m 0) _ W hi0.1 hi0.2.1 (by omega) (by omega))
  have hn0 : 0 ≤ (t.m 0).n := hi0.1
  have HV : Hid (t.val = .agg #[.int .i64 t.k, .int .u64 t.n, .string t.s, .slice (some ⟨b, o, none⟩) t.l.length t.cap]) := Lib.hid (by unfold T.val; rw [ha])
  rw [HV.out]
  have HFL := Lib.hid (fun W (hW : Below w.heap.size w W) => hF.on hW (Nat.le_refl _))
  rw [hO, if_pos rfl] at HSM
  have HKK := Lib.hid hK
  have hk4 : 1 ≤ (t.m 0).n ∧ (t.m 0).n ≤ 4 := of_decide_eq_true hK
  obtain ⟨K, hKN⟩ := Int.eq_ofNat_of_zero_le (a := (t.m 0).n) (by omega)
  have hK5 : 1 ≤ K ∧ K ≤ 4 := by omega
  obtain ⟨fb, fo, fc, hc, hcc⟩ := hF.2 K hK5.1 hK5.2
  have HT := Lib.hid (fun (W : World) (hW : Below w.heap.size w W) => (hW.cell (p := ⟨0, K, none⟩) hF.size).trans hc)
  rw [show (t.m 0).n.toNat = K by omega] at hN
  have hlen : (fl K).length ≤ 100 := by
    have : K = 1 ∨ K = 2 ∨ K = 3 ∨ K = 4 := by omega
    rcases this with rfl | rfl | rfl | rfl <;> decide
  generalize (fl K).length = FL at *
  have hKi : (K : Int) < 5 := by omega
  have HKN := Lib.hid hKN
  have HNE := Lib.hid hN
  clear h hat0 hat hI hi0 hn0 hF hO ha hK hc hcc hk4 hKN hN
  obtain ⟨L, HL⟩ := named t.l.length
  rw [HL.out] at hl HAT ⊢
  have hh : ((w.alloc (.cells #[.int .i64 t.k, .int .u64 t.n, .string t.s, .slice (some ⟨b, o, none⟩) L t.cap] 54)).alloc (.cells #[.int .i64 0, .int .i64 0, .int .i64 0, .int .i64 0, .int .i64 0, .int .i64 0, .int .i64 0, .int .i64 0, .slice none 0 0, .slice none 0 0, .slice none 0 0] 26)).heap[w.heap.size]? = some (.cells #[.int .i64 t.k, .int .u64 t.n, .string t.s, .slice (some ⟨b, o, none⟩) L t.cap] 54) ∧ ((w.alloc (.cells #[.int .i64 t.k, .int .u64 t.n, .string t.s, .slice (some ⟨b, o, none⟩) L t.cap] 54)).alloc (.cells #[.int .i64 0, .int .i64 0, .int .i64 0, .int .i64 0, .int .i64 0, .int .i64 0, .int .i64 0, .int .i64 0, .slice none 0 0, .slice none 0 0, .slice none 0 0] 26)).heap[w.heap.size + 1]? = some (.cells #[.int .i64 0, .int .i64 0, .int .i64 0, .int .i64 0, .int .i64 0, .int .i64 0, .int .i64 0, .int .i64 0, .slice none 0 0, .slice none 0 0, .slice none 0 0] 26) ∧ Below w.heap.size w ((w.alloc (.cells #[.int .i64 t.k, .int .u64 t.n, .string t.s, .slice (some ⟨b, o, none⟩) L t.cap] 54)).alloc (.cells #[.int .i64 0, .int .i64 0, .int .i64 0, .int .i64 0, .int .i64 0, .int .i64 0, .int .i64 0, .int .i64 0, .slice none 0 0, .slice none 0 0, .slice none 0 0] 26)) := by
    refine ⟨?_, ?_, ((Below.refl _ _).alloc (Nat.le_refl _) _).alloc (by simp) _⟩
    · rw [Below.heap_alloc _ _ _ (by simp), heap_top]
    · have := heap_top (w.alloc (.cells #[.int .i64 t.k, .int .u64 t.n, .string t.s, .slice (some ⟨b, o, none⟩) L t.cap] 54)) (.cells #[.int .i64 0, .int .i64 0, .int .i64 0, .int .i64 0, .int .i64 0, .int .i64 0, .int .i64 0, .int .i64 0, .slice none 0 0, .slice none 0 0, .slice none 0 0] 26)
      rw [World.size_alloc] at this
      exact this
  have HX0 := Lib.hid hh.1
  have HR0 := Lib.hid hh.2.1
  have HB0 := Lib.hid hh.2.2
  clear hh HV
  go_enter Tryd.func38, Tryd.ntmps38
  obtain ⟨⟨k0, k1, k2, k3⟩, _⟩ := cells4 HX0.out
  obtain ⟨c0, c1, c2, c3⟩ := at_cells (HAT.out 0 hl _ HB0.out)
  rw [Nat.zero_mul, Nat.add_zero] at c0 c1 c2 c3
  have hlz : ((L : Int) == 0) = false := by simp; omega
  have hl0 : (0 : Int) < (L : Int) := by omega
  have hsz1 : w.heap.size + 1 < ((w.alloc (.cells #[.int .i64 t.k, .int .u64 t.n, .string t.s, .slice (some ⟨b, o, none⟩) L t.cap] 54)).alloc (.cells #[.int .i64 0, .int .i64 0, .int .i64 0, .int .i64 0, .int .i64 0, .int .i64 0, .int .i64 0, .int .i64 0, .slice none 0 0, .slice none 0 0, .slice none 0 0] 26)).heap.size := by simp
  generalize hW1 : ((w.alloc (.cells #[.int .i64 t.k, .int .u64 t.n, .string t.s, .slice (some ⟨b, o, none⟩) L t.cap] 54)).alloc (.cells #[.int .i64 0, .int .i64 0, .int .i64 0, .int .i64 0, .int .i64 0, .int .i64 0, .int .i64 0, .int .i64 0, .slice none 0 0, .slice none 0 0, .slice none 0 0] 26)) = W1 at *
  go_wp2_with fail
  refine (HSM.out _).mono ?_
  rintro e w2 ⟨rfl, hb2⟩
  have HB2 := Lib.hid (HB0.out.trans (hb2.mono HB0.out.size))
  have hx2 := (hb2.block _ (by omega)).trans HX0.out
  have hr2 := (hb2.block _ hsz1).trans HR0.out
  have HX2 := Lib.hid hx2
  have HR2 := Lib.hid hr2
  have hsz2 : w.heap.size + 1 < w2.heap.size := by have := hb2.size; omega
  clear hb2 HSM k0 k1 k2 k3 c0 c1 c2 c3 hW1 HX0 HR0 HB0 hsz1
  obtain ⟨⟨k0, k1, k2, k3⟩, _⟩ := cells4 hx2
  obtain ⟨z0, z1, z2, z3, z4, z5, z6, z7, z8, z9, z10⟩ := cells11 hr2
  obtain ⟨f0, f1, f2, f3, f4, f5, f6, f7, f8, f9, f10⟩ := cells11f hr2
  clear hx2 hr2
  have HIK : Hid (∀ W, Below w2.heap.size w2 W → Calls Tryd.prog 46 #[.int .i64 (t.m 0).n] W fun e w' => e = .returned (.bool (isKB (t.m 0).n)) ∧ w' = W) := Lib.hid (fun W hW => isKind_any (t.m 0).n W ((HFL.out w2 HB2.out).on hW (by have := (HFL.out w2 HB2.out).size; omega)))
  rw [HKK.out] at HIK
  have t0 := HT.out w2 HB2.out
  have hkk := HKN.out
  have hne : ((L : Int) != 1 + (FL : Int)) = true := by
    have h1 := HL.out
    have h2 := HNE.out
    rw [h1] at h2
    simp
    omega
  clear HKK HFL HKN HNE
  generalize (t.m 0).n = kd at *
  subst hkk
  go_wp2_with fail
  go_quiet ((go_at_call 46; exact Calls.quiet_of_same (HIK.out _ (by first | exact Below.refl _ _ | exact below_drewN _ _ _ | exact (Below.refl _ _).drew))))
  go_wp2_with fail
  have hrd := ((below_drewN w2.heap.size w2 nq).block _ hsz2).trans HR2.out
  have hbd := HB2.out.trans (below_drewN w.heap.size w2 nq)
  generalize w2.drewN nq = WD at *
  have hfin := set11 (b0 := (.int .i64 0)) (b1 := (.int .i64 0)) (b2 := (.int .i64 0)) (b3 := (.int .i64 0)) (b4 := (.int .i64 0)) (b5 := (.int .i64 0)) (b6 := (.int .i64 0)) (b7 := (.int .i64 0)) (b8 := (.slice none 0 0)) (b9 := (.slice none 0 0)) (b10 := (.slice none 0 0)) hrd
  have hbel := set11_below (b0 := (.int .i64 0)) (b1 := (.int .i64 0)) (b2 := (.int .i64 0)) (b3 := (.int .i64 0)) (b4 := (.int .i64 0)) (b5 := (.int .i64 0)) (b6 := (.int .i64 0)) (b7 := (.int .i64 0)) (b8 := (.slice none 0 0)) (b9 := (.slice none 0 0)) (b10 := (.slice none 0 0)) hbd (by omega : w.heap.size ≤ w.heap.size + 1)
  generalize (((((((((((WD.setCell ⟨w.heap.size + 1, 0, none⟩ (.int .i64 0)).setCell ⟨w.heap.size + 1, 1, none⟩ (.int .i64 0)).setCell ⟨w.heap.size + 1, 2, none⟩ (.int .i64 0)).setCell ⟨w.heap.size + 1, 3, none⟩ (.int .i64 0)).setCell ⟨w.heap.size + 1, 4, none⟩ (.int .i64 0)).setCell ⟨w.heap.size + 1, 5, none⟩ (.int .i64 0)).setCell ⟨w.heap.size + 1, 6, none⟩ (.int .i64 0)).setCell ⟨w.heap.size + 1, 7, none⟩ (.int .i64 0)).setCell ⟨w.heap.size + 1, 8, none⟩ (.slice none 0 0)).setCell ⟨w.heap.size + 1, 9, none⟩ (.slice none 0 0)).setCell ⟨w.heap.size + 1, 10, none⟩ (.slice none 0 0)) = W4 at *
  obtain ⟨y0, y1, y2, y3, y4, y5, y6, y7, y8, y9, y10⟩ := cells11 hfin
  exact bodyPost_ret (v := noV) (by simp [results, Tryd.results38, go_sem, y0, y1, y2, y3, y4, y5, y6, y7, y8, y9, y10, noV, msC, mz, adz]) rfl ⟨⟨(fun h => by rw [HNO.out] at h; cases h), fun _ => rfl⟩, hbel⟩
end Go.Proofs.YtchmiiclogmheaaDoor.C2
