/-
  The reference's Gain and Next. The reference's gain. The reference's next move.
-/
import Derived.Test.YtgpaoiddjlpcmaaZAX
import Derived.Test.YtgpaoiddjlpcmaaZAY
namespace Go.Proofs.Ytgpaoiddjlpcmaa
open Go.RowKit
set_option maxRecDepth 100000 in
set_option maxHeartbeats 1600000 in
theorem rgain_any (a : Option Addr) (l : List A) (cap : Nat) (b : Option Addr) (L : List Nat) (bc : Nat) (v x : Nat) (w : World) (hn : L.length ≤ 1024) (hl : l.length ≤ 8192) (hv : v < L.length) (hpo : ∀ x, x ∈ l → (0 ≤ x.f ∧ x.f < (L.length : Int)) ∧ 0 ≤ x.t ∧ x.t < (L.length : Int)) (hr : Arcs w a l) (hi : Ints w b (ints L)) :
    Calls Try.prog 29 #[.agg #[.int .i64 L.length, .slice a l.length cap], .slice b L.length bc, .int .i64 v, .int .i64 x] w fun e w' => e = .returned (.int .i64 (gaV (prl l) L v x)) ∧ Below w.heap.size w w' := by
  have hb0 : Below w.heap.size w (w.alloc (.cells #[.int .i64 L.length, .slice a l.length cap] 24)) := (Below.refl _ _).alloc (Nat.le_refl _) _
  have hg := heap_top w (.cells #[.int .i64 L.length, .slice a l.length cap] 24)
  have HI := Lib.hid (hi.on hb0)
  have HB0 := Lib.hid hb0
  have hwz : w.heap.size ≤ (w.alloc (.cells #[.int .i64 L.length, .slice a l.length cap] 24)).heap.size := hb0.size
  have HNR := Lib.hid (rnear_any L.length v a l cap (w.alloc (.cells #[.int .i64 L.length, .slice a l.length cap] 24)) hn hl hv hpo (hr.on hb0))
  have HGV : Hid (gaV (prl l) L v x = (sm (nf l L v x) L.length : Int) - (sm (nf l L v (L.getD v 0)) L.length : Int)) := by
    show gaV (prl l) L v x = _
    unfold gaV
    rw [cv_near hpo L v x, cv_near hpo L v (L.getD v 0)]
  rw [HGV.out]
  obtain ⟨⟨c0, c1⟩, _⟩ := two_cells hg
  have hv' : (v : Int) < L.length := by omega
  clear hb0 hr hi hpo
  generalize hp : w.heap.size = p at *
  go_enter Try.func29, Try.ntmps29
  go_wp2_with fail
  generalize hW : w.alloc (.cells #[.int .i64 L.length, .slice a l.length cap] 24) = W at *
  clear hW
  refine HNR.out.mono ?_
  rintro e w1 ⟨nb1, rfl, hnb, htb, hb1⟩
  have HB1 : Hid (Below p w w1) := HB0.out.trans (hb1.mono hwz)
  have hg1 := (hb1.block p (lt_of_block hg)).trans hg
  have HT := Lib.hid htb
  obtain ⟨ix, ox, hix⟩ := (HI.out.on hb1).get
  obtain ⟨rfl, _, hat⟩ := hix (by rw [ints_len]; omega)
  have HAT : Hid (∀ j, j < L.length → w1.cell? ⟨ix, ox + j, none⟩ = some (.int .i64 ((L.getD j 0 : Nat) : Int))) := fun j hj => by have q := hat j (by rw [ints_len]; exact hj); rw [getD_ints] at q; exact q
  clear hb1 HNR c0 c1 hg htb hix hat
  obtain ⟨⟨c0, c1⟩, _⟩ := two_cells hg1
  obtain ⟨lv, HLV⟩ := named (L.getD v 0)
  have dv := HAT.out v hv
  rw [HLV.out] at dv
  go_wp2_with fail
  go_loopw [10, 11] (fun s10 s11 wr => ∃ (u : Nat) (q : Int), u ≤ L.length ∧ s11 = .int .i64 (u : Int) ∧ s10 = .int .i64 q ∧ Hid (q = (sm (nf l L v x) u : Int) - (sm (nf l L v (L.getD v 0)) u : Int)) ∧ Hid (∃ t, wr = w1.drewN t)) (fun _ s11 _ => L.length - (intOf s11).toNat)
  case atStart => exact ⟨0, 0, Nat.zero_le _, rfl, rfl, rfl, ⟨0, rfl⟩⟩
  case round =>
    obtain ⟨u, q, hul, rfl, rfl, HQ, HW⟩ := hrel
    obtain ⟨t, ht⟩ := HW.out
    subst ht
    clear HW
    by_cases hlt : u < L.length
    · have hlt' : (u : Int) < L.length := by omega
      have d1 := HAT.out u hlt
      have d2 := HT.out.cell hlt
      obtain ⟨lu, HLU⟩ := named (L.getD u 0)
      rw [HLU.out] at d1
      obtain ⟨nu, HNU⟩ := named (nr l v u && !decide (u = v))
      rw [HNU.out] at d2
      have s1 := sm_le (nf_le l L v x) u
      have s2 := sm_le (nf_le l L v (L.getD v 0)) u
      have hqq := HQ.out
      have e1 : sm (nf l L v x) (u + 1) = sm (nf l L v x) u + (if nu = true ∧ lu = x then 1 else 0) := by simp only [sm]; unfold nf; rw [HNU.out, HLU.out]
      have e2 : sm (nf l L v (L.getD v 0)) (u + 1) = sm (nf l L v (L.getD v 0)) u + (if nu = true ∧ lu = lv then 1 else 0) := by simp only [sm]; unfold nf; rw [HNU.out, HLU.out, HLV.out]
      have HE1 := Lib.hid e1
      have HE2 := Lib.hid e2
      have hq1 : q ≤ 1024 ∧ -1024 ≤ q := by omega
      have hw1 : IntKind.i64.wrap (q + 1) = q + 1 := by rw [IntKind.wrap_i64]; omega
      have hw2 : IntKind.i64.wrap (q - 1) = q - 1 := by rw [IntKind.wrap_i64]; omega
      have hw3 : IntKind.i64.wrap (q + 1 - 1) = q := by rw [IntKind.wrap_i64]; omega
      clear e1 e2 hqq
      cases nu
      · skip
        have HQ2 : Hid (q = (sm (nf l L v x) (u + 1) : Int) - (sm (nf l L v (L.getD v 0)) (u + 1) : Int)) := by
          show q = _
          rw [HE1.out, HE2.out, if_neg (fun h => by cases h.1), if_neg (fun h => by cases h.1)]
          have := HQ.out
          omega
        go_wp2_with fail
        go_quiet (fail)
        go_wp2_with fail
        exact ⟨⟨u + 1, _, hlt, by simp, rfl, HQ2, ⟨_, rfl⟩⟩, by simp [intOf]; omega⟩
      · by_cases c1 : lu = x
        · by_cases c2 : lu = lv
          · skip
            have f1 : ((lu : Int) == (x : Int)) = true := by rw [c1]; simp
            have f2 : ((lu : Int) == (lv : Int)) = true := by rw [c2]; simp
            have HQ2 : Hid (q = (sm (nf l L v x) (u + 1) : Int) - (sm (nf l L v (L.getD v 0)) (u + 1) : Int)) := by
              show q = _
              rw [HE1.out, HE2.out, if_pos ⟨rfl, c1⟩, if_pos ⟨rfl, c2⟩]
              have := HQ.out
              omega
            clear c1 c2
            go_wp2_with fail
            go_quiet (fail)
            go_wp2_with fail
            exact ⟨⟨u + 1, _, hlt, by simp, rfl, HQ2, ⟨_, rfl⟩⟩, by simp [intOf]; omega⟩
          · skip
            have f1 : ((lu : Int) == (x : Int)) = true := by rw [c1]; simp
            have f2 : ((lu : Int) == (lv : Int)) = false := by simp; omega
            have HQ2 : Hid ((q + 1) = (sm (nf l L v x) (u + 1) : Int) - (sm (nf l L v (L.getD v 0)) (u + 1) : Int)) := by
              show (q + 1) = _
              rw [HE1.out, HE2.out, if_pos ⟨rfl, c1⟩, if_neg (fun h => c2 h.2)]
              have := HQ.out
              omega
            clear c1 c2
            go_wp2_with fail
            go_quiet (fail)
            go_wp2_with fail
            exact ⟨⟨u + 1, _, hlt, by simp, rfl, HQ2, ⟨_, rfl⟩⟩, by simp [intOf]; omega⟩
        · by_cases c2 : lu = lv
          · skip
            have f1 : ((lu : Int) == (x : Int)) = false := by simp; omega
            have f2 : ((lu : Int) == (lv : Int)) = true := by rw [c2]; simp
            have HQ2 : Hid ((q - 1) = (sm (nf l L v x) (u + 1) : Int) - (sm (nf l L v (L.getD v 0)) (u + 1) : Int)) := by
              show (q - 1) = _
              rw [HE1.out, HE2.out, if_neg (fun h => c1 h.2), if_pos ⟨rfl, c2⟩]
              have := HQ.out
              omega
            clear c1 c2
            go_wp2_with fail
            go_quiet (fail)
            go_wp2_with fail
            exact ⟨⟨u + 1, _, hlt, by simp, rfl, HQ2, ⟨_, rfl⟩⟩, by simp [intOf]; omega⟩
          · skip
            have f1 : ((lu : Int) == (x : Int)) = false := by simp; omega
            have f2 : ((lu : Int) == (lv : Int)) = false := by simp; omega
            have HQ2 : Hid (q = (sm (nf l L v x) (u + 1) : Int) - (sm (nf l L v (L.getD v 0)) (u + 1) : Int)) := by
              show q = _
              rw [HE1.out, HE2.out, if_neg (fun h => c1 h.2), if_neg (fun h => c2 h.2)]
              have := HQ.out
              omega
            clear c1 c2
            go_wp2_with fail
            go_quiet (fail)
            go_wp2_with fail
            exact ⟨⟨u + 1, _, hlt, by simp, rfl, HQ2, ⟨_, rfl⟩⟩, by simp [intOf]; omega⟩
    · have hlt' : ¬ (u : Int) < L.length := by omega
      obtain rfl : u = L.length := by omega
      have hqq := HQ.out
      subst hqq
      have HB2 : Hid (Below p w (w1.drewN t)) := ⟨HB1.out.os, HB1.out.tape, HB1.out.output, HB1.out.size, HB1.out.block⟩
      go_wp2_with fail
      go_ret
      exact ⟨rfl, HB2.out⟩
end Go.Proofs.Ytgpaoiddjlpcmaa
namespace Go.Proofs.Ytgpaoiddjlpcmaa
open Go.RowKit
theorem below_t {p : Nat} {w w1 w2 : World} (h : Below p w w1) (hp : w.heap.size = p) (h2 : Below w1.heap.size w1 w2) : Below p w w2 := h.trans (h2.mono (hp ▸ h.size))
theorem ga_small {l : List A} {L : List Nat} (hl : l.length ≤ 8192) (u z : Nat) : -8192 ≤ gaV (prl l) L u z ∧ gaV (prl l) L u z ≤ 8192 := by
  have h1 := cv_le (prl l) L u z
  have h2 := cv_le (prl l) L u (L.getD u 0)
  have h3 := prl_len l
  unfold gaV
  omega
set_option maxRecDepth 100000 in
set_option maxHeartbeats 1600000 in
theorem rnext_any (a : Option Addr) (l : List A) (cap : Nat) (b : Option Addr) (L : List Nat) (bc : Nat) (B : Nat) (w : World) (hn : L.length ≤ 1024) (hn0 : 0 < L.length) (hl : l.length ≤ 8192) (htd : tdy (ints L) 0 = true) (hpo : ∀ x, x ∈ l → (0 ≤ x.f ∧ x.f < (L.length : Int)) ∧ 0 ≤ x.t ∧ x.t < (L.length : Int)) (hr : Arcs w a l) (hi : Ints w b (ints L)) :
    Calls Try.prog 33 #[.agg #[.int .i64 L.length, .slice a l.length cap], .slice b L.length bc, .int .i64 B] w fun e w' => ∃ (x y : Nat) (m : Int), e = .returned (.tuple #[.int .i64 (x : Int), .int .i64 (y : Int), .int .i64 m, .bool (decide (0 < m))]) ∧ Hid (NxM (prl l) L B x y (decide (0 < m))) ∧ Below w.heap.size w w' := by
  have hb0 : Below w.heap.size w (w.alloc (.cells #[.int .i64 L.length, .slice a l.length cap] 24)) := (Below.refl _ _).alloc (Nat.le_refl _) _
  have hg := heap_top w (.cells #[.int .i64 L.length, .slice a l.length cap] 24)
  have HI := Lib.hid hi
  have HR := Lib.hid hr
  have HB0 := Lib.hid hb0
  have HPO := Lib.hid hpo
  have HTD := Lib.hid htd
  have HSZ := Lib.hid (rsize_any b (ints L) bc (w.alloc (.cells #[.int .i64 L.length, .slice a l.length cap] 24)) (by rw [ints_len]; exact hn) htd (hi.on hb0))
  have hP : PIn (prl l) L.length := fun p hp => prl_lt hpo hp
  have HPI := Lib.hid hP
  have hS0 := lab_lt htd hn0
  have hS1 : (szL (ints L)).length ≤ 1024 := by
    have q := szL_len2 (ints L) (ints L).length (Nat.le_refl _)
    rw [List.take_length, ints_len] at q
    omega
  have HSC : Hid (∀ y, (szL (ints L)).getD y 0 = L.count y) := fun y => sz_cnt htd y
  have HNX : Hid (∀ (x y : Nat) (m : Int), Rn (prl l) L B L.length (szL (ints L)).length (fun u _ => u < L.length) x y m → NxM (prl l) L B x y (decide (0 < m))) := fun x y m h => h.nxm (fun u _ hu _ => hu) htd hP
  obtain ⟨S, HSE⟩ := named (szL (ints L))
  rw [HSE.out, ints_len] at HSZ
  rw [HSE.out] at hS0 hS1 HSC HNX
  obtain ⟨⟨c0, c1⟩, _⟩ := two_cells hg
  clear hb0 hr hi hpo htd hP
  generalize hp : w.heap.size = p at *
  go_enter Try.func33, Try.ntmps33
  go_wp2_with fail
  generalize hW : w.alloc (.cells #[.int .i64 L.length, .slice a l.length cap] 24) = W at *
  clear hW
  refine HSZ.out.mono ?_
  rintro e w1 ⟨v1, cc1, rfl, hown1, hb1⟩
  have HB1 := Lib.hid (below_t HB0.out hp hb1)
  have hg1 := (hb1.block p (lt_of_block hg)).trans hg
  have HG1 := Lib.hid hg1
  have HO1 := Lib.hid (own_ints hown1 rfl)
  have HI1 := Lib.hid (HI.out.on (by rw [hp]; exact HB1.out))
  obtain ⟨ix, ox, hix⟩ := HI1.out.get
  obtain ⟨rfl, hil, hat⟩ := hix (by rw [ints_len]; exact hn0)
  obtain ⟨jx, kx, hjx⟩ := HO1.out.get
  obtain ⟨rfl, hjl, hjt⟩ := hjx (by rw [ints_len]; omega)
  have HAT : Hid (∀ j, j < L.length → w1.cell? ⟨ix, ox + j, none⟩ = some (.int .i64 ((L.getD j 0 : Nat) : Int))) := fun j hj => by have q := hat j (by rw [ints_len]; exact hj); rw [getD_ints] at q; exact q
  have HJT : Hid (∀ j, j < S.length → w1.cell? ⟨jx, kx + j, none⟩ = some (.int .i64 ((S.getD j 0 : Nat) : Int))) := fun j hj => by have q := hjt j (by rw [ints_len]; exact hj); rw [getD_ints] at q; exact q
  clear hb1 HSZ c0 c1 hg hown1 hix hjx hat hjt hg1
  have HW1 : Hid (Below w1.heap.size w1 w1) := Below.refl _ _
  have HRN : Hid (Rn (prl l) L B L.length S.length (fun u' _ => u' < 0) 0 0 0) := Rn.start (fun _ _ h => absurd h (Nat.not_lt_zero _))
  go_wp2_with fail
  go_loopw [11, 12, 13, 14] (fun s11 s12 s13 s14 wr => ∃ (u x y : Nat) (m : Int), u ≤ L.length ∧ s14 = .int .i64 (u : Int) ∧ s11 = .int .i64 (x : Int) ∧ s12 = .int .i64 (y : Int) ∧ s13 = .int .i64 m ∧ (0 < m → x < u) ∧ Hid (Rn (prl l) L B L.length S.length (fun u' _ => u' < u) x y m) ∧ Hid (Below w1.heap.size w1 wr)) (fun _ _ _ s14 _ => L.length - (intOf s14).toNat)
  case atStart => exact ⟨0, 0, 0, 0, Nat.zero_le _, rfl, rfl, rfl, rfl, fun h => absurd h (by decide), HRN, HW1⟩
  case round =>
    clear HRN HW1
    obtain ⟨u, x, y, m, hul, rfl, rfl, rfl, rfl, hxu, HRN, HWR⟩ := hrel
    have hgr := (HWR.out.block _ (lt_of_block HG1.out)).trans HG1.out
    obtain ⟨⟨c0, c1⟩, _⟩ := two_cells hgr
    by_cases hlt : u < L.length
    · have hlt' : (u : Int) < L.length := by omega
      clear hgr
      have HR0 : Hid (Rn (prl l) L B L.length S.length (fun u' z' => u' < u ∨ (u' = u ∧ z' < 0)) x y m) := HRN.out.same (fun u' y' h _ _ => h.elim id (fun h => absurd h.2 (Nat.not_lt_zero _)))
      go_wp2_with fail
      clear c0 c1
      go_loopw [11, 12, 13, 15] (fun s11 s12 s13 s15 wi => ∃ (z x y : Nat) (m : Int), z ≤ S.length ∧ s15 = .int .i64 (z : Int) ∧ s11 = .int .i64 (x : Int) ∧ s12 = .int .i64 (y : Int) ∧ s13 = .int .i64 m ∧ (0 < m → x < u ∨ (x = u ∧ y < z)) ∧ Hid (Rn (prl l) L B L.length S.length (fun u' z' => u' < u ∨ (u' = u ∧ z' < z)) x y m) ∧ Hid (Below w1.heap.size w1 wi)) (fun _ _ _ s15 _ => S.length - (intOf s15).toNat)
      case atStart => exact ⟨0, x, y, m, Nat.zero_le _, rfl, rfl, rfl, rfl, fun h => .inl (hxu h), HR0, HWR⟩
      case round =>
        clear HR0 HRN HWR hxu
        obtain ⟨z, x, y, m, hzl, rfl, rfl, rfl, rfl, hxu, HRN, HWR⟩ := hrel
        by_cases hlk : z < S.length
        · have hlk' : (z : Int) < S.length := by omega
          have d1 := (HWR.out.cell (p := ⟨ix, ox + u, none⟩) hil).trans (HAT.out u hlt)
          have d2 := (HWR.out.cell (p := ⟨jx, kx + z, none⟩) hjl).trans (HJT.out z hlk)
          have hgi := (HWR.out.block _ (lt_of_block HG1.out)).trans HG1.out
          obtain ⟨⟨c0, c1⟩, _⟩ := two_cells hgi
          have HSZ := Lib.hid (HSC.out z)
          obtain ⟨lu, HLV⟩ := named (L.getD u 0)
          obtain ⟨sz, HSY⟩ := named (S.getD z 0)
          rw [HLV.out] at d1
          rw [HSY.out] at d2 HSZ
          have hD : ∀ u2 y2, (u2 < u ∨ (u2 = u ∧ y2 < z + 1)) → (u2 < u ∨ (u2 = u ∧ y2 < z)) ∨ (u2 = u ∧ y2 = z) := fun u2 y2 h => by omega
          have hxz : 0 < m → x < u ∨ (x = u ∧ y < z + 1) := fun h => (hxu h).imp id (fun h => ⟨h.1, by omega⟩)
          by_cases c1' : z = lu
          · have f1 : ((z : Int) == (lu : Int)) = true := by rw [c1']; simp
            have HR1 : Hid (Rn (prl l) L B L.length S.length (fun u' z' => u' < u ∨ (u' = u ∧ z' < z + 1)) x y m) := HRN.out.leave hD (fun h => h.1 (by rw [HLV.out]; exact c1'))
            clear hD c1'
            go_wp2_with fail
            exact ⟨⟨z + 1, x, y, m, hlk, by simp, rfl, rfl, rfl, hxz, HR1, HWR⟩, by simp [intOf]; omega⟩
          have f1 : ((z : Int) == (lu : Int)) = false := by simp; omega
          by_cases c2 : (B : Int) ≤ (sz : Int)
          · have f2 : decide ((B : Int) ≤ (sz : Int)) = true := decide_eq_true c2
            have HR1 : Hid (Rn (prl l) L B L.length S.length (fun u' z' => u' < u ∨ (u' = u ∧ z' < z + 1)) x y m) := HRN.out.leave hD (fun h => by have := h.2; rw [← HSZ.out] at this; omega)
            clear hD
            go_wp2_with fail
            exact ⟨⟨z + 1, x, y, m, hlk, by simp, rfl, rfl, rfl, hxz, HR1, HWR⟩, by simp [intOf]; omega⟩
          have f2 : decide ((B : Int) ≤ (sz : Int)) = false := decide_eq_false c2
          have HBI : Hid (Below p w wr) := below_t HB1.out hp HWR.out
          have HGA := Lib.hid (rgain_any a l cap (some ⟨ix, ox, none⟩) L bc u z wr hn hl hlt HPO.out (HR.out.on (by rw [hp]; exact HBI.out)) (HI.out.on (by rw [hp]; exact HBI.out)))
          have hgs := ga_small (L := L) hl u z
          obtain ⟨gv, HGV⟩ := named (gaV (prl l) L u z)
          rw [HGV.out] at HGA hgs
          by_cases c3 : m < gv
          · have HR1 : Hid (Rn (prl l) L B L.length S.length (fun u' z' => u' < u ∨ (u' = u ∧ z' < z + 1)) u z gv) := by
              have q := HRN.out.take hD hlt hlk (by rw [HLV.out]; exact c1') (by rw [← HSZ.out]; omega) (by rw [HGV.out]; exact c3)
              rw [HGV.out] at q
              exact q
            clear hD hxz
            go_wp2_with fail
            refine HGA.out.mono ?_
            rintro e w6 ⟨rfl, hb6⟩
            have HW6 : Hid (Below w1.heap.size w1 w6) := HWR.out.trans (hb6.mono HWR.out.size)
            clear hb6 HGA
            go_wp2_with fail
            exact ⟨⟨z + 1, u, z, gv, hlk, by simp, rfl, rfl, rfl, fun _ => .inr ⟨rfl, Nat.lt_succ_self _⟩, HR1, HW6⟩, by simp [intOf]; omega⟩
          · have HR1 : Hid (Rn (prl l) L B L.length S.length (fun u' z' => u' < u ∨ (u' = u ∧ z' < z + 1)) x y m) := HRN.out.pass hD (fun h => (hxu h).imp id (fun h => ⟨h.1, by omega⟩)) (by rw [HGV.out]; exact c3)
            clear hD
            go_wp2_with fail
            refine HGA.out.mono ?_
            rintro e w6 ⟨rfl, hb6⟩
            have HW6 : Hid (Below w1.heap.size w1 w6) := HWR.out.trans (hb6.mono HWR.out.size)
            clear hb6 HGA
            go_wp2_with fail
            exact ⟨⟨z + 1, x, y, m, hlk, by simp, rfl, rfl, rfl, hxz, HR1, HW6⟩, by simp [intOf]; omega⟩
        · have hlk' : ¬ (z : Int) < S.length := by omega
          obtain rfl : z = S.length := by omega
          have HR1 : Hid (Rn (prl l) L B L.length S.length (fun u' _ => u' < u + 1) x y m) := HRN.out.same (fun u' y' h _ hy => by
            have h : u' < u + 1 := h
            by_cases c : u' = u
            · exact .inr ⟨c, hy⟩
            · exact .inl (by omega))
          have hxu2 : 0 < m → x < u + 1 := fun h => by have := hxu h; omega
          go_wp2_with fail
          exact ⟨⟨u + 1, x, y, m, hlt, by simp, rfl, rfl, rfl, hxu2, HR1, HWR⟩, by simp [intOf]; omega⟩
    · have hlt' : ¬ (u : Int) < L.length := by omega
      obtain rfl : u = L.length := by omega
      have HBR : Hid (Below p w wr) := below_t HB1.out hp HWR.out
      have HNM := Lib.hid (HNX.out x y m HRN.out)
      clear hgr
      go_wp2_with fail
      refine bodyPost_ret (v := .tuple #[.int .i64 (x : Int), .int .i64 (y : Int), .int .i64 m, .bool (decide (0 < m))]) (by simp [results, Try.results33, go_sem]) rfl ?_
      exact ⟨x, y, m, rfl, HNM, HBR.out⟩
end Go.Proofs.Ytgpaoiddjlpcmaa
namespace Go.Proofs.Ytgpaoiddjlpcmaa
open Go.RowKit
theorem cnt_right {N : Int} {l : List A} {xs : List Int} (h : cntE N l xs = 0) : ∃ L, xs = ints L ∧ N = (L.length : Int) ∧ chkE N l = 0 ∧ tdy (ints L) 0 = true ∧ 0 < L.length ∧ L.length ≤ 1024 ∧ l.length ≤ 8192 ∧ ∀ x, x ∈ l → (0 ≤ x.f ∧ x.f < (L.length : Int)) ∧ 0 ≤ x.t ∧ x.t < (L.length : Int) := by
  unfold cntE at h
  have hc0 : chkE N l = 0 := by
    by_cases c : chkE N l ≠ 0
    · rw [if_pos c] at h; exact h
    · simpa using c
  rw [if_neg (by simp [hc0])] at h
  have hxt : ¬ ((xs.length : Int) ≠ N ∨ tdy xs 0 = false) := fun c => by rw [if_pos c] at h; cases h
  have htd : tdy xs 0 = true := by cases q : tdy xs 0 with
    | true => rfl
    | false => exact absurd (.inr q) hxt
  have hxn : (xs.length : Int) = N := Classical.byContradiction (fun c => hxt (.inl c))
  obtain ⟨h1, h2, h3, h4⟩ := chk_zero hc0
  have e := ints_back htd
  have el : (xs.map Int.toNat).length = xs.length := List.length_map ..
  refine ⟨xs.map Int.toNat, e, by rw [el]; exact hxn.symm, hc0, by rw [← e]; exact htd, by omega, by omega, h3, ?_⟩
  rw [el, hxn]
  exact h4
set_option maxRecDepth 100000 in
set_option maxHeartbeats 1600000 in
theorem rgain_top (N : Int) (a : Option Addr) (l : List A) (cap : Nat) (b : Option Addr) (xs : List Int) (bc : Nat) (v x : Int) (w : World) (hl : l.length ≤ 9223372036854775807) (hx : xs.length ≤ 9223372036854775807) (hr : Arcs w a l) (hi : Ints w b xs) :
    Calls Try.prog 13 #[.agg #[.int .i64 N, .slice a l.length cap], .slice b xs.length bc, .int .i64 v, .int .i64 x] w fun e w' => ∃ gv : Int, e = .returned (.tuple #[.int .i64 gv, .int .i64 (gaE N l xs v x)]) ∧ Below w.heap.size w w' ∧ Hid (gaE N l xs v x = 0 → ∃ (L : List Nat) (v' x' : Nat), xs = ints L ∧ v = (v' : Int) ∧ x = (x' : Int) ∧ gv = gaV (prl l) L v' x') ∧ Hid (gaE N l xs v x ≠ 0 → gv = 0) := by
  have hb0 : Below w.heap.size w (w.alloc (.cells #[.int .i64 N, .slice a l.length cap] 24)) := (Below.refl _ _).alloc (Nat.le_refl _) _
  have hg := heap_top w (.cells #[.int .i64 N, .slice a l.length cap] 24)
  have HB0 := Lib.hid hb0
  have HAR := Lib.hid hr
  have HAX := Lib.hid hi
  have HCK := Lib.hid (looked_any N a l cap b xs bc (w.alloc (.cells #[.int .i64 N, .slice a l.length cap] 24)) hl hx (hr.on hb0) (hi.on hb0))
  rw [si_cnt] at HCK
  obtain ⟨E, HE⟩ := named (cntE N l xs)
  obtain ⟨V, HV⟩ := named (gaE N l xs v x)
  rw [HE.out] at HCK
  rw [HV.out]
  obtain ⟨⟨c0, c1⟩, _⟩ := two_cells hg
  clear hb0 hr hi
  generalize hp : w.heap.size = p at *
  go_enter Try.func13, Try.ntmps13
  go_wp2_with fail
  generalize hW : w.alloc (.cells #[.int .i64 N, .slice a l.length cap] 24) = W at *
  clear hW
  refine HCK.out.mono ?_
  rintro e w1 ⟨rfl, hb1⟩
  have HB1 := Lib.hid (below_t HB0.out hp hb1)
  have hg1 := (hb1.block p (lt_of_block hg)).trans hg
  clear hb1 HCK c0 c1 hg
  obtain ⟨⟨c0, c1⟩, _⟩ := two_cells hg1
  by_cases hE : E ≠ 0
  · have e1 : (E != 0) = true := by simpa using hE
    have HIV : Hid (V = E) := by show V = E; rw [← HV.out]; unfold gaE; rw [HE.out, if_pos hE]
    go_wp2_with fail
    refine bodyPost_ret (v := .tuple #[.int .i64 0, .int .i64 E]) (by simp [results, Try.results13, go_sem]) rfl ?_
    exact ⟨0, by rw [HIV.out], HB1.out, fun h => absurd (HIV.out.symm.trans h) hE, fun _ => rfl⟩
  have hE0 : E = 0 := by simpa using hE
  have e1 : (E != 0) = false := by simpa using hE0
  have HV2 : Hid ((if v < 0 ∨ N ≤ v ∨ x < 0 ∨ ((szL xs).length : Int) ≤ x then 5 else 0) = V) := by
    show _ = V
    rw [← HV.out]
    unfold gaE
    rw [HE.out, hE0, if_neg (show ¬ ((0 : Int) ≠ 0) by simp)]
  obtain ⟨L, hxL, hNL, hc0, htd, hn0, hn1, hll, hpo⟩ := cnt_right (HE.out.trans hE0)
  subst hxL
  subst hNL
  have hxl2 : L.length ≤ 9223372036854775807 := by omega
  have HRS := Lib.hid (rsize_any b (ints L) bc w1 (by rw [ints_len]; exact hn1) htd (HAX.out.on (by rw [hp]; exact HB1.out)))
  obtain ⟨S, HS⟩ := named (szL (ints L))
  rw [HS.out] at HRS HV2
  have hSl : S.length ≤ 1024 := by
    have q := szL_len2 (ints L) (ints L).length (Nat.le_refl _)
    rw [List.take_length, ints_len, HS.out] at q
    omega
  have HPO := Lib.hid hpo
  have HC0 := Lib.hid hc0
  have HTD := Lib.hid htd
  clear hE hE0 hpo hc0 htd hx
  by_cases h1 : v < 0
  · have HVV : Hid (V = 5) := by show V = 5; rw [← HV2.out, if_pos (.inl h1)]
    go_wp2_with fail
    refine bodyPost_ret (v := .tuple #[.int .i64 0, .int .i64 5]) (by simp [results, Try.results13, go_sem]) rfl ?_
    exact ⟨0, by rw [HVV.out], HB1.out, fun h => absurd (HVV.out.symm.trans h) (by decide), fun _ => rfl⟩
  by_cases h2 : (L.length : Int) ≤ v
  · have HVV : Hid (V = 5) := by show V = 5; rw [← HV2.out, if_pos (.inr (.inl h2))]
    go_wp2_with fail
    refine bodyPost_ret (v := .tuple #[.int .i64 0, .int .i64 5]) (by simp [results, Try.results13, go_sem]) rfl ?_
    exact ⟨0, by rw [HVV.out], HB1.out, fun h => absurd (HVV.out.symm.trans h) (by decide), fun _ => rfl⟩
  by_cases h3 : x < 0
  · have HVV : Hid (V = 5) := by show V = 5; rw [← HV2.out, if_pos (.inr (.inr (.inl h3)))]
    go_wp2_with fail
    refine bodyPost_ret (v := .tuple #[.int .i64 0, .int .i64 5]) (by simp [results, Try.results13, go_sem]) rfl ?_
    exact ⟨0, by rw [HVV.out], HB1.out, fun h => absurd (HVV.out.symm.trans h) (by decide), fun _ => rfl⟩
  go_wp2_with fail
  refine HRS.out.mono ?_
  rintro e w2 ⟨v2, c2, rfl, hown2, hb2⟩
  have HB2 := Lib.hid (below_t HB1.out hp hb2)
  have hg2 := (hb2.block p (lt_of_block hg1)).trans hg1
  clear hb2 hown2 HRS c0 c1 hg1
  obtain ⟨⟨c0, c1⟩, _⟩ := two_cells hg2
  by_cases h4 : (S.length : Int) ≤ x
  · have HVV : Hid (V = 5) := by show V = 5; rw [← HV2.out, if_pos (.inr (.inr (.inr h4)))]
    go_wp2_with fail
    refine bodyPost_ret (v := .tuple #[.int .i64 0, .int .i64 5]) (by simp [results, Try.results13, go_sem]) rfl ?_
    exact ⟨0, by rw [HVV.out], HB2.out, fun h => absurd (HVV.out.symm.trans h) (by decide), fun _ => rfl⟩
  have HVV : Hid (V = 0) := by show V = 0; rw [← HV2.out, if_neg (by omega)]
  obtain ⟨v', hv'⟩ : ∃ v' : Nat, v = (v' : Int) := ⟨v.toNat, by omega⟩
  obtain ⟨x', hx'⟩ : ∃ x' : Nat, x = (x' : Int) := ⟨x.toNat, by omega⟩
  subst hv'
  subst hx'
  have HGA := Lib.hid (rgain_any a l cap b L bc v' x' w2 hn1 hll (by omega) HPO.out (HAR.out.on (by rw [hp]; exact HB2.out)) (HAX.out.on (by rw [hp]; exact HB2.out)))
  obtain ⟨gv, HGV⟩ := named (gaV (prl l) L v' x')
  rw [HGV.out] at HGA
  rw [← ints_len L] at HGA
  have hil : (ints L).length = L.length := ints_len L
  have HGA2 : Hid (Calls Try.prog 29 #[.agg #[.int .i64 L.length, .slice a l.length cap], .slice b (ints L).length bc, .int .i64 v', .int .i64 x'] w2 fun e w' => e = .returned (.int .i64 gv) ∧ Below w2.heap.size w2 w') := by
    have q := HGA.out
    rw [hil] at q
    show Calls Try.prog 29 #[.agg #[.int .i64 L.length, .slice a l.length cap], .slice b (ints L).length bc, .int .i64 v', .int .i64 x'] w2 _
    rw [hil]
    exact q
  clear hil HGA
  go_wp2_with fail
  refine HGA2.out.mono ?_
  rintro e w3 ⟨rfl, hb3⟩
  have HB3 := Lib.hid (below_t HB2.out hp hb3)
  clear hb3
  go_wp2_with fail
  refine bodyPost_ret (v := .tuple #[.int .i64 gv, .int .i64 0]) (by simp [results, Try.results13, go_sem]) rfl ?_
  exact ⟨gv, by rw [HVV.out], HB3.out, fun _ => ⟨L, v', x', rfl, rfl, rfl, HGV.out.symm⟩, fun h => absurd HVV.out h⟩
set_option maxRecDepth 100000 in
set_option maxHeartbeats 1600000 in
theorem rnext_top (N : Int) (a : Option Addr) (l : List A) (cap : Nat) (b : Option Addr) (xs : List Int) (bc : Nat) (bd : Int) (w : World) (hl : l.length ≤ 9223372036854775807) (hx : xs.length ≤ 9223372036854775807) (hr : Arcs w a l) (hi : Ints w b xs) :
    Calls Try.prog 15 #[.agg #[.int .i64 N, .slice a l.length cap], .slice b xs.length bc, .int .i64 bd] w fun e w' => ∃ (v x : Nat) (so : Bool), e = .returned (.tuple #[.int .i64 (v : Int), .int .i64 (x : Int), .bool so, .int .i64 (luE N l xs bd)]) ∧ Below w.heap.size w w' ∧ Hid (luE N l xs bd = 0 → ∃ (L : List Nat) (B : Nat), xs = ints L ∧ bd = (B : Int) ∧ NxM (prl l) L B v x so) ∧ Hid (luE N l xs bd ≠ 0 → v = 0 ∧ x = 0 ∧ so = false) := by
  have hb0 : Below w.heap.size w (w.alloc (.cells #[.int .i64 N, .slice a l.length cap] 24)) := (Below.refl _ _).alloc (Nat.le_refl _) _
  have hg := heap_top w (.cells #[.int .i64 N, .slice a l.length cap] 24)
  have HB0 := Lib.hid hb0
  have HAR := Lib.hid hr
  have HAX := Lib.hid hi
  have HCK := Lib.hid (wrong_any N a l cap b xs bc bd (w.alloc (.cells #[.int .i64 N, .slice a l.length cap] 24)) hl hx (hr.on hb0) (hi.on hb0))
  obtain ⟨V, HV⟩ := named (luE N l xs bd)
  rw [HV.out] at HCK ⊢
  obtain ⟨⟨c0, c1⟩, _⟩ := two_cells hg
  clear hb0 hr hi
  generalize hp : w.heap.size = p at *
  go_enter Try.func15, Try.ntmps15
  go_wp2_with fail
  generalize hW : w.alloc (.cells #[.int .i64 N, .slice a l.length cap] 24) = W at *
  clear hW
  refine HCK.out.mono ?_
  rintro e w1 ⟨rfl, hb1⟩
  have HB1 := Lib.hid (below_t HB0.out hp hb1)
  have hg1 := (hb1.block p (lt_of_block hg)).trans hg
  clear hb1 HCK c0 c1 hg
  obtain ⟨⟨c0, c1⟩, _⟩ := two_cells hg1
  by_cases hE : V ≠ 0
  · have e1 : (V != 0) = true := by simpa using hE
    go_wp2_with fail
    refine bodyPost_ret (v := .tuple #[.int .i64 0, .int .i64 0, .bool false, .int .i64 V]) (by simp [results, Try.results15, go_sem]) rfl ?_
    exact ⟨0, 0, false, rfl, HB1.out, fun h => absurd h hE, fun _ => ⟨rfl, rfl, rfl⟩⟩
  have hE0 : V = 0 := by simpa using hE
  have e1 : (V != 0) = false := by simpa using hE0
  have HE0 := Lib.hid hE0
  have hcn : cntE N l xs = 0 := by
    have q := HV.out.trans hE0
    unfold luE at q
    by_cases d : cntE N l xs ≠ 0
    · rw [if_pos d] at q; exact absurd q d
    · simpa using d
  obtain ⟨L, hxL, hNL, hc0, htd, hn0, hn1, hll, hpo⟩ := cnt_right hcn
  subst hxL
  subst hNL
  have hbd : 1 ≤ bd := by
    have q := HV.out.trans hE0
    unfold luE at q
    rw [if_neg (by simp [hcn])] at q
    by_cases d : bd < 1 ∨ 1024 < bd
    · rw [if_pos d] at q; cases q
    · omega
  obtain ⟨B, hB⟩ : ∃ B : Nat, bd = (B : Int) := ⟨bd.toNat, by omega⟩
  subst hB
  have HNX := Lib.hid (rnext_any a l cap b L bc B w1 hn1 hn0 hll htd hpo (HAR.out.on (by rw [hp]; exact HB1.out)) (HAX.out.on (by rw [hp]; exact HB1.out)))
  have HN2 : Hid (Calls Try.prog 33 #[.agg #[.int .i64 L.length, .slice a l.length cap], .slice b (ints L).length bc, .int .i64 B] w1 fun e w' => ∃ (x y : Nat) (m : Int), e = .returned (.tuple #[.int .i64 (x : Int), .int .i64 (y : Int), .int .i64 m, .bool (decide (0 < m))]) ∧ Hid (NxM (prl l) L B x y (decide (0 < m))) ∧ Below w1.heap.size w1 w') := by
    show Calls Try.prog 33 #[.agg #[.int .i64 L.length, .slice a l.length cap], .slice b (ints L).length bc, .int .i64 B] w1 _
    rw [ints_len]
    exact HNX.out
  clear hE hE0 hcn hc0 htd hpo HNX hbd
  go_wp2_with fail
  refine HN2.out.mono ?_
  rintro e w2 ⟨x, y, m, rfl, HNM, hb2⟩
  obtain ⟨so, HSO⟩ := named (decide (0 < m))
  rw [HSO.out] at HNM ⊢
  have HB2 := Lib.hid (below_t HB1.out hp hb2)
  clear hb2 HN2 HSO
  go_wp2_with fail
  refine bodyPost_ret (v := .tuple #[.int .i64 (x : Int), .int .i64 (y : Int), .bool so, .int .i64 0]) (by simp [results, Try.results15, go_sem]) rfl ?_
  exact ⟨x, y, so, by rw [HE0.out], HB2.out, fun _ => ⟨L, B, rfl, rfl, HNM.out⟩, fun h => absurd HE0.out h⟩
end Go.Proofs.Ytgpaoiddjlpcmaa
