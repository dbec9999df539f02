/-
  nest's level.next.
-/
import Derived.Test.YtpmjbeiclmllmaaNsM
namespace Go.Proofs.Ytpmjbeiclmllmaa
open Go.RowKit
theorem three_free {w : World} {b : Nat} {u0 u1 u2 : Value} {t : TypeId} (h : w.heap[b]? = some (.cells #[u0, u1, u2] t)) : w.frozen? ⟨b, 0, none⟩ = false ∧ w.frozen? ⟨b, 1, none⟩ = false ∧ w.frozen? ⟨b, 2, none⟩ = false := by
  simp [World.frozen?, h]
theorem set3_at {w : World} {b : Nat} {u0 u1 u2 : Value} {t : TypeId} (h : w.heap[b]? = some (.cells #[u0, u1, u2] t)) (x y z : Value) : (((w.setCell ⟨b, 0, none⟩ x).setCell ⟨b, 1, none⟩ y).setCell ⟨b, 2, none⟩ z).heap[b]? = some (.cells #[x, y, z] t) := by
  have h1 := heap_setCell_same w b 0 _ _ x h
  have h2 := heap_setCell_same _ b 1 _ _ y h1
  exact (heap_setCell_same _ b 2 _ _ z h2).trans (by simp)
theorem top3 (w : World) (o0 o1 o2 : Obj) : (((w.alloc o0).alloc o1).alloc o2).heap[w.heap.size]? = some o0 ∧ (((w.alloc o0).alloc o1).alloc o2).heap[w.heap.size + 1]? = some o1 ∧ (((w.alloc o0).alloc o1).alloc o2).heap[w.heap.size + 1 + 1]? = some o2 ∧ Below w.heap.size w (((w.alloc o0).alloc o1).alloc o2) ∧ (((w.alloc o0).alloc o1).alloc o2).heap.size = w.heap.size + 3 := by
  have s1 : (w.alloc o0).heap.size = w.heap.size + 1 := by simp
  have s2 : ((w.alloc o0).alloc o1).heap.size = w.heap.size + 1 + 1 := by simp
  refine ⟨?_, ?_, ?_, ?_, by simp⟩
  · exact (Below.heap_alloc _ _ _ (by omega)).trans ((Below.heap_alloc _ _ _ (by omega)).trans (heap_top w o0))
  · exact (Below.heap_alloc _ _ _ (by omega)).trans (s1 ▸ heap_top (w.alloc o0) o1)
  · exact s2 ▸ heap_top ((w.alloc o0).alloc o1) o2
  · exact (((Below.refl _ _).alloc (Nat.le_refl _) _).alloc (by omega) _).alloc (by omega) _
theorem below_set3 {w w' : World} {p b : Nat} (h : Below p w w') (hb : p ≤ b) (x y z : Value) : Below p w (((w'.setCell ⟨b, 0, none⟩ x).setCell ⟨b, 1, none⟩ y).setCell ⟨b, 2, none⟩ z) := ((h.setCell (p := ⟨b, 0, none⟩) hb x).setCell (p := ⟨b, 1, none⟩) hb y).setCell (p := ⟨b, 2, none⟩) hb z
theorem own_set3 {w : World} {p b : Nat} {e : TypeId} {size : Nat} {v : Value} {n : Nat} {xs : List Value} (h : w.ownsRow p e size v n xs) (hb : b < p) (x y z : Value) : (((w.setCell ⟨b, 0, none⟩ x).setCell ⟨b, 1, none⟩ y).setCell ⟨b, 2, none⟩ z).ownsRow p e size v n xs := own_set (own_set (own_set h _ _ hb) _ _ hb) _ _ hb
set_option maxRecDepth 100000 in
set_option maxHeartbeats 1600000 in
theorem nsNext_any (n : Nat) (a : Option Addr) (l : List A) (cap : Nat) (ya : Option Addr) (ys : List Int) (yc : Nat) (sv : Option Addr) (sm sc : Nat) (bb b : Int) (xa : Option Addr) (xs : List Int) (xc : Nat) (w : World) (hC : chkE n l = 0) (hx : xs.length ≤ 9223372036854775807) (hy : tdy ys 0 = true) (hyn : ys.length ≤ n) (hsm : sm ≤ 1024) (hr : Arcs w a l) (hi : Ints w xa xs) (hj : Ints w ya ys) :
    Calls Try.prog 111 #[.agg #[.slice ya ys.length yc, .slice sv sm sc, .int .i64 bb], .agg #[.int .i64 n, .slice a l.length cap], .int .i64 b, .slice xa xs.length xc] w fun e w' =>
      (nxE n bb ys b xs = 0 → ∃ v c, e = .returned (.tuple #[.agg #[.slice xa xs.length xc, .slice v (szL xs).length c, .int .i64 b], .int .i64 0]) ∧ w'.ownsRow w.heap.size 3 1 (.slice v (szL xs).length c) (szL xs).length (cellsI (ints (szL xs)))) ∧ (nxE n bb ys b xs ≠ 0 → e = .returned (.tuple #[.agg #[.slice none 0 0, .slice none 0 0, .int .i64 0], .int .i64 (nxE n bb ys b xs)])) ∧ Below w.heap.size w w' := by
  obtain ⟨h1n, hn, hl, _⟩ := chk_zero hC
  obtain ⟨hg0, hg1, hg2, hb0, hsz⟩ := top3 w (.cells #[.slice ya ys.length yc, .slice sv sm sc, .int .i64 bb] 104) (.cells #[.int .i64 n, .slice a l.length cap] 24) (.cells #[.slice none 0 0, .slice none 0 0, .int .i64 0] 104)
  have HAR := Lib.hid (hr.on hb0)
  have HI := Lib.hid (hi.on hb0)
  have HJ := Lib.hid (hj.on hb0)
  have HB := Lib.hid hb0
  have HG0 := Lib.hid hg0
  have HG1 := Lib.hid hg1
  have HG2 := Lib.hid hg2
  have HC := Lib.hid hC
  have HY := Lib.hid hy
  obtain ⟨a0, a1, a2⟩ := three_cells hg0
  obtain ⟨E, HE⟩ := named (nxE n bb ys b xs)
  rw [HE.out]
  obtain ⟨S, HS⟩ := named (szL xs)
  rw [HS.out]
  generalize hp : w.heap.size = p at *
  clear hr hi hj hb0 hg0 hg1 hg2 hC hy
  go_enter Try.func111, Try.ntmps111
  go_wp2_with fail
  generalize hW : (((w.alloc (.cells #[.slice ya ys.length yc, .slice sv sm sc, .int .i64 bb] 104)).alloc (.cells #[.int .i64 n, .slice a l.length cap] 24)).alloc (.cells #[.slice none 0 0, .slice none 0 0, .int .i64 0] 104)) = W at *
  clear hW
  refine (nsBound_any b bb W).mono ?_
  rintro e w' ⟨rfl, rfl⟩
  by_cases k1 : bb < b ∧ b ≤ 1024
  · rw [decide_eq_true k1]
    clear a0 a1 a2
    obtain ⟨⟨g0, g1⟩, _⟩ := two_cells HG1.out
    have HSZ := Lib.hid (sizes_any n a l cap xa xs xc w' (by omega) hx HAR.out HI.out)
    have HSE : Hid (siE n l xs = szE n xs) := by show _ = _; unfold siE; rw [if_neg (by rw [HC.out]; simp)]
    rw [HSE.out] at HSZ
    by_cases k2 : szE n xs = 0
    · rw [if_pos k2, k2] at HSZ
      have hxt : (xs.length : Int) = n ∧ tdy xs 0 = true := by
        unfold szE at k2
        split at k2
        · cases k2
        · rename_i h5; exact ⟨by have := fun c => h5 (.inl c); omega, by simpa using fun c => h5 (.inr c)⟩
      obtain ⟨hxn, hxt⟩ := hxt
      have HXT := Lib.hid hxt
      have hxl : xs.length ≤ 1024 := by omega
      have hS1 : (szL xs).length ≤ 1024 := Nat.le_trans (szL_length _) hxl
      rw [HS.out] at HSZ hS1
      go_wp2_with fail
      refine HSZ.out.mono ?_
      rintro e w1 ⟨v1, c1, S', rfl, hown1, rfl, hb1⟩
      have HO1 := Lib.hid hown1
      have HB1 : Hid (Below p w w1) := HB.out.trans (hb1.mono (by omega))
      have HI1 := Lib.hid (HI.out.on hb1)
      have HJ1 := Lib.hid (HJ.out.on hb1)
      have HK0 := Lib.hid ((hb1.block p (by omega)).trans HG0.out)
      have HK2 := Lib.hid ((hb1.block (p + 1 + 1) (by omega)).trans HG2.out)
      have hz1 := hb1.size
      clear hb1 hown1 g0 g1 HSZ HG0 HG1 HG2 HI HJ HB HAR k2 hxt
      go_wp2_with fail
      have HZ2 : Hid ((w1.alloc (.cells #[.slice xa xs.length xc, .slice v1 S'.length c1, .int .i64 b] 104)).heap[w1.heap.size]? = some (.cells #[.slice xa xs.length xc, .slice v1 S'.length c1, .int .i64 b] 104)) := heap_top _ _
      have hbx : Below w1.heap.size w1 (w1.alloc (.cells #[.slice xa xs.length xc, .slice v1 S'.length c1, .int .i64 b] 104)) := (Below.refl _ _).alloc (Nat.le_refl _) _
      have HO2 := Lib.hid (own_on HO1.out hbx)
      have HI2 := Lib.hid (HI1.out.on hbx)
      have HJ2 := Lib.hid (HJ1.out.on hbx)
      have HB2 : Hid (Below p w (w1.alloc (.cells #[.slice xa xs.length xc, .slice v1 S'.length c1, .int .i64 b] 104))) := HB1.out.trans (hbx.mono (by omega))
      have HL0 := Lib.hid ((hbx.block p (by omega)).trans HK0.out)
      have HL2 := Lib.hid ((hbx.block (p + 1 + 1) (by omega)).trans HK2.out)
      have hz2 : (w1.alloc (.cells #[.slice xa xs.length xc, .slice v1 S'.length c1, .int .i64 b] 104)).heap.size = w1.heap.size + 1 := by simp
      clear hbx HO1 HI1 HJ1 HB1 HK0 HK2
      generalize hq : w1.heap.size = q at *
      generalize hW2 : w1.alloc (.cells #[.slice xa xs.length xc, .slice v1 S'.length c1, .int .i64 b] 104) = w2 at *
      clear hW2
      have HWD := Lib.hid (nsWithin_any (.slice xa xs.length xc) v1 S' c1 b w2 hS1 (own_ints HO2.out rfl))
      refine HWD.out.mono ?_
      rintro e w3 ⟨rfl, hb3⟩
      have HO3 := Lib.hid (own_on HO2.out hb3)
      have HI3 := Lib.hid (HI2.out.on hb3)
      have HJ3 := Lib.hid (HJ2.out.on hb3)
      have HB3 : Hid (Below p w w3) := HB2.out.trans (hb3.mono (by omega))
      have hm0 := (hb3.block p (by omega)).trans HL0.out
      have HM2 := Lib.hid ((hb3.block (p + 1 + 1) (by omega)).trans HL2.out)
      have hmq := (hb3.block q (by omega)).trans HZ2.out
      have HMQ := Lib.hid hmq
      have hz3 := hb3.size
      obtain ⟨b0, b1, _⟩ := three_cells hm0
      obtain ⟨q0, q1, q2⟩ := three_cells hmq
      clear hb3 HWD HO2 HI2 HJ2 HB2 HL0 HL2 HZ2 hm0 hmq
      obtain ⟨V, HV⟩ := named (wdB S' b)
      rw [HV.out]
      cases V
      · have HNE : Hid (E = 90) := by
          show E = 90
          rw [← HE.out]
          unfold nxE
          rw [if_neg (fun h => h k1), if_neg (by unfold szE; rw [if_neg (by simp [HXT.out]; omega)]; simp), HS.out, if_pos HV.out]
        clear b0 b1 q0 q1 q2
        obtain ⟨r0, r1, r2⟩ := three_cells HM2.out
        obtain ⟨f0, f1, f2⟩ := three_free HM2.out
        obtain ⟨z0, z1, z2⟩ := three_cells (set3_at HM2.out (.slice none 0 0) (.slice none 0 0) (.int .i64 0))
        go_wp2_with fail
        refine bodyPost_ret (v := .tuple #[.agg #[.slice none 0 0, .slice none 0 0, .int .i64 0], .int .i64 90]) (by simp [results, Try.results111, go_sem, z0, z1, z2]) rfl ?_
        exact ⟨fun h => absurd (HNE.out.symm.trans h) (by decide), fun _ => by rw [HNE.out], below_set3 HB3.out (by omega) _ _ _⟩
      · have HNT := Lib.hid (nsNested_any ya ys yc sv sm sc xa xs xc (.slice v1 S'.length c1) w3 (by omega) hsm hxl (by omega) (fun k hk => by
          obtain ⟨y, h1, h2⟩ := right_lt HY.out hk
          have h3 := ls_right HY.out
          rw [← ls_len HY.out] at h2
          exact ⟨y, h1, h2, by have := (h3.2.1 y h2).1; omega⟩) HJ3.out HI3.out)
        rw [inB_nst xs HY.out] at HNT
        go_wp2_with fail
        refine HNT.out.mono ?_
        rintro e w4 ⟨rfl, hb4⟩
        have HO4 := Lib.hid (own_on HO3.out hb4)
        have HB4 : Hid (Below p w w4) := HB3.out.trans (hb4.mono (by omega))
        have HN2 := Lib.hid ((hb4.block (p + 1 + 1) (by omega)).trans HM2.out)
        have hnq := (hb4.block q (by omega)).trans HMQ.out
        clear hb4 HNT HO3 HI3 HJ3 HB3 HM2 HMQ b0 b1 q0 q1 q2
        obtain ⟨q0, q1, q2⟩ := three_cells hnq
        clear hnq
        by_cases k4 : Nst ys xs
        · have HNE : Hid (E = 0) := by
            show E = 0
            rw [← HE.out]
            unfold nxE
            rw [if_neg (fun h => h k1), if_neg (by unfold szE; rw [if_neg (by simp [HXT.out]; omega)]; simp), HS.out, if_neg (by rw [HV.out]; simp), if_neg (fun h => h k4)]
          rw [decide_eq_true k4]
          obtain ⟨r0, r1, r2⟩ := three_cells HN2.out
          obtain ⟨f0, f1, f2⟩ := three_free HN2.out
          obtain ⟨z0, z1, z2⟩ := three_cells (set3_at HN2.out (.slice xa xs.length xc) (.slice v1 S'.length c1) (.int .i64 b))
          have HOX := Lib.hid (own_base HO4.out (show p ≤ w'.heap.size by omega))
          have HOY : Hid (∀ x y z, (((w4.setCell ⟨p + 1 + 1, 0, none⟩ x).setCell ⟨p + 1 + 1, 1, none⟩ y).setCell ⟨p + 1 + 1, 2, none⟩ z).ownsRow p 3 1 (.slice v1 S'.length c1) S'.length (cellsI (ints S'))) := fun x y z => own_base (own_set3 HO4.out (by omega) x y z) (by omega)
          go_wp2_with fail
          refine bodyPost_ret (v := .tuple #[.agg #[.slice xa xs.length xc, .slice v1 S'.length c1, .int .i64 b], .int .i64 0]) (by simp [results, Try.results111, go_sem, z0, z1, z2]) rfl ?_
          exact ⟨fun _ => ⟨v1, c1, rfl, HOY.out _ _ _⟩, fun h => absurd HNE.out h, below_set3 HB4.out (by omega) _ _ _⟩
        · have HNE : Hid (E = 110) := by
            show E = 110
            rw [← HE.out]
            unfold nxE
            rw [if_neg (fun h => h k1), if_neg (by unfold szE; rw [if_neg (by simp [HXT.out]; omega)]; simp), HS.out, if_neg (by rw [HV.out]; simp), if_pos k4]
          rw [decide_eq_false k4]
          clear q0 q1 q2
          obtain ⟨r0, r1, r2⟩ := three_cells HN2.out
          obtain ⟨f0, f1, f2⟩ := three_free HN2.out
          obtain ⟨z0, z1, z2⟩ := three_cells (set3_at HN2.out (.slice none 0 0) (.slice none 0 0) (.int .i64 0))
          go_wp2_with fail
          refine bodyPost_ret (v := .tuple #[.agg #[.slice none 0 0, .slice none 0 0, .int .i64 0], .int .i64 110]) (by simp [results, Try.results111, go_sem, z0, z1, z2]) rfl ?_
          exact ⟨fun h => absurd (HNE.out.symm.trans h) (by decide), fun _ => by rw [HNE.out], below_set3 HB4.out (by omega) _ _ _⟩
    · have e80 : szE n xs = 80 := by
        unfold szE at k2 ⊢
        split
        · rfl
        · rename_i h5; rw [if_neg h5] at k2; exact absurd rfl k2
      have HNE : Hid (E = 80) := by
        show E = 80
        rw [← HE.out]
        unfold nxE
        rw [if_neg (fun h => h k1), if_pos k2, e80]
      rw [if_neg k2, e80] at HSZ
      clear e80 k2
      go_wp2_with fail
      refine HSZ.out.mono ?_
      rintro e w1 ⟨v1, c1, S', rfl, hown1, rfl, hb1⟩
      have HB1 : Hid (Below p w w1) := HB.out.trans (hb1.mono (by omega))
      have HK2 := Lib.hid ((hb1.block (p + 1 + 1) (by omega)).trans HG2.out)
      clear hb1 hown1 g0 g1 HSZ HG0 HG1 HG2 HI HJ HB HAR
      obtain ⟨r0, r1, r2⟩ := three_cells HK2.out
      obtain ⟨f0, f1, f2⟩ := three_free HK2.out
      obtain ⟨z0, z1, z2⟩ := three_cells (set3_at HK2.out (.slice none 0 0) (.slice none 0 0) (.int .i64 0))
      go_wp2_with fail
      refine bodyPost_ret (v := .tuple #[.agg #[.slice none 0 0, .slice none 0 0, .int .i64 0], .int .i64 80]) (by simp [results, Try.results111, go_sem, z0, z1, z2]) rfl ?_
      exact ⟨fun h => absurd (HNE.out.symm.trans h) (by decide), fun _ => by rw [HNE.out], below_set3 HB1.out (by omega) _ _ _⟩
  · have HNE : Hid (E = 1) := by
      show E = 1
      rw [← HE.out]
      unfold nxE
      rw [if_pos k1]
    rw [decide_eq_false k1]
    clear a0 a1 a2 k1
    obtain ⟨r0, r1, r2⟩ := three_cells HG2.out
    obtain ⟨f0, f1, f2⟩ := three_free HG2.out
    obtain ⟨z0, z1, z2⟩ := three_cells (set3_at HG2.out (.slice none 0 0) (.slice none 0 0) (.int .i64 0))
    go_wp2_with fail
    refine bodyPost_ret (v := .tuple #[.agg #[.slice none 0 0, .slice none 0 0, .int .i64 0], .int .i64 1]) (by simp [results, Try.results111, go_sem, z0, z1, z2]) rfl ?_
    exact ⟨fun h => absurd (HNE.out.symm.trans h) (by decide), fun _ => by rw [HNE.out], below_set3 HB.out (by omega) _ _ _⟩
end Go.Proofs.Ytpmjbeiclmllmaa
