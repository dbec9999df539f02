/-
  The reference's Check of nests.
-/
import Derived.Test.YtpmjbeiclmllmaaRf1
import Derived.Test.YtpmjbeiclmllmaaGNs
namespace Go.Proofs.Ytpmjbeiclmllmaa
open Go.RowKit
/-- The bound and the labels below a level. -/
def pb (bs : List Int) (k : Nat) : Int := if k = 0 then 0 else bs.getD (k - 1) 0
def pl (cs : List (List Int)) (k : Nat) : List Int := if k = 0 then [] else lvl cs (k - 1)
theorem pb_succ (bs : List Int) (k : Nat) : pb bs (k + 1) = bs.getD k 0 := by simp [pb]
theorem pl_succ (cs : List (List Int)) (k : Nat) : pl cs (k + 1) = lvl cs k := by simp [pl]
theorem nst_nil (xs : List Int) : Nst [] xs := fun u hu => absurd hu (by simp)
theorem gm_wd {S : List Nat} {b : Int} (hb : 1 ≤ b) : gmx (ints S) ≤ b ↔ wdB S b = true := by
  rw [gmx_le]
  unfold wdB
  rw [decide_eq_true_eq]
  constructor
  · rintro ⟨_, h⟩ j hj
    have := h j (by rw [ints_len]; exact hj)
    rw [ints_getD hj] at this
    exact this
  · intro h
    refine ⟨by omega, fun j hj => ?_⟩
    rw [ints_len] at hj
    rw [ints_getD hj]
    exact h j hj
theorem nx80 {N bb : Int} {ys : List Int} {b : Int} {xs : List Int} (h1 : bb < b ∧ b ≤ 1024) (h2 : (xs.length : Int) ≠ N ∨ tdy xs 0 = false) : nxE N bb ys b xs = 80 := by
  have e : szE N xs = 80 := by unfold szE; rw [if_pos h2]
  unfold nxE
  rw [if_neg (fun h => h h1), e, if_pos (by decide)]
theorem nx90 {N bb : Int} {ys : List Int} {b : Int} {xs : List Int} (h1 : bb < b ∧ b ≤ 1024) (h2 : (xs.length : Int) = N) (h3 : tdy xs 0 = true) (h4 : wdB (szL xs) b = false) : nxE N bb ys b xs = 90 := by
  have e : szE N xs = 0 := by unfold szE; rw [if_neg (by rw [h3]; simp [h2])]
  unfold nxE
  rw [if_neg (fun h => h h1), e, if_neg (by simp), if_pos h4]
theorem nx110 {N bb : Int} {ys : List Int} {b : Int} {xs : List Int} (h1 : bb < b ∧ b ≤ 1024) (h2 : (xs.length : Int) = N) (h3 : tdy xs 0 = true) (h4 : wdB (szL xs) b = true) (h5 : ¬ Nst ys xs) : nxE N bb ys b xs = 110 := by
  have e : szE N xs = 0 := by unfold szE; rw [if_neg (by rw [h3]; simp [h2])]
  unfold nxE
  rw [if_neg (fun h => h h1), e, if_neg (by simp), h4, if_neg (by simp), if_pos h5]
theorem nx0 {N bb : Int} {ys : List Int} {b : Int} {xs : List Int} (h1 : bb < b ∧ b ≤ 1024) (h2 : (xs.length : Int) = N) (h3 : tdy xs 0 = true) (h4 : wdB (szL xs) b = true) (h5 : Nst ys xs) : nxE N bb ys b xs = 0 := by
  have e : szE N xs = 0 := by unfold szE; rw [if_neg (by rw [h3]; simp [h2])]
  unfold nxE
  rw [if_neg (fun h => h h1), e, if_neg (by simp), h4, if_neg (by simp), if_neg (fun h => h h5)]
set_option maxRecDepth 100000 in
set_option maxHeartbeats 6400000 in
theorem rnck_any (N : Int) (a : Option Addr) (l : List A) (cap : Nat) (ba : Option Addr) (bs : List Int) (bc : Nat) (ca : Option Addr) (C : List Cl) (cc : Nat) (w : World) (hl : l.length ≤ 9223372036854775807) (hbl : bs.length ≤ 9223372036854775807) (hr : Arcs w a l) (hi : Ints w ba bs) (hR : Rws w ca C) :
    Calls Try.prog 65 #[.agg #[.int .i64 N, .slice a l.length cap], .agg #[.slice ba bs.length bc, .slice ca C.length cc]] w fun e w' => e = .returned (.tuple #[.int .i64 (nsW N l bs (csl C) : Nat), .int .i64 (nsE N l bs (csl C))]) ∧ Below w.heap.size w w' := by
  obtain ⟨hg0, hg1, hb0, hsz⟩ := top2 w (.cells #[.int .i64 N, .slice a l.length cap] 24) (.cells #[.slice ba bs.length bc, .slice ca C.length cc] 28)
  have HGN0 : Hid (GN ((w.alloc (.cells #[.int .i64 N, .slice a l.length cap] 24)).alloc (.cells #[.slice ba bs.length bc, .slice ca C.length cc] 28)) w.heap.size N a l cap ba bs bc ca C cc) := ⟨hg0, hg1, hr.on hb0, hi.on hb0, hR.on hb0⟩
  have HB0 := Lib.hid hb0
  obtain ⟨E, HE⟩ := named (nsE N l bs (csl C))
  obtain ⟨Q, HQ⟩ := named (nsW N l bs (csl C))
  rw [HE.out, HQ.out]
  generalize hp : w.heap.size = p at *
  go_enter Try.func65, Try.ntmps65
  obtain ⟨g0, g1, g2, g3⟩ := HGN0.out.cells
  go_wp2_with fail
  generalize hW : (w.alloc (.cells #[.int .i64 N, .slice a l.length cap] 24)).alloc (.cells #[.slice ba bs.length bc, .slice ca C.length cc] 28) = W at *
  clear hW hg0 hg1 hb0 hr hi hR
  have HCK := Lib.hid (rcheck_any N a l cap W hl HGN0.out.arcs)
  obtain ⟨ce, HCE⟩ := named (chkE N l)
  generalize chkAt N l = ca0 at *
  rw [HCE.out] at HCK
  refine HCK.out.mono ?_
  rintro e w1 ⟨rfl, hb1⟩
  have HB1 := Lib.hid hb1
  have HEND : Hid (∀ wr, Below W.heap.size W wr → Below p w wr) := fun wr h => HB0.out.trans (h.mono (by omega))
  clear hb1 HCK g0 g1 g2 g3
  by_cases hce : ce = 0
  rotate_left
  · have e1 : (ce != 0) = true := by simpa using hce
    obtain rfl : E = ce := by rw [← HE.out]; unfold nsE; rw [if_pos (by rw [HCE.out]; exact hce), HCE.out]
    obtain rfl : Q = 0 := by rw [← HQ.out]; unfold nsW; rw [if_pos (by rw [HCE.out]; exact hce)]
    go_wp2_with fail
    go_ret2
    exact ⟨rfl, HEND.out _ HB1.out⟩
  subst hce
  have HGN1 := Lib.hid (HGN0.out.on HB1.out)
  obtain ⟨g0, g1, g2, g3⟩ := HGN1.out.cells
  by_cases hcond : ¬ (1 ≤ bs.length ∧ bs.length ≤ 5) ∨ C.length ≠ bs.length
  · obtain rfl : E = 111 := by rw [← HE.out]; unfold nsE; rw [if_neg (by rw [HCE.out]; simp), csl_len, if_pos hcond]
    obtain rfl : Q = 0 := by rw [← HQ.out]; unfold nsW; rw [if_neg (by rw [HCE.out]; simp), csl_len, if_pos hcond]
    by_cases c1 : bs.length < 1
    · have c1' : (bs.length : Int) < 1 := by omega
      go_wp2_with fail
      go_ret2
      exact ⟨rfl, HEND.out _ HB1.out⟩
    · have c1' : ¬ (bs.length : Int) < 1 := by omega
      by_cases c2 : 5 < bs.length
      · have c2' : (5 : Int) < bs.length := by omega
        go_wp2_with fail
        go_ret2
        exact ⟨rfl, HEND.out _ HB1.out⟩
      · have c2' : ¬ (5 : Int) < bs.length := by omega
        have c3 : ((C.length : Int) != bs.length) = true := by simp; omega
        go_wp2_with fail
        go_ret2
        exact ⟨rfl, HEND.out _ HB1.out⟩
  have hb5 : 1 ≤ bs.length ∧ bs.length ≤ 5 := by omega
  have hCb : C.length = bs.length := by omega
  have c1' : ¬ (bs.length : Int) < 1 := by omega
  have c2' : ¬ (5 : Int) < bs.length := by omega
  have c3 : ((C.length : Int) != bs.length) = false := by simp; omega
  have HEl : Hid ((lkE N bs (csl C) 0 0 []) = (Q, E)) := by
    show _ = _
    rw [← HE.out, ← HQ.out]
    unfold nsE nsW
    rw [if_neg (by rw [HCE.out]; simp), csl_len, if_neg hcond, if_neg (by rw [HCE.out]; simp), if_neg hcond]
  obtain ⟨n, hn⟩ : ∃ n : Nat, N = n := ⟨N.toNat, by have := (chk_zero HCE.out).1; omega⟩
  have hn8 : n ≤ 1024 := by have := (chk_zero HCE.out).2.1; omega
  have HHN := Lib.hid hn
  have HCB := Lib.hid hCb
  have hC5 : C.length ≤ 5 := by omega
  clear hcond hCb hn
  go_wp2_with fail
  clear g0 g1 g2 g3 c1' c2' c3 HGN1
  go_loopw [8] (fun i wr => ∃ (k : Nat), k ≤ bs.length ∧ i = .int .i64 k ∧ Hid (lkE N (bs.drop k) ((csl C).drop k) k (pb bs k) (pl (csl C) k) = (Q, E)) ∧ Hid (0 < k → 1 ≤ bs.getD (k - 1) 0 ∧ (lvl (csl C) (k - 1)).length = n) ∧ Hid (Below W.heap.size W wr)) (fun i _ => bs.length - (intOf i).toNat)
  case atStart => exact ⟨0, Nat.zero_le _, rfl, HEl, fun h => absurd h (by omega), HB1⟩
  case round =>
    clear HB1
    obtain ⟨k, hk, rfl, HLE, HPR, HBR⟩ := hrel
    have HGR := Lib.hid (HGN0.out.on HBR.out)
    obtain ⟨g0, g1, g2, g3⟩ := HGR.out.cells
    by_cases hlk : k < bs.length
    rotate_left
    · have hlk' : ¬ (k : Int) < bs.length := by omega
      obtain ⟨rfl, rfl⟩ : Q = 0 ∧ E = 0 := by
        have h := HLE.out
        rw [show bs.drop k = [] from List.drop_eq_nil_of_le (by omega)] at h
        simp only [lkE] at h
        injection h with h1 h2
        exact ⟨h1.symm, h2.symm⟩
      go_wp2_with fail
      go_ret2
      exact ⟨rfl, HEND.out _ HBR.out⟩
    · have hlk' : (k : Int) < bs.length := by omega
      have hkC : k < C.length := by have := HCB.out; omega
      have hkC' : (k : Int) < C.length := by omega
      have hk0 : (0 : Int) ≤ k := by omega
      obtain ⟨ib, ob, hib⟩ := HGR.out.ints.get
      obtain ⟨rfl, hibl, hiat⟩ := hib (by omega)
      have b0 := hiat k hlk
      obtain ⟨bx, ox, hbx⟩ := HGR.out.rws.get
      obtain ⟨rfl, hbl2, hcell⟩ := hbx (by omega)
      have d0 := hcell k hkC
      unfold Cl.val at d0
      have hLE := HLE.out
      rw [drop_getI hlk, drop_getC (by rw [csl_len]; exact hkC)] at hLE
      simp only [lkE] at hLE
      obtain ⟨b, HBb⟩ := named (bs.getD k 0)
      have hIX := (HGR.out.rws.2 k hkC).1
      have hXL := (HGR.out.rws.2 k hkC).2
      rw [csl_at] at hLE
      obtain ⟨xs, va, vc, HXS, HVA, HVC⟩ : ∃ xs va vc, Hid ((cl C k).xs = xs) ∧ Hid ((cl C k).a = va) ∧ Hid ((cl C k).c = vc) := ⟨_, _, _, rfl, rfl, rfl⟩
      rw [HXS.out, HVA.out, HVC.out] at d0
      rw [HXS.out, HVA.out] at hIX
      rw [HXS.out] at hXL
      rw [HXS.out, HBb.out] at hLE
      rw [HBb.out] at b0
      have HIX := Lib.hid hIX
      have HLE2 := Lib.hid hLE
      have HPV : Hid (0 < k → ∃ pbk, Hid (bs.getD (k - 1) 0 = pbk) ∧ wr.cell? ⟨ib, ob + (k - 1), none⟩ = some (.int .i64 pbk)) := fun h => ⟨_, rfl, hiat (k - 1) (by omega)⟩
      have HD1 : Hid (0 < k → wr.cell? ⟨bx, ox + (k - 1), none⟩ = some (.slice (cl C (k - 1)).a (cl C (k - 1)).xs.length (cl C (k - 1)).c)) := fun h => by have := hcell (k - 1) (by omega); unfold Cl.val at this; exact this
      have h10 : k ≤ 10 := by omega
      have HG0 := Lib.hid g0
      have HG1 := Lib.hid g1
      have HG3 := Lib.hid g3
      have HD0 := Lib.hid d0
      have hp1 : p + 1 < wr.heap.size := lt_of_block HGR.out.n
      clear hcell hbx hiat hib hLE hIX HLE
      have HR1 : Hid (¬ (pb bs k < b ∧ b ≤ 1024) → (Q, E) = (k + 1, 1)) := fun h => by
        have h2 := HLE2.out
        have e : nxE N (pb bs k) (pl (csl C) k) b xs = 1 := by unfold nxE; rw [if_pos h]
        rw [e, if_pos (by decide)] at h2
        exact h2.symm
      -- the bound
      have HBND : Hid (b < 1 ∨ 1024 < b ∨ (0 < k ∧ b ≤ bs.getD (k - 1) 0) → (Q, E) = (k + 1, 1)) := fun h => HR1.out (fun h2 => by
        unfold pb at h2
        by_cases e : k = 0
        · rw [if_pos e] at h2; omega
        · rw [if_neg e] at h2
          have := (HPR.out (by omega)).1
          omega)
      by_cases q1 : b < 1
      · obtain ⟨rfl, rfl⟩ : Q = k + 1 ∧ E = 1 := by have := HBND.out (.inl q1); injection this with h1 h2; exact ⟨h1, h2⟩
        go_wp2_with fail
        go_ret2
        exact ⟨rfl, HEND.out _ HBR.out⟩
      · by_cases q2 : 1024 < b
        · obtain ⟨rfl, rfl⟩ : Q = k + 1 ∧ E = 1 := by have := HBND.out (.inr (.inl q2)); injection this with h1 h2; exact ⟨h1, h2⟩
          go_wp2_with fail
          go_ret2
          exact ⟨rfl, HEND.out _ HBR.out⟩
        · by_cases hk0' : k = 0
          · have hkz : ¬ (0 : Int) < k := by omega
            have HK0 := Lib.hid hk0'
            have HBK : Hid (pb bs k < b ∧ b ≤ 1024) := by
              unfold pb
              rw [if_pos hk0']
              constructor <;> omega
            clear hk0'
            have HSTP : Hid (∀ v, v ≠ 0 → nxE N (pb bs k) (pl (csl C) k) b xs = v → (Q, E) = (k + 1, v)) := fun v hv e => by
              have h2 := HLE2.out
              rw [e, if_pos hv] at h2
              exact h2.symm
            have HRR := Lib.hid (fun W2 (hb : Below wr.heap.size wr W2) => rright_any n a l cap va xs vc W2 hn8 hXL (HIX.out.on hb))
            have HBD : Hid (Below wr.heap.size wr wr.drew) := (Below.refl _ _).drew
            obtain ⟨R, HRv⟩ := named (decide (xs.length = n) && tdy xs 0)
            rw [HRv.out, ← HHN.out] at HRR
            have hbxl : bx < wr.heap.size := hbl2
            go_wp2_with fail
            go_region_held3 (fun w' => w'.cell? ⟨p, 0, none⟩ = some (.int .i64 N) ∧ w'.cell? ⟨p, 1, none⟩ = some (.slice a l.length cap) ∧ w'.cell? ⟨p + 1, 1, none⟩ = some (.slice (some ⟨bx, ox, none⟩) C.length cc) ∧ w'.cell? ⟨bx, ox + k, none⟩ = some (.slice va xs.length vc)) (go_keep) ((go_at_call 90; refine (HRR.out _ HBD.out).mono ?_; rintro e w2 ⟨rfl, hb2⟩; have hb2 := HBD.out.trans hb2; have v0 := (hb2.cell (p := ⟨p, 0, none⟩) (by show p < _; omega)).trans HG0.out; have v1 := (hb2.cell (p := ⟨p, 1, none⟩) (by show p < _; omega)).trans HG1.out; have v2 := (hb2.cell (p := ⟨p + 1, 1, none⟩) (by show p + 1 < _; omega)).trans HG3.out; have v3 := (hb2.cell (p := ⟨bx, ox + k, none⟩) hbxl).trans HD0.out; have HB2 := Lib.hid hb2; clear hb2))
            have HBW2 : Hid (Below W.heap.size W w2) := HBR.out.trans (HB2.out.mono HBR.out.size)
            have hz2 := HB2.out.size
            clear g0 g1 g2 g3 b0 d0 HRR
            rcases R with _ | _
            · obtain ⟨rfl, rfl⟩ : Q = k + 1 ∧ E = 80 := by
                have := HSTP.out 80 (by decide) (nx80 HBK.out (by
                  have h := HRv.out
                  rw [Bool.and_eq_false_iff, decide_eq_false_iff_not] at h
                  rcases h with h | h
                  · left; rw [HHN.out]; omega
                  · right; exact h))
                injection this with h1 h2
                exact ⟨h1, h2⟩
              clear v0 v1 v2 v3
              go_wp2_with fail
              go_ret2
              exact ⟨rfl, HEND.out _ HBW2.out⟩
            · obtain ⟨hxn, hty⟩ : xs.length = n ∧ tdy xs 0 = true := by
                have h := HRv.out
                rw [Bool.and_eq_true, decide_eq_true_eq] at h
                exact h
              have HXN : Hid ((xs.length : Int) = N) := by show _ = _; rw [HHN.out]; omega
              have HTY := Lib.hid hty
              have HXn := Lib.hid hxn
              have HSZ := Lib.hid (rsize_any va xs vc w2 (by omega) hty (HIX.out.on HB2.out))
              have hszl : (szL xs).length ≤ 1024 := by have := szL_length xs; omega
              clear hxn hty v0 v1
              go_wp2_with fail
              refine HSZ.out.mono ?_
              rintro e w3 ⟨sv, sc, rfl, hown3, hb3⟩
              have HB3 : Hid (Below W.heap.size W w3) := HBW2.out.trans (hb3.mono HBW2.out.size)
              have hI3 := own_ints hown3 rfl
              have HGS := Lib.hid (greatest_any sv (ints (szL xs)) sc w3 (by rw [ints_len]; omega) hI3)
              rw [ints_len] at HGS
              have HWD := Lib.hid (gm_wd (S := szL xs) (b := b) (by omega))
              obtain ⟨gm, HGM⟩ := named (gmx (ints (szL xs)))
              rw [HGM.out] at HGS HWD
              have HRB3 : Hid (Below wr.heap.size wr w3) := HB2.out.trans (hb3.mono hz2)
              clear HSZ hown3 hb3 hI3 v2 v3
              go_wp2_with fail
              refine HGS.out.mono ?_
              rintro e w3' ⟨rfl, rfl⟩
              by_cases hgm : b < gm
              · obtain ⟨rfl, rfl⟩ : Q = k + 1 ∧ E = 90 := by
                  have := HSTP.out 90 (by decide) (nx90 HBK.out HXN.out HTY.out (by
                    cases h : wdB (szL xs) b with
                    | false => rfl
                    | true => have := HWD.out.2 h; omega))
                  injection this with h1 h2
                  exact ⟨h1, h2⟩
                go_wp2_with fail
                go_ret2
                exact ⟨rfl, HEND.out _ HB3.out⟩
              · have HWT : Hid (wdB (szL xs) b = true) := HWD.out.1 (by omega)
                have HNX : Hid (lkE N (bs.drop (k + 1)) ((csl C).drop (k + 1)) (k + 1) (pb bs (k + 1)) (pl (csl C) (k + 1)) = (Q, E)) := by
                  have h2 := HLE2.out
                  rw [nx0 HBK.out HXN.out HTY.out HWT.out (by unfold pl; rw [if_pos HK0.out]; exact nst_nil _), if_neg (by simp)] at h2
                  rw [pb_succ, pl_succ, csl_at, HXS.out, HBb.out]
                  exact h2
                have HPN : Hid (0 < k + 1 → 1 ≤ bs.getD (k + 1 - 1) 0 ∧ (lvl (csl C) (k + 1 - 1)).length = n) := fun _ => by
                  rw [Nat.add_sub_cancel, HBb.out, csl_at, HXS.out]
                  exact ⟨by omega, HXn.out⟩
                go_wp2_with fail
                go_quiet (fail)
                have HB9 : Hid (Below W.heap.size W (w3'.drewN nq)) := HB3.out.trans (below_drewN _ _ _)
                go_wp2_with fail
                exact ⟨⟨k + 1, by omega, by simp, HNX, HPN, HB9⟩, by simp [intOf]; omega⟩
          · have hkz : (0 : Int) < k := by omega
            obtain ⟨k1, HK1⟩ : ∃ k1, Hid (k = k1 + 1) := ⟨k - 1, by show _ = _; omega⟩
            obtain ⟨pbk, HPB0, hpc⟩ := HPV.out (by omega)
            have hke : k - 1 = k1 := by have := HK1.out; omega
            rw [hke] at hpc
            have ek : (k : Int) - 1 = (k1 : Int) := by have := HK1.out; omega
            have ev1 : IntKind.i64.wrap ((k : Int) - 1) = (k1 : Int) := by rw [ek, IntKind.wrap_i64]; omega
            have ev2 : IntKind.i64.wrap (k1 : Int) = (k1 : Int) := by rw [IntKind.wrap_i64]; have := HK1.out; omega
            have hk1b : (k1 : Int) < bs.length := by have := HK1.out; omega
            have hk1n : (0 : Int) ≤ k1 := by omega
            by_cases q3 : b ≤ pbk
            · obtain ⟨rfl, rfl⟩ : Q = k + 1 ∧ E = 1 := by have := HBND.out (.inr (.inr ⟨by omega, by rw [HPB0.out]; exact q3⟩)); injection this with h1 h2; exact ⟨h1, h2⟩
              clear hke hk0'
              go_wp2_with fail
              go_ret2
              exact ⟨rfl, HEND.out _ HBR.out⟩
            · have HPB : Hid (bs.getD (k - 1) 0 < b) := by show _ < _; rw [HPB0.out]; omega
              clear hke
              have HBK : Hid (pb bs k < b ∧ b ≤ 1024) := by
                unfold pb
                rw [if_neg (by omega)]
                have := HPB.out
                constructor <;> omega
              clear hk0'
              have HSTP : Hid (∀ v, v ≠ 0 → nxE N (pb bs k) (pl (csl C) k) b xs = v → (Q, E) = (k + 1, v)) := fun v hv e => by
                have h2 := HLE2.out
                rw [e, if_pos hv] at h2
                exact h2.symm
              have HRR := Lib.hid (fun W2 (hb : Below wr.heap.size wr W2) => rright_any n a l cap va xs vc W2 hn8 hXL (HIX.out.on hb))
              have HBD : Hid (Below wr.heap.size wr wr.drew) := (Below.refl _ _).drew
              obtain ⟨R, HRv⟩ := named (decide (xs.length = n) && tdy xs 0)
              rw [HRv.out, ← HHN.out] at HRR
              have hbxl : bx < wr.heap.size := hbl2
              go_wp2_with fail
              go_region_held3 (fun w' => w'.cell? ⟨p, 0, none⟩ = some (.int .i64 N) ∧ w'.cell? ⟨p, 1, none⟩ = some (.slice a l.length cap) ∧ w'.cell? ⟨p + 1, 1, none⟩ = some (.slice (some ⟨bx, ox, none⟩) C.length cc) ∧ w'.cell? ⟨bx, ox + k, none⟩ = some (.slice va xs.length vc)) (go_keep) ((go_at_call 90; refine (HRR.out _ HBD.out).mono ?_; rintro e w2 ⟨rfl, hb2⟩; have hb2 := HBD.out.trans hb2; have v0 := (hb2.cell (p := ⟨p, 0, none⟩) (by show p < _; omega)).trans HG0.out; have v1 := (hb2.cell (p := ⟨p, 1, none⟩) (by show p < _; omega)).trans HG1.out; have v2 := (hb2.cell (p := ⟨p + 1, 1, none⟩) (by show p + 1 < _; omega)).trans HG3.out; have v3 := (hb2.cell (p := ⟨bx, ox + k, none⟩) hbxl).trans HD0.out; have HB2 := Lib.hid hb2; clear hb2))
              have HBW2 : Hid (Below W.heap.size W w2) := HBR.out.trans (HB2.out.mono HBR.out.size)
              have hz2 := HB2.out.size
              clear g0 g1 g2 g3 b0 d0 HRR
              rcases R with _ | _
              · obtain ⟨rfl, rfl⟩ : Q = k + 1 ∧ E = 80 := by
                  have := HSTP.out 80 (by decide) (nx80 HBK.out (by
                    have h := HRv.out
                    rw [Bool.and_eq_false_iff, decide_eq_false_iff_not] at h
                    rcases h with h | h
                    · left; rw [HHN.out]; omega
                    · right; exact h))
                  injection this with h1 h2
                  exact ⟨h1, h2⟩
                clear v0 v1 v2 v3
                go_wp2_with fail
                go_ret2
                exact ⟨rfl, HEND.out _ HBW2.out⟩
              · obtain ⟨hxn, hty⟩ : xs.length = n ∧ tdy xs 0 = true := by
                  have h := HRv.out
                  rw [Bool.and_eq_true, decide_eq_true_eq] at h
                  exact h
                have HXN : Hid ((xs.length : Int) = N) := by show _ = _; rw [HHN.out]; omega
                have HTY := Lib.hid hty
                have HXn := Lib.hid hxn
                have HSZ := Lib.hid (rsize_any va xs vc w2 (by omega) hty (HIX.out.on HB2.out))
                have hszl : (szL xs).length ≤ 1024 := by have := szL_length xs; omega
                clear hxn hty v0 v1
                go_wp2_with fail
                refine HSZ.out.mono ?_
                rintro e w3 ⟨sv, sc, rfl, hown3, hb3⟩
                have HB3 : Hid (Below W.heap.size W w3) := HBW2.out.trans (hb3.mono HBW2.out.size)
                have hI3 := own_ints hown3 rfl
                have HGS := Lib.hid (greatest_any sv (ints (szL xs)) sc w3 (by rw [ints_len]; omega) hI3)
                rw [ints_len] at HGS
                have HWD := Lib.hid (gm_wd (S := szL xs) (b := b) (by omega))
                obtain ⟨gm, HGM⟩ := named (gmx (ints (szL xs)))
                rw [HGM.out] at HGS HWD
                have HRB3 : Hid (Below wr.heap.size wr w3) := HB2.out.trans (hb3.mono hz2)
                clear HSZ hown3 hb3 hI3 v2 v3
                go_wp2_with fail
                refine HGS.out.mono ?_
                rintro e w3' ⟨rfl, rfl⟩
                by_cases hgm : b < gm
                · obtain ⟨rfl, rfl⟩ : Q = k + 1 ∧ E = 90 := by
                    have := HSTP.out 90 (by decide) (nx90 HBK.out HXN.out HTY.out (by
                      cases h : wdB (szL xs) b with
                      | false => rfl
                      | true => have := HWD.out.2 h; omega))
                    injection this with h1 h2
                    exact ⟨h1, h2⟩
                  go_wp2_with fail
                  go_ret2
                  exact ⟨rfl, HEND.out _ HB3.out⟩
                · have HWT : Hid (wdB (szL xs) b = true) := HWD.out.1 (by omega)
                  obtain ⟨ys, ua, uc, HYS, HUA, HUC⟩ : ∃ ys ua uc, Hid ((cl C (k - 1)).xs = ys) ∧ Hid ((cl C (k - 1)).a = ua) ∧ Hid ((cl C (k - 1)).c = uc) := ⟨_, _, _, rfl, rfl, rfl⟩
                  have hyn : ys.length = n := by have := (HPR.out (by omega)).2; rw [csl_at, HYS.out] at this; exact this
                  have hIY := (HGR.out.rws.2 (k - 1) (by omega)).1
                  rw [HYS.out, HUA.out] at hIY
                  have hD1 := HD1.out (by omega)
                  rw [HYS.out, HUA.out, HUC.out] at hD1
                  have ek1 : k - 1 = k1 := by have := HK1.out; omega
                  rw [ek1] at hD1
                  have hxn' := HXn.out
                  have hx1 : xs.length ≤ 1024 := by omega
                  have hy1 : ys.length ≤ 1024 := by omega
                  have hyx : ys.length ≤ xs.length := by omega
                  clear hyn hxn'
                  have HNE := Lib.hid (fun W2 (hb : Below wr.heap.size wr W2) => nested_any ua ys uc va xs vc W2 (by omega) (by omega) (by omega) (hIY.on hb) (HIX.out.on hb))
                  obtain ⟨T, HTT⟩ := named (decide (Nst ys xs))
                  rw [HTT.out] at HNE
                  have u0 := (HRB3.out.cell (p := ⟨p + 1, 1, none⟩) (by show p + 1 < _; omega)).trans HG3.out
                  have u1 := (HRB3.out.cell (p := ⟨bx, ox + k1, none⟩) hbxl).trans hD1
                  have u2 := (HRB3.out.cell (p := ⟨bx, ox + k, none⟩) hbxl).trans HD0.out
                  have U0 := Lib.hid u0
                  have U1 := Lib.hid u1
                  have U2 := Lib.hid u2
                  have HD9 := Lib.hid hD1
                  have HBD3 : Hid (Below w3'.heap.size w3' w3'.drew) := (Below.refl _ _).drew
                  have hzz := HRB3.out.size
                  have hk1C : (k1 : Int) < C.length := by omega
                  have hk10 : (0 : Int) ≤ k1 := by omega
                  clear hIY ek1 hD1
                  go_wp2_with fail
                  go_region_held3 (fun w' => w'.cell? ⟨p + 1, 1, none⟩ = some (.slice (some ⟨bx, ox, none⟩) C.length cc) ∧ w'.cell? ⟨bx, ox + k1, none⟩ = some (.slice ua ys.length uc) ∧ w'.cell? ⟨bx, ox + k, none⟩ = some (.slice va xs.length vc)) (go_keep) ((go_at_call 93; refine (HNE.out _ (HRB3.out.trans (HBD3.out.mono hzz))).mono ?_; rintro e w4 ⟨rfl, hb4⟩; have hb4 := HBD3.out.trans hb4; have v0 := (hb4.cell (p := ⟨p + 1, 1, none⟩) (by show p + 1 < _; omega)).trans U0.out; have v1 := (hb4.cell (p := ⟨bx, ox + k1, none⟩) (by show bx < _; omega)).trans U1.out; have v2 := (hb4.cell (p := ⟨bx, ox + k, none⟩) (by show bx < _; omega)).trans U2.out; have HB4 := Lib.hid hb4; clear hb4))
                  have HB9 : Hid (Below W.heap.size W w4) := HB3.out.trans (HB4.out.mono HB3.out.size)
                  have HPL : Hid (pl (csl C) k = ys) := by
                    show _ = _
                    unfold pl
                    rw [if_neg (by omega), csl_at, HYS.out]
                  clear u0 u1 u2 v0 v1 v2
                  rcases T with _ | _
                  · obtain ⟨rfl, rfl⟩ : Q = k + 1 ∧ E = 110 := by
                      have := HSTP.out 110 (by decide) (nx110 HBK.out HXN.out HTY.out HWT.out (by rw [HPL.out]; simpa using HTT.out))
                      injection this with h1 h2
                      exact ⟨h1, h2⟩
                    go_wp2_with fail
                    go_ret2
                    exact ⟨rfl, HEND.out _ HB9.out⟩
                  · have HNX : Hid (lkE N (bs.drop (k + 1)) ((csl C).drop (k + 1)) (k + 1) (pb bs (k + 1)) (pl (csl C) (k + 1)) = (Q, E)) := by
                      have h2 := HLE2.out
                      rw [nx0 HBK.out HXN.out HTY.out HWT.out (by rw [HPL.out]; simpa using HTT.out), if_neg (by simp)] at h2
                      rw [pb_succ, pl_succ, csl_at, HXS.out, HBb.out]
                      exact h2
                    have HPN : Hid (0 < k + 1 → 1 ≤ bs.getD (k + 1 - 1) 0 ∧ (lvl (csl C) (k + 1 - 1)).length = n) := fun _ => by
                      rw [Nat.add_sub_cancel, HBb.out, csl_at, HXS.out]
                      exact ⟨by omega, HXn.out⟩
                    go_wp2_with fail
                    exact ⟨⟨k + 1, by omega, by simp, HNX, HPN, HB9⟩, by simp [intOf]; omega⟩
end Go.Proofs.Ytpmjbeiclmllmaa
