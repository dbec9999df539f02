/-
  The reference of nests: greatest, nested; the book's SameNest.
-/
import Derived.Test.YtpmjbeiclmllmaaJoM
import Derived.Test.YtpmjbeiclmllmaaRSz
import Derived.Deep.RegionHeld3
namespace Go.Proofs.Ytpmjbeiclmllmaa
open Go.RowKit
/-- The greatest number, or 0. -/
def gmx (xs : List Int) : Int := xs.foldl max 0
theorem gmx_snoc (xs : List Int) (x : Int) : gmx (xs ++ [x]) = max (gmx xs) x := by simp [gmx]
theorem gmx_take {xs : List Int} {k : Nat} (h : k < xs.length) : gmx (xs.take (k + 1)) = max (gmx (xs.take k)) (xs.getD k 0) := by rw [take_snocI h, gmx_snoc]
theorem gmx_le (xs : List Int) (b : Int) : gmx xs ≤ b ↔ 0 ≤ b ∧ ∀ j, j < xs.length → xs.getD j 0 ≤ b := by
  have : ∀ k, k ≤ xs.length → (gmx (xs.take k) ≤ b ↔ 0 ≤ b ∧ ∀ j, j < k → xs.getD j 0 ≤ b) := by
    intro k
    induction k with
    | zero => intro _; simp [gmx]
    | succ k ih =>
      intro hk
      rw [gmx_take (by omega)]
      have ih := ih (by omega)
      constructor
      · intro h
        have h1 := ih.1 (by omega)
        refine ⟨h1.1, fun j hj => ?_⟩
        rcases Nat.lt_or_ge j k with h2 | h2
        · exact h1.2 j h2
        · have e : j = k := by omega
          rw [e]
          omega
      · rintro ⟨h1, h2⟩
        have h3 := ih.2 ⟨h1, fun j hj => h2 j (by omega)⟩
        have h4 := h2 k (by omega)
        omega
  have h := this xs.length (Nat.le_refl _)
  rw [List.take_length] at h
  exact h
set_option maxRecDepth 100000 in
set_option maxHeartbeats 1600000 in
theorem greatest_any (a : Option Addr) (xs : List Int) (c : Nat) (w : World) (hx : xs.length ≤ 9223372036854775807) (hi : Ints w a xs) :
    Calls Try.prog 91 #[.slice a xs.length c] w fun e w' => e = .returned (.int .i64 (gmx xs)) ∧ w' = w := by
  obtain ⟨ix, ox, hix⟩ := hi.get
  have HIX := Lib.hid hix
  clear hi hix
  obtain ⟨R, HR⟩ := named (gmx xs)
  rw [HR.out]
  go_enter Try.func91, Try.ntmps91
  go_wp2_with fail
  go_loop [3, 4] (fun s i => ∃ (k : Nat) (m : Int), k ≤ xs.length ∧ i = .int .i64 k ∧ s = .int .i64 m ∧ Hid (gmx (xs.take k) = m)) (fun _ i => xs.length - (intOf i).toNat)
  case atStart => exact ⟨0, 0, Nat.zero_le _, rfl, rfl, by show _ = _; simp [gmx]⟩
  case round =>
    obtain ⟨k, m, hk, rfl, rfl, HK⟩ := hrel
    by_cases hlk : k < xs.length
    · obtain ⟨rfl, hbl, hat⟩ := HIX.out (by omega)
      have hlk' : (k : Int) < xs.length := by omega
      have y0 := hat k hlk
      have HT := Lib.hid (gmx_take hlk)
      generalize xs.getD k 0 = y at *
      rw [HK.out] at HT
      clear hat
      by_cases h : m < y
      · have e1 : max m y = y := by omega
        have e2 : ¬ y ≤ m := by omega
        have e3 : (if m < y then y else m) = y := if_pos h
        have e4 : (if y < m then m else y) = y := if_neg (by omega)
        have HT2 : Hid (gmx (xs.take (k + 1)) = y) := by show _ = _; rw [HT.out, e1]
        go_wp2_with fail
        exact ⟨⟨k + 1, y, by omega, by simp, rfl, HT2⟩, by simp [intOf]; omega⟩
      · have e1 : max m y = m := by omega
        have e2 : y ≤ m := by omega
        have e3 : (if m < y then y else m) = m := if_neg h
        have e4 : (if y < m then m else y) = m := by split <;> omega
        have HT2 : Hid (gmx (xs.take (k + 1)) = m) := by show _ = _; rw [HT.out, e1]
        go_wp2_with fail
        exact ⟨⟨k + 1, m, by omega, by simp, rfl, HT2⟩, by simp [intOf]; omega⟩
    · have hlk' : ¬ (k : Int) < xs.length := by omega
      obtain rfl : m = R := by
        have h := HK.out
        rw [List.take_of_length_le (by omega)] at h
        rw [← h, HR.out]
      go_wp2_with fail
      go_ret
      exact ⟨rfl, rfl⟩
set_option maxRecDepth 100000 in
set_option maxHeartbeats 1600000 in
theorem nested_any (a : Option Addr) (xs : List Int) (c : Nat) (b : Option Addr) (ys : List Int) (d : Nat) (w : World) (hx : xs.length ≤ 1024) (hxy : xs.length ≤ ys.length) (hy : ys.length ≤ 1024) (hi : Ints w a xs) (hj : Ints w b ys) :
    Calls Try.prog 93 #[.slice a xs.length c, .slice b ys.length d] w fun e w' => e = .returned (.bool (decide (Nst xs ys))) ∧ Below w.heap.size w w' := by
  obtain ⟨ix, ox, hix⟩ := hi.get
  obtain ⟨iy, oy, hiy⟩ := hj.get
  have HIX := Lib.hid hix
  have HIY := Lib.hid hiy
  clear hi hix hj hiy
  obtain ⟨R, HR⟩ := named (decide (Nst xs ys))
  rw [HR.out]
  generalize hp : w.heap.size = p at *
  go_enter Try.func93, Try.ntmps93
  go_wp2_with fail
  go_loopw [5] (fun i wr => ∃ (v : Nat), v ≤ xs.length ∧ i = .int .i64 v ∧ Hid (∀ x, x < v → ∀ u, u < x → xs.getD u 0 = xs.getD x 0 → ys.getD u 0 = ys.getD x 0) ∧ Hid (Below p w wr)) (fun i _ => xs.length - (intOf i).toNat)
  case atStart => exact ⟨0, Nat.zero_le _, rfl, fun x hx => absurd hx (by omega), Below.refl _ _⟩
  case round =>
    obtain ⟨v, hv, rfl, HV, HBR⟩ := hrel
    by_cases hlv : v < xs.length
    · have hlv' : (v : Int) < xs.length := by omega
      have hlv2 : (v : Int) < ys.length := by omega
      go_wp2_with fail
      go_loopw [6] (fun i wr => ∃ (u : Nat), u ≤ v ∧ i = .int .i64 u ∧ Hid (∀ t, t < u → xs.getD t 0 = xs.getD v 0 → ys.getD t 0 = ys.getD v 0) ∧ Hid (Below p w wr)) (fun i _ => v - (intOf i).toNat)
      case atStart => exact ⟨0, Nat.zero_le _, rfl, fun t ht => absurd ht (by omega), HBR⟩
      case round =>
        clear HBR
        obtain ⟨u, hu, rfl, HU, HBR⟩ := hrel
        by_cases hlu : u < v
        · have hlu' : (u : Int) < v := by omega
          have hlu2 : (u : Int) < xs.length := by omega
          have hlu3 : (u : Int) < ys.length := by omega
          obtain ⟨rfl, hbl, hat⟩ := HIX.out (by omega)
          obtain ⟨rfl, hbl2, hat2⟩ := HIY.out (by omega)
          have y0 := (HBR.out.cell (p := ⟨ix, ox + u, none⟩) (hp ▸ hbl)).trans (hat u (by omega))
          have y1 := (HBR.out.cell (p := ⟨ix, ox + v, none⟩) (hp ▸ hbl)).trans (hat v (by omega))
          have y2 := (HBR.out.cell (p := ⟨iy, oy + u, none⟩) (hp ▸ hbl2)).trans (hat2 u (by omega))
          have y3 := (HBR.out.cell (p := ⟨iy, oy + v, none⟩) (hp ▸ hbl2)).trans (hat2 v (by omega))
          have HBN : Hid (∀ q, Below p w (wr.drewN q)) := fun q => HBR.out.trans (below_drewN _ _ q)
          clear hat hat2
          obtain ⟨xu, HXU⟩ := named (xs.getD u 0)
          obtain ⟨xv, HXV⟩ := named (xs.getD v 0)
          obtain ⟨yu, HYU⟩ := named (ys.getD u 0)
          obtain ⟨yv, HYV⟩ := named (ys.getD v 0)
          rw [HXU.out] at y0
          rw [HXV.out] at y1
          rw [HYU.out] at y2
          rw [HYV.out] at y3
          by_cases h1 : xu = xv
          · have e1 : (xu == xv) = true := by simpa using h1
            by_cases h2 : yu = yv
            · have e2 : (yu != yv) = false := by simpa using h2
              have HU2 : Hid (∀ t, t < u + 1 → xs.getD t 0 = xs.getD v 0 → ys.getD t 0 = ys.getD v 0) := fun t ht h => by
                rcases Nat.lt_or_ge t u with h3 | h3
                · exact HU.out t h3 h
                · have e : t = u := by omega
                  rw [e, HYU.out, HYV.out, h2]
              clear h1 h2
              go_wp2_with fail
              go_quiet (fail)
              have HBN1 := Lib.hid (HBN.out nq)
              go_wp2_with fail
              exact ⟨⟨u + 1, by omega, by simp, HU2, HBN1⟩, by simp [intOf]; omega⟩
            · have e2 : (yu != yv) = true := by simpa using h2
              obtain rfl : R = false := by
                rw [← HR.out]
                exact decide_eq_false (fun h => h2 (by rw [← HYU.out, ← HYV.out]; exact h u (by omega) v hlv (by rw [HXU.out, HXV.out, h1])))
              clear h1 h2
              go_wp2_with fail
              go_quiet (fail)
              have HBN1 := Lib.hid (HBN.out nq)
              go_wp2_with fail
              go_ret
              exact ⟨rfl, HBN1.out⟩
          · have e1 : (xu == xv) = false := by simpa using h1
            have HU2 : Hid (∀ t, t < u + 1 → xs.getD t 0 = xs.getD v 0 → ys.getD t 0 = ys.getD v 0) := fun t ht h => by
              rcases Nat.lt_or_ge t u with h3 | h3
              · exact HU.out t h3 h
              · have e : t = u := by omega
                rw [e, HXU.out, HXV.out] at h
                exact absurd h h1
            clear h1
            go_wp2_with fail
            go_quiet (fail)
            have HBN1 := Lib.hid (HBN.out nq)
            go_wp2_with fail
            exact ⟨⟨u + 1, by omega, by simp, HU2, HBN1⟩, by simp [intOf]; omega⟩
        · have hlu' : ¬ (u : Int) < v := by omega
          have HV2 : Hid (∀ x, x < v + 1 → ∀ u, u < x → xs.getD u 0 = xs.getD x 0 → ys.getD u 0 = ys.getD x 0) := fun x hx t ht h => by
            rcases Nat.lt_or_ge x v with h3 | h3
            · exact HV.out x h3 t ht h
            · have e : x = v := by omega
              rw [e] at h ⊢
              exact HU.out t (by omega) h
          go_wp2_with fail
          exact ⟨⟨v + 1, by omega, by simp, HV2, HBR⟩, by simp [intOf]; omega⟩
    · have hlv' : ¬ (v : Int) < xs.length := by omega
      obtain rfl : R = true := by
        rw [← HR.out]
        refine decide_eq_true (fun u hu x hx h => ?_)
        rcases Nat.lt_trichotomy u x with h3 | h3 | h3
        · exact HV.out x (by omega) u h3 h
        · rw [h3]
        · exact (HV.out u (by omega) x h3 h.symm).symm
      go_wp2_with fail
      go_ret
      exact ⟨rfl, HBR.out⟩
set_option maxRecDepth 100000 in
set_option maxHeartbeats 1600000 in
theorem sameNest_any (ba ba' : Option Addr) (bs : List Int) (bc bc' : Nat) (ca ca' : Option Addr) (C C' : List Cl) (cc cc' : Nat) (w : World) (hbl : bs.length ≤ 9223372036854775807) (hCl : C.length ≤ 9223372036854775807) (hL : C'.length = C.length) (hE : csl C' = csl C) (hi : Ints w ba bs) (hR : Rws w ca C) (hi' : Ints w ba' bs) (hR' : Rws w ca' C') :
    Calls Try.prog 26 #[.agg #[.slice ba bs.length bc, .slice ca C.length cc], .agg #[.slice ba' bs.length bc', .slice ca' C'.length cc']] w fun e w' => e = .returned (.bool true) ∧ Below w.heap.size w w' := by
  obtain ⟨hg0, hg1, hb0, hsz⟩ := top2 w (.cells #[.slice ba bs.length bc, .slice ca C.length cc] 28) (.cells #[.slice ba' bs.length bc', .slice ca' C'.length cc'] 28)
  have HSI := Lib.hid (sameInts_any ba ba' bc bc' bs _ hbl (hi.on hb0) (hi'.on hb0))
  have HR := Lib.hid hR
  have HR' := Lib.hid hR'
  have HEE := Lib.hid hE
  have HB0 := Lib.hid hb0
  have HG0 := Lib.hid hg0
  have HG1 := Lib.hid hg1
  obtain ⟨⟨a0, a1⟩, _⟩ := two_cells hg0
  obtain ⟨⟨a2, a3⟩, _⟩ := two_cells hg1
  rw [hL] at HSI HB0 HG0 HG1 a0 a1 a2 a3 hsz
  rw [hL]
  have HLL := Lib.hid hL
  clear hi hi' hR hR' hE hg0 hg1 hb0 hL
  generalize hp : w.heap.size = p at *
  go_enter Try.func26, Try.ntmps26
  go_wp2_with fail
  generalize hW : (w.alloc (.cells #[.slice ba bs.length bc, .slice ca C.length cc] 28)).alloc (.cells #[.slice ba' bs.length bc', .slice ca' C.length cc'] 28) = W at *
  clear hW
  refine HSI.out.mono ?_
  rintro e w1 ⟨rfl, hb1⟩
  have HB1 := Lib.hid hb1
  have HK0 := Lib.hid ((hb1.block p (by omega)).trans HG0.out)
  have HK1 := Lib.hid ((hb1.block (p + 1) (by omega)).trans HG1.out)
  have hw1 : p + 2 ≤ w1.heap.size := by have := hb1.size; omega
  clear a0 a1 a2 a3 HSI hb1 HG0 HG1
  obtain ⟨⟨a0, a1⟩, _⟩ := two_cells HK0.out
  obtain ⟨⟨a2, a3⟩, _⟩ := two_cells HK1.out
  have hne : ((C.length : Int) != C.length) = false := by simp
  obtain ⟨bx, ox, hbx⟩ := HR.out.get
  obtain ⟨by', oy, hby⟩ := HR'.out.get
  have HBX := Lib.hid hbx
  have HBY := Lib.hid hby
  have HBW : Hid (Below p w w1) := HB0.out.trans (HB1.out.mono (by omega))
  clear hbx hby
  go_wp2_with fail
  clear a0 a1 a2 a3
  go_loopw [5] (fun i wr => ∃ (k : Nat), k ≤ C.length ∧ i = .int .i64 k ∧ Hid (Below w1.heap.size w1 wr)) (fun i _ => C.length - (intOf i).toNat)
  case atStart => exact ⟨0, Nat.zero_le _, rfl, Below.refl _ _⟩
  case round =>
    obtain ⟨k, hk, rfl, HBR⟩ := hrel
    obtain ⟨⟨a0, a1⟩, _⟩ := two_cells ((HBR.out.block p (by omega)).trans HK0.out)
    obtain ⟨⟨a2, a3⟩, _⟩ := two_cells ((HBR.out.block (p + 1) (by omega)).trans HK1.out)
    by_cases hlk : k < C.length
    · have hlk' : (k : Int) < C.length := by omega
      have hk0 : (0 : Int) ≤ k := by omega
      obtain ⟨rfl, hbl1, hcell⟩ := HBX.out (by omega)
      obtain ⟨rfl, hbl2, hcell2⟩ := HBY.out (by rw [HLL.out]; omega)
      have hbw : Below p w wr := HBW.out.trans (HBR.out.mono (by omega))
      have d0 := (hbw.cell (p := ⟨bx, ox + k, none⟩) (hp ▸ hbl1)).trans (hcell k hlk)
      have d1 := (hbw.cell (p := ⟨by', oy + k, none⟩) (hp ▸ hbl2)).trans (hcell2 k (by rw [HLL.out]; exact hlk))
      have exs : (cl C' k).xs = (cl C k).xs := by
        have := congrArg (fun cs => lvl cs k) HEE.out
        simp only [csl_at] at this
        exact this
      unfold Cl.val at d0 d1
      have hi0 := (HR.out.2 k hlk).1.on (hp ▸ hbw)
      have hi1 := (HR'.out.2 k (by rw [HLL.out]; exact hlk)).1.on (hp ▸ hbw)
      have hxl := (HR.out.2 k hlk).2
      rw [exs] at d1 hi1
      obtain ⟨xs, HXS⟩ := named (cl C k).xs
      rw [HXS.out] at d0 d1 hi0 hi1 hxl
      generalize (cl C k).a = ra at *
      generalize (cl C' k).a = rb at *
      generalize (cl C k).c = rc at *
      generalize (cl C' k).c = rd at *
      have HBD : Hid (Below wr.heap.size wr wr.drew) := (Below.refl _ _).drew
      have HSA := Lib.hid (sameInts_any ra rb rc rd xs wr.drew hxl (hi0.on HBD.out) (hi1.on HBD.out))
      have A1 := Lib.hid a1
      have A3 := Lib.hid a3
      have D0 := Lib.hid d0
      have D1 := Lib.hid d1
      have hwr : w1.heap.size ≤ wr.heap.size := HBR.out.size
      have hpw := hbw.size
      clear hcell hcell2 hi0 hi1 exs hbw
      go_wp2_with fail
      go_region_held3 (fun w' => w'.cell? ⟨p, 1, none⟩ = some (.slice (some ⟨bx, ox, none⟩) C.length cc) ∧ w'.cell? ⟨p + 1, 1, none⟩ = some (.slice (some ⟨by', oy, none⟩) C.length cc') ∧ w'.cell? ⟨bx, ox + k, none⟩ = some (.slice ra xs.length rc) ∧ w'.cell? ⟨by', oy + k, none⟩ = some (.slice rb xs.length rd)) (go_keep) ((go_at_call 19; refine HSA.out.mono ?_; rintro e w2 ⟨rfl, hb2⟩; have hb2 := HBD.out.trans hb2; have v0 := (hb2.cell (p := ⟨p, 1, none⟩) (by show p < _; omega)).trans A1.out; have v1 := (hb2.cell (p := ⟨p + 1, 1, none⟩) (by show p + 1 < _; omega)).trans A3.out; have v2 := (hb2.cell (p := ⟨bx, ox + k, none⟩) (by show bx < _; omega)).trans D0.out; have v3 := (hb2.cell (p := ⟨by', oy + k, none⟩) (by show by' < _; omega)).trans D1.out; have HB2 := Lib.hid hb2; clear hb2))
      have HBE : Hid (Below w1.heap.size w1 w2) := HBR.out.trans (HB2.out.mono hwr)
      clear a0 a1 a2 a3 d0 d1 v0 v1 v2 v3
      go_wp2_with fail
      exact ⟨⟨k + 1, by omega, by simp, HBE⟩, by simp [intOf]; omega⟩
    · have hlk' : ¬ (k : Int) < C.length := by omega
      have HBF : Hid (Below p w wr) := HBW.out.trans (HBR.out.mono (by omega))
      go_wp2_with fail
      go_ret
      exact ⟨rfl, HBF.out⟩
end Go.Proofs.Ytpmjbeiclmllmaa
