/-
  The same links and clock. == of two pairs of numbers.
-/
import Derived.Test.YtfhlfklgngpklaaS2
import Derived.ChangeKeysEq
namespace Go.Proofs.Ytfhlfklgngpklaa
open Go.RowKit Go.Maps
theorem part0 (w : World) (u v : Value) : (part 3 #[u, v] 0).run Try.prog w = .ok u w := by simp [part, Sem.run_bind, go_sem]
theorem part1 (w : World) (u v : Value) : (part 3 #[u, v] 1).run Try.prog w = .ok v w := by simp [part, Sem.run_bind, go_sem]
theorem eq64d (d : Nat) (w : World) (x y : Int) : (Op.equalIn (d + 2) 64 (.agg #[.int .i64 x, .int .i64 y]) (.agg #[.int .i64 x, .int .i64 y])).run Try.prog w = .ok true w := by
  obtain ⟨i, hi, _⟩ := info3
  have hc : Try.prog.cellsOf 3 = 1 := cells3
  have e0 : ∀ (w : World) (a : Int), (Op.equalIn (d + 1) 3 (.int .i64 a) (.int .i64 a)).run Try.prog w = .ok true w := fun w a => by
    rw [run_equalIn_int w d 3 .i64 .i64 a a Try.underlying3]
    simp
  rw [run_equalIn_array w (d + 1) _ _ Try.underlying64 hi, show List.range 2 = [0, 1] from rfl]
  simp only [Op.eqItems, Sem.run_bind, hc, Nat.zero_mul, Nat.one_mul, part0, part1, e0, Result.andThen_ok, Bool.not_true, Bool.false_eq_true, if_false, Sem.run_pure]
theorem eq64 (w : World) (x y : Int) : (Op.equalIn 10000 64 (.agg #[.int .i64 x, .int .i64 y]) (.agg #[.int .i64 x, .int .i64 y])).run Try.prog w = .ok true w := eq64d 9998 w x y
end Go.Proofs.Ytfhlfklgngpklaa
namespace Go.Proofs.Ytfhlfklgngpklaa
open Go.RowKit Go.Maps
attribute [local go_sem] eq64
section
variable {w w' : World} {n r : Nat} {P D : Nat → Prop} {S : NS} {R : RS}
set_option maxRecDepth 100000 in
set_option maxHeartbeats 3200000 in
theorem same_any (hd : NT w n P S) (hr : RK w r R D) (h : RelB S R) (hnow : R.now = S.now) (hN : S.N ≤ 65) (hl : R.ls.length ≤ 1000000) :
    Calls Try.prog 12 #[.pointer (some ⟨n, 0, none⟩), .pointer (some ⟨r, 0, none⟩)] w fun e w' => e = .returned (.bool true) ∧ Below w.heap.size w w' := by
  have HD := Lib.hid hd
  have HL1 : Hid (∀ w1, Below w.heap.size w w1 → Calls Try.prog 22 #[.pointer (some ⟨n, 0, none⟩)] w1 fun e w' => ∃ (a : Option Addr) (c : Nat), e = .returned (.slice a (lnk R R.up.length).length c) ∧ w'.ownsRow w1.heap.size 64 2 (.slice a (lnk R R.up.length).length c) (lnk R R.up.length).length (lkC (lnk R R.up.length)) ∧ Below w1.heap.size w1 w') := Lib.hid (fun w1 hb => by
    obtain ⟨_, _, _, _, _, _, h1⟩ := hd.on hb
    refine (Links_any h1).mono ?_
    rintro e w' ⟨a, c, l, e1, e2, e3, e4⟩
    have el := h.links e2
    subst el
    exact ⟨a, c, e1, e3, e4⟩)
  have HL2 : Hid (∀ w1, Below w.heap.size w w1 → Calls Try.prog 37 #[.pointer (some ⟨r, 0, none⟩)] w1 fun e w' => ∃ (a : Option Addr) (c : Nat), e = .returned (.slice a (lnk R R.up.length).length c) ∧ w'.ownsRow w1.heap.size 64 2 (.slice a (lnk R R.up.length).length c) (lnk R R.up.length).length (lkC (lnk R R.up.length)) ∧ Below w1.heap.size w1 w') := Lib.hid (fun w1 hb => by
    obtain ⟨uv, lv, tv, h1, _⟩ := hr.on hb
    exact RLinks_any h1 (by rw [h.len]; exact hN) hl)
  have HNW : Hid (∀ w1, Below w.heap.size w w1 → Calls Try.prog 25 #[.pointer (some ⟨n, 0, none⟩)] w1 fun e w' => e = .returned (.int .i64 S.now) ∧ w' = w1) := Lib.hid (fun w1 hb => by
    obtain ⟨_, _, _, _, _, _, h1⟩ := hd.on hb
    exact Now_any h1)
  have HCK : Hid (∀ w1, Below w.heap.size w w1 → w1.cell? ⟨r, 3, none⟩ = some (.int .i64 S.now)) := Lib.hid (fun w1 hb => by
    obtain ⟨uv, lv, tv, h1, _⟩ := hr.on hb
    rw [← hnow]
    exact (cells4 h1.hd).1.2.2.2)
  have HLB : Hid ((lnk R R.up.length).length ≤ 1000000) := Lib.hid (by
    have h1 := lnk_len R R.up.length
    rw [h.len] at h1 ⊢
    have h2 : S.N * S.N ≤ 65 * 65 := Nat.mul_le_mul hN hN
    omega)
  generalize lnk R R.up.length = l at *
  generalize S.now = now at *
  clear hd hr h hnow hN hl HD
  go_enter Try.func12, Try.ntmps12
  go_wp2_with fail
  refine (HL1.out w (Below.refl _ _)).mono ?_
  rintro e w1 ⟨a1, c1, rfl, ho1, hb1⟩
  have HO1 := Lib.hid ho1
  have HB1 := Lib.hid hb1
  clear ho1 hb1
  go_wp2_with fail
  refine (HL2.out w1 HB1.out).mono ?_
  rintro e w2 ⟨a2, c2, rfl, ho2, hb2⟩
  have HO2 := Lib.hid ho2
  have HO1b := Lib.hid (own_below HO1.out hb2)
  have hb3 := bthen HB1.out hb2 HB1.out.size
  have HB2 := Lib.hid hb3
  have k3 := HCK.out w2 hb3
  have HN2 := Lib.hid (fun q => HNW.out (w2.drewN q) (belowN hb3 q))
  have HN0 := Lib.hid (HNW.out w2 hb3)
  clear ho2 hb2 hb3 HL1 HL2 HNW HCK HO1 HB1
  obtain ⟨L, HL⟩ := named l.length
  have hL : L ≤ 1000000 := by rw [← HL.out]; exact HLB.out
  rw [HL.out]
  go_wp2_with fail
  go_quiet ((go_at_call 25; exact Calls.quiet_of_same (HN2.out _)))
  go_wp2_with fail
  go_loopw [7] (fun i wr => ∃ j q : Nat, j ≤ L ∧ i = .int .i64 j ∧ wr = w2.drewN q) (fun i _ => L - (intOf i).toNat)
  case atStart => exact ⟨0, _, Nat.zero_le _, rfl, rfl⟩
  case round =>
    obtain ⟨j, q, hj, rfl, rfl⟩ := hrel
    by_cases hlt : j < L
    · have hjl : j < l.length := by rw [HL.out]; exact hlt
      obtain ⟨g1, c1', e1⟩ := own_form HO1b.out (by omega)
      obtain ⟨g2, c2', e2⟩ := own_form HO2.out (by omega)
      injection e1 with e1 _ e3
      injection e2 with e2 _ e4
      subst e1 e3 e2 e4
      obtain ⟨t0, t1⟩ := lkC_at l j hjl
      have p0 := (HO1b.out.cellAt (j * 2) (by omega)).trans t0
      have p1 := (HO1b.out.cellAt (j * 2 + 1) (by omega)).trans t1
      have s0 := (HO2.out.cellAt (j * 2) (by omega)).trans t0
      have s1 := (HO2.out.cellAt (j * 2 + 1) (by omega)).trans t1
      clear t0 t1
      generalize (l.getD j pz).a = x at *
      generalize (l.getD j pz).b = y at *
      go_wp2_with fail
      go_quiet (fail)
      go_wp2_with fail
      exact ⟨⟨j + 1, _, by omega, by go_num, rfl⟩, by simp [intOf]; omega⟩
    · go_wp2_with fail
      go_ret
      exact ⟨rfl, belowN HB2.out _⟩
end
end Go.Proofs.Ytfhlfklgngpklaa
