/-
  Contract of the law's step: a call, of both heaps.
-/
import Derived.Test.YtbahlbdnibmjfaaRef2
import Derived.Test.YtbahlbdnibmjfaaSep
namespace Go.Proofs.Ytbahlbdnibmjfaa
open Go.RowKit
theorem sub_or {D D2 E : Nat → Prop} {a b : Nat} (hd : ∀ k, D2 k → D k ∨ b ≤ k) (hs : a ≤ b) : ∀ k, (D2 k ∨ E k) → (D k ∨ E k) ∨ a ≤ k := fun k hk => by
  rcases hk with hk | hk
  · rcases hd k hk with h' | h'
    · exact Or.inl (Or.inl h')
    · exact Or.inr (Nat.le_trans hs h')
  · exact Or.inl (Or.inr hk)
set_option maxRecDepth 100000 in
set_option maxHeartbeats 3200000 in
theorem step_any {w : World} {h g n : Nat} {T : Nat → Option Int} {D E : Nat → Prop} (rH0 : HR w h n T D) (rR0 : RR w g n T E) (sp : Sp D E) (x : Ac) :
    Calls Try.prog 10 #[.pointer (some ⟨h, 0, none⟩), .pointer (some ⟨g, 0, none⟩), .agg #[.int .i64 x.k, .int .i64 x.i, .int .u64 x.d]] w fun e w' => e = .returned (.bool true) ∧ ∃ T' D' E', HR w' h n T' D' ∧ RR w' g n T' E' ∧ Sp D' E' ∧ (∀ k, (D' k ∨ E' k) → (D k ∨ E k) ∨ w.heap.size ≤ k) ∧ Fr (fun k => D k ∨ E k) w w' := by
  have hb0 := (Below.refl w.heap.size w).alloc (Nat.le_refl _) (.cells #[.int .i64 x.k, .int .i64 x.i, .int .u64 x.d] 34)
  have rH := rH0.on hb0
  have rR := rR0.on hb0
  have HF0 := Lib.hid (Fr.of (D := fun k => D k ∨ E k) hb0)
  have HS := Lib.hid hb0.size
  have HBD : Hid (¬ D w.heap.size) := fun hd => by have := rH0.lt _ hd; omega
  obtain ⟨b0, b1, b2⟩ := (cells3 (heap_top w (.cells #[.int .i64 x.k, .int .i64 x.i, .int .u64 x.d] 34))).1
  have HB1 := Lib.hid b1
  have HB2 := Lib.hid b2
  have HAM := Lib.hid (fun w => among_any x.k 5 (by omega) (by omega) w)
  obtain ⟨kd, HKD⟩ := named (amg x.k 5)
  rw [HKD.out] at HAM
  clear hb0 rH0 rR0
  generalize hW : w.alloc (.cells #[.int .i64 x.k, .int .i64 x.i, .int .u64 x.d] 34) = W at *
  have HW := Lib.hid hW
  clear hW
  by_cases h0 : kd = 0
  · subst h0
    have HA := Lib.hid (Lower_any rH x.i x.d)
    have HB := Lib.hid (fun w2 (rr : RR w2 g n T E) => RLower_any rr x.i x.d)
    obtain ⟨z0, HZ0⟩ := named (lowB n T x.i x.d)
    obtain ⟨z1, HZ1⟩ := named (lowE n x.i)
    obtain ⟨z2, HZ2⟩ := named (lowTT n T x.i x.d)
    rw [HZ0.out, HZ1.out, HZ2.out] at HA
    simp only [HZ0.out, HZ1.out, HZ2.out] at HB
    go_enter Try.func10, Try.ntmps10
    go_wp2_with fail
    refine (HAM.out _).mono ?_
    rintro e w0 ⟨rfl, rfl⟩
    rw [HW.out]
    clear HAM HW
    go_wp2_with fail
    refine HA.out.mono ?_
    rintro e w2 ⟨rfl, D2, r2, hd2, f2⟩
    have rR2 := rR.fr f2 sp.symm
    have sp2 : Sp D2 E := sp.step rR.lt hd2
    have y1 := f2.cell HB1.out HBD.out
    have y2 := f2.cell HB2.out HBD.out
    clear HA b0 b1 b2
    go_wp2_with fail
    refine (HB.out w2 rR2).mono ?_
    rintro e w3 ⟨rfl, r3, f3⟩
    have rH3 := r2.fr f3 sp2
    clear HB y1 y2 rR2 r2
    go_wp2_with fail
    go_ret
    exact ⟨rfl, _, D2, E, rH3, r3, sp2, sub_or hd2 HS.out, HF0.out.then ((f2.mono (fun _ h' => Or.inl h')).then (f3.mono (fun _ h' => Or.inr h')))⟩
  by_cases h1 : kd = 1
  · have h0' : ((1 : Int) == 0) = false := rfl
    subst h1
    clear h0 h0'
    have HA := Lib.hid (Pop_any rH)
    have HB := Lib.hid (fun w2 (rr : RR w2 g n T E) => RPop_any rr)
    go_enter Try.func10, Try.ntmps10
    go_wp2_with fail
    refine (HAM.out _).mono ?_
    rintro e w0 ⟨rfl, rfl⟩
    rw [HW.out]
    clear HAM HW
    go_wp2_with fail
    refine HA.out.mono ?_
    rintro e w2 ⟨x2, k2, er2, rfl, ht2, D2, r2, hd2, f2⟩
    have rR2 := rR.fr f2 sp.symm
    have sp2 : Sp D2 E := sp.step rR.lt hd2
    clear HA b0 b1 b2
    go_wp2_with fail
    refine (HB.out w2 rR2).mono ?_
    rintro e w3 ⟨x3, k3, er3, rfl, ht3, r3, f3⟩
    obtain ⟨rfl, rfl, rfl⟩ := ht3.unique ht2
    have rH3 := r2.fr f3 sp2
    clear HB rR2 r2 ht2 ht3
    obtain ⟨T3, HT3⟩ := named (if er3 = 0 then upd T x3 none else T)
    rw [HT3.out] at rH3 r3
    clear HT3
    go_wp2_with fail
    go_ret
    exact ⟨rfl, _, D2, E, rH3, r3, sp2, sub_or hd2 HS.out, HF0.out.then ((f2.mono (fun _ h' => Or.inl h')).then (f3.mono (fun _ h' => Or.inr h')))⟩
  by_cases h2 : kd = 2
  · subst h2
    clear h0 h1
    have HA := Lib.hid (Top_any rH)
    have HB := Lib.hid (fun w2 (rr : RR w2 g n T E) => RTop_any rr)
    go_enter Try.func10, Try.ntmps10
    go_wp2_with fail
    refine (HAM.out _).mono ?_
    rintro e w0 ⟨rfl, rfl⟩
    rw [HW.out]
    clear HAM HW
    go_wp2_with fail
    refine HA.out.mono ?_
    rintro e w2 ⟨x2, k2, er2, rfl, ht2, hb2⟩
    have rR2 := rR.on hb2
    have rH2 := rH.on hb2
    clear HA b0 b1 b2
    go_wp2_with fail
    refine (HB.out w2 rR2).mono ?_
    rintro e w3 ⟨x3, k3, er3, rfl, ht3, hb3⟩
    obtain ⟨rfl, rfl, rfl⟩ := ht3.unique ht2
    have rH3 := rH2.on hb3
    have rR3 := rR2.on hb3
    clear HB rR2 rH2 ht2 ht3
    go_wp2_with fail
    go_ret
    exact ⟨rfl, _, D, E, rH3, rR3, sp, fun k hk => Or.inl hk, HF0.out.then ((Fr.of hb2).then (Fr.of hb3))⟩
  by_cases h3 : kd = 3
  · subst h3
    clear h0 h1 h2
    have HA := Lib.hid (Drop_any rH x.i)
    have HB := Lib.hid (fun w2 (rr : RR w2 g n T E) => RDrop_any rr x.i)
    obtain ⟨z0, HZ0⟩ := named (dropB n T x.i)
    obtain ⟨z1, HZ1⟩ := named (lowE n x.i)
    obtain ⟨z2, HZ2⟩ := named (dropT n T x.i)
    rw [HZ0.out, HZ1.out, HZ2.out] at HA
    simp only [HZ0.out, HZ1.out, HZ2.out] at HB
    go_enter Try.func10, Try.ntmps10
    go_wp2_with fail
    refine (HAM.out _).mono ?_
    rintro e w0 ⟨rfl, rfl⟩
    rw [HW.out]
    clear HAM HW
    go_wp2_with fail
    refine HA.out.mono ?_
    rintro e w2 ⟨rfl, D2, r2, hd2, f2⟩
    have rR2 := rR.fr f2 sp.symm
    have sp2 : Sp D2 E := sp.step rR.lt hd2
    have y1 := f2.cell HB1.out HBD.out
    have y2 := f2.cell HB2.out HBD.out
    clear HA b0 b1 b2
    go_wp2_with fail
    refine (HB.out w2 rR2).mono ?_
    rintro e w3 ⟨rfl, r3, f3⟩
    have rH3 := r2.fr f3 sp2
    clear HB y1 y2 rR2 r2
    go_wp2_with fail
    go_ret
    exact ⟨rfl, _, D2, E, rH3, r3, sp2, sub_or hd2 HS.out, HF0.out.then ((f2.mono (fun _ h' => Or.inl h')).then (f3.mono (fun _ h' => Or.inr h')))⟩
  · have h0' : (kd == 0) = false := beq_eq_false_iff_ne.2 h0
    have h1' : (kd == 1) = false := beq_eq_false_iff_ne.2 h1
    have h2' : (kd == 2) = false := beq_eq_false_iff_ne.2 h2
    have h3' : (kd == 3) = false := beq_eq_false_iff_ne.2 h3
    clear h0 h1 h2 h3
    have HA := Lib.hid (Key_any rH x.i)
    have HB := Lib.hid (RKey_any rR x.i)
    obtain ⟨z0, HZ0⟩ := named (keyK n T x.i)
    obtain ⟨z1, HZ1⟩ := named (dropB n T x.i)
    obtain ⟨z2, HZ2⟩ := named (lowE n x.i)
    rw [HZ0.out, HZ1.out, HZ2.out] at HA HB
    go_enter Try.func10, Try.ntmps10
    go_wp2_with fail
    refine (HAM.out _).mono ?_
    rintro e w0 ⟨rfl, rfl⟩
    rw [HW.out]
    clear HAM HW
    go_wp2_with fail
    refine HA.out.mono ?_
    rintro e w2 ⟨rfl, rfl⟩
    go_wp2_with fail
    refine HB.out.mono ?_
    rintro e w3 ⟨rfl, rfl⟩
    go_wp2_with fail
    go_ret
    exact ⟨rfl, _, D, E, rH, rR, sp, fun k hk => Or.inl hk, HF0.out⟩
end Go.Proofs.Ytbahlbdnibmjfaa
