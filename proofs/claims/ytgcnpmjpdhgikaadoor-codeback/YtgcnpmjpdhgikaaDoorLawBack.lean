/-
  What is written of an item is read as it; what is read is written as just those bytes.
-/
import Derived.Test.YtgcnpmjpdhgikaaDoorBackU
import Derived.Test.YtgcnpmjpdhgikaaDoorWorks
import Derived.Laws.StructEq
namespace Go.Proofs.YtgcnpmjpdhgikaaDoor
open Go.RowKit
theorem enc_ok {t : T} (h : (encD t).2 = 0) : wrongF 8 t = 0 ∧ (encF 8 t).length ≤ 262144 ∧ encD t = (encF 8 t, 0) := by
  rw [encD_eq] at h ⊢
  by_cases h1 : wrongF 8 t = 0
  · rw [if_neg (by simpa using h1)] at h ⊢
    by_cases h2 : 262144 < (encF 8 t).length
    · rw [if_pos h2] at h; cases h
    · rw [if_neg h2]
      exact ⟨h1, by omega, rfl⟩
  · rw [if_pos h1] at h
    exact absurd h h1
theorem enc_no {t : T} (h : (encD t).2 ≠ 0) : (encD t).1 = [] := by
  rw [encD_eq] at h ⊢
  by_cases h1 : wrongF 8 t = 0
  · rw [if_neg (by simpa using h1)] at h ⊢
    by_cases h2 : 262144 < (encF 8 t).length
    · rw [if_pos h2]
    · rw [if_neg h2] at h; exact absurd rfl h
  · rw [if_pos h1]
set_option maxHeartbeats 1600000 in
set_option maxRecDepth 100000 in
theorem law_back_at (t : T) (k n : Int) (s : ByteArray) (a : Option Addr) (m cap : Nat) (hv : t.val = .agg #[.int .i64 k, .int .u64 n, .string s, .slice a m cap]) (b : ByteArray) (hb : b.size ≤ 9223372036854775807) (w : World) (hin : InF w 8 t) (hh : Halves w) :
    Calls Tryd.prog 6 #[.agg #[.int .i64 k, .int .u64 n, .string s, .slice a m cap], .string b] w fun e w' => e = .returned (.bool true) ∧ Below w.heap.size w w' := by
  have H1 := Lib.hid (fun w h => encode_at t k n s a m cap hv w h)
  have HS := Lib.hid (fun (u : T) w h1 h2 h3 h4 => same_any 8 t u w h1 h2 h3 h4)
  rw [hv] at HS
  have HIN := Lib.hid hin
  have HH := Lib.hid hh
  clear hin hh hv
  have hb0 : Below w.heap.size w (w.alloc (.cells #[.int .i64 k, .int .u64 n, .string s, .slice a m cap] 25)) := (Below.refl _ _).alloc (Nat.le_refl _) _
  unfold encV at H1
  by_cases hE : (encD t).2 = 0
  · obtain ⟨e1, e2, e3⟩ := enc_ok hE
    rw [e3] at H1
    have HOK := Lib.hid (okk_of 8 t HIN.out e1)
    obtain ⟨bs, HBS⟩ := named (⟨(encF 8 t).toArray⟩ : ByteArray)
    have hbs : bs.data.toList = encF 8 t := by rw [← HBS.out]
    have hbz : bs.size ≤ 262144 := by rw [← HBS.out]; simpa [ByteArray.size] using e2
    have HL := Lib.hid hbs
    simp only [HBS.out] at H1
    clear hE e1 e2 e3 hbs
    go_enter Tryd.func6, Tryd.ntmps6
    go_wp2_with fail
    refine (works_any _ (HH.out.on hb0 HH.out.size)).mono ?_
    rintro e w1 ⟨rfl, hb1⟩
    obtain ⟨q0, q1, q2, q3⟩ := bcell4 hb1 (by simp)
    have b1 : Below w.heap.size w w1 := hb0.trans (hb1.mono hb0.size)
    have BX1 := Lib.hid ((hb1.block w.heap.size (by simp)).trans (heap_top w _))
    clear hb1
    go_wp2_with fail
    refine (H1.out _ (HIN.out.on b1)).mono ?_
    rintro e w2 ⟨rfl, hb2⟩
    have b2 := b1.trans (hb2.mono b1.size)
    have BX2 := Lib.hid ((hb2.block _ (lt_of_block BX1.out)).trans BX1.out)
    clear hb2 b1 q0 q1 q2 q3
    go_wp2_with fail
    refine (decode_back bs hbz _).mono ?_
    rintro e w3 ⟨y, a3, c3, rfl, hb3, -, -, hor⟩
    obtain ⟨rfl, rfl, hin3, hok3, he3⟩ : c3 = 0 ∧ a3 = 0 ∧ InF w3 8 y ∧ Okk 8 y ∧ bs.data.toList = encF 8 y := by
      rcases hor with h | ⟨_, _, h⟩ | ⟨_, _, u, r, h1, h2, h3, _⟩
      · exact h
      · exact absurd (h t [] HOK.out (by rw [List.append_nil]; exact HL.out)) (fun h => h)
      · rw [HL.out] at h3
        have := (encF_inj 8 t u [] r HOK.out h1 (by rw [List.append_nil]; exact h3)).2
        exact absurd this.symm h2
    have hsm : Sm 8 t y := (encF_inj 8 t y [] [] HOK.out hok3 (by rw [List.append_nil, List.append_nil, ← HL.out, he3])).1
    have b3 := b2.trans (hb3.mono b2.size)
    have BX3 := Lib.hid ((hb3.block _ (lt_of_block BX2.out)).trans BX2.out)
    have HYB := Lib.hid (((Below.refl w3.heap.size w3).alloc (Nat.le_refl _) (.cells #[.int .i64 y.k, .int .u64 y.n, .string y.s, .slice y.a y.l.length y.cap] 25)).alloc (by simp) (.cells #[.int .i64 0, .int .i64 0] 32))
    have HSM := Lib.hid (fun w' (hb' : Below w3.heap.size w3 w') => HS.out y w' ((HIN.out.on b3).on hb') (hin3.on hb') HOK.out hsm)
    unfold T.val at HSM
    have hbx := (HYB.out.block _ (lt_of_block BX3.out)).trans BX3.out
    obtain ⟨⟨r0, r1, r2, r3⟩, -⟩ := four_cells hbx
    have B3 := Lib.hid b3
    clear hor hin3 hok3 he3 hsm b2 hb3 b3 hbx
    unfold T.val
    go_wp2_with (go_at_call 15; refine (HSM.out _ HYB.out).mono ?_; rintro e w4 ⟨rfl, hb4⟩)
    have b4 : Below w.heap.size w w4 := B3.out.trans ((HYB.out.mono B3.out.size).trans (hb4.mono (Nat.le_trans B3.out.size HYB.out.size)))
    clear r0 r1 r2 r3 hb4
    go_wp2_with fail
    refine (decode_all b hb _).mono ?_
    rintro e w9 ⟨y, a9, c9, rfl, hb9, ha0, ha1, hor⟩
    rcases hor with ⟨rfl, rfl, hin9, henc⟩ | ⟨hc9, rfl⟩
    · have HEN := Lib.hid (fun w h => encode_at y y.k y.n y.s y.a y.l.length y.cap rfl w h)
      rw [henc] at HEN
      have HB9 := Lib.hid (b4.trans (hb9.mono b4.size))
      have HIN9 := Lib.hid hin9
      have HYB := Lib.hid (((Below.refl w9.heap.size w9).alloc (Nat.le_refl _) (.cells #[.int .i64 y.k, .int .u64 y.n, .string y.s, .slice y.a y.l.length y.cap] 25)).alloc (by simp) (.cells #[.int .i64 0, .int .i64 0] 32))
      clear henc hb9 hin9 ha0 ha1
      unfold T.val
      go_wp2_with fail
      refine (HEN.out _ (HIN9.out.on HYB.out)).mono ?_
      rintro e w10 ⟨rfl, hb10⟩
      have HB10 := Lib.hid hb10
      clear hb10
      have hbb : (b.toList == b.toList) = true := by simp
      go_wp2_with fail
      go_ret
      exact ⟨rfl, HB9.out.trans ((HYB.out.mono HB9.out.size).trans (HB10.out.mono (Nat.le_trans HB9.out.size HYB.out.size)))⟩
    · have hcc : (c9 == 0) = false := beq_eq_false_iff_ne.2 hc9
      have HB9 := Lib.hid (b4.trans (hb9.mono b4.size))
      clear hb9 hc9
      show _
      unfold T.val T.zero
      simp only [T.k, T.n, T.s, T.a, T.cap, T.l, List.length_nil]
      go_wp2_with fail
      go_ret
      exact ⟨rfl, HB9.out.trans (((Below.refl w9.heap.size w9).alloc (Nat.le_refl _) _).alloc (by simp) _ |>.mono HB9.out.size)⟩
  · have e1 := enc_no hE
    rw [e1] at H1
    have hE' : ((encD t).2 == 0) = false := beq_eq_false_iff_ne.2 hE
    generalize (encD t).2 = E at *
    clear e1 hE
    go_enter Tryd.func6, Tryd.ntmps6
    go_wp2_with fail
    refine (works_any _ (HH.out.on hb0 HH.out.size)).mono ?_
    rintro e w1 ⟨rfl, hb1⟩
    obtain ⟨q0, q1, q2, q3⟩ := bcell4 hb1 (by simp)
    have b1 : Below w.heap.size w w1 := hb0.trans (hb1.mono hb0.size)
    clear hb1
    go_wp2_with fail
    refine (H1.out _ (HIN.out.on b1)).mono ?_
    rintro e w2 ⟨rfl, hb2⟩
    have b4 := b1.trans (hb2.mono b1.size)
    clear hb2 b1 q0 q1 q2 q3
    go_wp2_with fail
    refine (decode_all b hb _).mono ?_
    rintro e w9 ⟨y, a9, c9, rfl, hb9, ha0, ha1, hor⟩
    rcases hor with ⟨rfl, rfl, hin9, henc⟩ | ⟨hc9, rfl⟩
    · have HEN := Lib.hid (fun w h => encode_at y y.k y.n y.s y.a y.l.length y.cap rfl w h)
      rw [henc] at HEN
      have HB9 := Lib.hid (b4.trans (hb9.mono b4.size))
      have HIN9 := Lib.hid hin9
      have HYB := Lib.hid (((Below.refl w9.heap.size w9).alloc (Nat.le_refl _) (.cells #[.int .i64 y.k, .int .u64 y.n, .string y.s, .slice y.a y.l.length y.cap] 25)).alloc (by simp) (.cells #[.int .i64 0, .int .i64 0] 32))
      clear henc hb9 hin9 ha0 ha1
      unfold T.val
      go_wp2_with fail
      refine (HEN.out _ (HIN9.out.on HYB.out)).mono ?_
      rintro e w10 ⟨rfl, hb10⟩
      have HB10 := Lib.hid hb10
      clear hb10
      have hbb : (b.toList == b.toList) = true := by simp
      go_wp2_with fail
      go_ret
      exact ⟨rfl, HB9.out.trans ((HYB.out.mono HB9.out.size).trans (HB10.out.mono (Nat.le_trans HB9.out.size HYB.out.size)))⟩
    · have hcc : (c9 == 0) = false := beq_eq_false_iff_ne.2 hc9
      have HB9 := Lib.hid (b4.trans (hb9.mono b4.size))
      clear hb9 hc9
      show _
      unfold T.val T.zero
      simp only [T.k, T.n, T.s, T.a, T.cap, T.l, List.length_nil]
      go_wp2_with fail
      go_ret
      exact ⟨rfl, HB9.out.trans (((Below.refl w9.heap.size w9).alloc (Nat.le_refl _) _).alloc (by simp) _ |>.mono HB9.out.size)⟩
theorem law_back (t : T) (b : ByteArray) (hb : b.size ≤ 9223372036854775807) (w : World) (hin : InF w 8 t) (hh : Halves w) :
    Calls Tryd.prog 6 #[t.val, .string b] w fun e w' => e = .returned (.bool true) ∧ Below w.heap.size w w' := law_back_at t _ _ _ _ _ _ rfl b hb w hin hh
end Go.Proofs.YtgcnpmjpdhgikaaDoor
