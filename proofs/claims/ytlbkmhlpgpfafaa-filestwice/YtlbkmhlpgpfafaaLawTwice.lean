/-
  FilesTwice answers true.
-/
import Derived.Test.YtlbkmhlpgpfafaaAll
namespace Go.Proofs.Ytlbkmhlpgpfafaa
open Go.RowKit Go.Maps Go.Joins
set_option maxRecDepth 100000 in
set_option maxHeartbeats 12800000 in
theorem law_twice (a : Option Addr) (l : List Ac) (cap : Nat) (a1 : Option Addr) (l1 : List Int) (cap1 : Nat) (a2 : Option Addr) (l2 : List Int) (cap2 : Nat) (w : World) (hl : l.length ≤ 140737488351232) (hr : Acs w.heap.size w a l)
    (s1 : (l1.length ≤ cap1 ∧ cap1 ≤ 9223372036854775807) ∧ l1.length ≤ 140737488351232) (r1 : IntB w.heap.size w a1 l1) (s2 : (l2.length ≤ cap2 ∧ cap2 ≤ 9223372036854775807) ∧ l2.length ≤ 140737488351232) (r2 : IntB w.heap.size w a2 l2) :
    Calls Try.prog 5 #[.slice a l.length cap, .slice a1 l1.length cap1, .slice a2 l2.length cap2] w fun e w' => e = .returned (.bool true) ∧ Below w.heap.size w w' := by
  have HACS := Lib.hid hr
  have HI := Lib.hid (And.intro r1 (And.intro s1.2 s1.1))
  have HI2 := Lib.hid (And.intro r2 (And.intro s2.2 s2.1))
  obtain ⟨X1, HX1⟩ := named l1.length
  obtain ⟨X2, HX2⟩ := named l2.length
  obtain ⟨N, HN⟩ := named l.length
  rw [HX1.out, HX2.out, HN.out]
  have hN : N ≤ 140737488351232 := by rw [← HN.out]; exact hl
  clear hr r1 r2 s1 s2 hl
  go_enter Try.func5, Try.ntmps5
  go_wp2_with fail
  refine (New_d w).mono ?_
  rintro e w0 ⟨d, rfl, h0, hb0⟩
  go_wp2_with fail
  refine (works_any w0).mono ?_
  rintro e w1 ⟨rfl, hb1⟩
  have b1 := bthen hb0 hb1 hb0.size
  have H1 := Lib.hid (h0.on hb1)
  clear h0 hb0 hb1
  go_wp2_with fail
  go_loopw [8] (fun i wr => ∃ (j : Nat) (S : PS), j ≤ N ∧ i = .int .i64 j ∧ Dsk w.heap.size wr d S ∧ Below w.heap.size w wr) (fun i _ => N - (intOf i).toNat)
  case atStart => exact ⟨0, S0, Nat.zero_le _, rfl, H1.out, b1⟩
  case round =>
    clear b1
    obtain ⟨j, S, hj, rfl, h4, b4⟩ := hrel
    by_cases hlt : j < N
    · by_cases hh : j < 100
      · have hjl : j < l.length := by rw [HN.out]; exact hlt
        obtain ⟨bb, o, rfl, hbb, hat⟩ := HACS.out (by omega)
        obtain ⟨p0, p1, p2, p3, p4, hok⟩ := hat j hjl
        obtain ⟨_, _, _, _, hs, hm, hn⟩ := hok
        clear hat
        generalize l[j] = x at *
        have q0 := (b4.cell (p := ⟨bb, o + j * 5, none⟩) hbb).trans p0
        have q1 := (b4.cell (p := ⟨bb, o + j * 5 + 1, none⟩) hbb).trans p1
        have q2 := (b4.cell (p := ⟨bb, o + j * 5 + 2, none⟩) hbb).trans p2
        have q3 := (b4.cell (p := ⟨bb, o + j * 5 + 3, none⟩) hbb).trans p3
        have q4 := (b4.cell (p := ⟨bb, o + j * 5 + 4, none⟩) hbb).trans p4
        clear p0 p1 p2 p3 p4
        obtain ⟨k, HK⟩ := named (amg x.k 5)
        have hk0 : 0 ≤ k ∧ k < 5 := by rw [← HK.out]; unfold amg; omega
        have HAM := Lib.hid (fun W : World => among_any x.k 5 (by omega) (by omega) W)
        rw [HK.out] at HAM
        go_wp2_with fail
        refine (HAM.out _).mono ?_
        rintro e w6 ⟨rfl, rfl⟩
        have hbA : Below wr.heap.size wr (wr.alloc (.cells #[.int .i64 x.k, .string x.s, .string x.m, .int .i64 x.n, .slice x.a x.xs.length x.c] 31)) := (Below.refl _ _).alloc (Nat.le_refl _) _
        have h6 := h4.on hbA
        have b6 := bthen b4 hbA h4.1
        clear h4 b4 hbA HAM
        have hkk : k = 0 ∨ k = 1 ∨ k = 2 ∨ k = 3 ∨ k = 4 := by omega
        rcases hkk with rfl | rfl | rfl | rfl | rfl
        · have HC := Lib.hid (Write_d h6 x.s x.m hs hm)
          clear h6
          go_wp2_with fail
          refine HC.out.mono ?_
          rintro e w7 ⟨rfl, h7, hb7⟩
          have b7 := b6.trans hb7
          clear hb7 HC
          go_wp2_with fail
          exact ⟨⟨j + 1, _, by omega, by go_num, h7, b7⟩, by simp [intOf]; omega⟩
        · have HC := Lib.hid (Append_d h6 x.s x.m hs hm)
          clear h6
          go_wp2_with fail
          refine HC.out.mono ?_
          rintro e w7 ⟨rfl, h7, hb7⟩
          have b7 := b6.trans hb7
          clear hb7 HC
          go_wp2_with fail
          exact ⟨⟨j + 1, _, by omega, by go_num, h7, b7⟩, by simp [intOf]; omega⟩
        · have HC := Lib.hid (Sync_d h6 x.s hs)
          clear h6
          go_wp2_with fail
          refine HC.out.mono ?_
          rintro e w7 ⟨rfl, h7, hb7⟩
          have b7 := b6.trans hb7
          clear hb7 HC
          go_wp2_with fail
          exact ⟨⟨j + 1, _, by omega, by go_num, h7, b7⟩, by simp [intOf]; omega⟩
        · have HC := Lib.hid (Rename_d h6 x.s x.m hs)
          clear h6
          go_wp2_with fail
          refine HC.out.mono ?_
          rintro e w7 ⟨rfl, h7, hb7⟩
          have b7 := b6.trans hb7
          clear hb7 HC
          go_wp2_with fail
          exact ⟨⟨j + 1, _, by omega, by go_num, h7, b7⟩, by simp [intOf]; omega⟩
        · have HC := Lib.hid (Fuse_d h6 x.n hn)
          clear h6
          go_wp2_with fail
          refine HC.out.mono ?_
          rintro e w7 ⟨rfl, h7, hb7⟩
          have b7 := b6.trans hb7
          clear hb7 HC
          go_wp2_with fail
          exact ⟨⟨j + 1, _, by omega, by go_num, h7, b7⟩, by simp [intOf]; omega⟩
      · skip
        have hB4 := h4.1
        have HI1 := HI.out.1.on b4
        have HC1 := Lib.hid (Crash_d h4 a1 l1 cap1 HI.out.2.1 HI.out.2.2.2 HI.out.2.2.1 HI1)
        by_cases g1 : 16384 < l1.length
        · rw [show crE l1 = 2 by simp [crE, g1], HX1.out] at HC1
          clear h4
          go_wp2_with fail
          refine HC1.out.mono ?_
          rintro e w5 ⟨rfl, h5, hb5⟩
          have b5 := b4.trans hb5
          go_wp2_with fail
          go_ret
          exact ⟨rfl, b5⟩
        · rw [show crE l1 = 0 by simp [crE, g1], show crS S l1 = ⟨crL S.fs l1, false, -1⟩ by simp [crS, g1], HX1.out] at HC1
          clear h4
          go_wp2_with fail
          refine HC1.out.mono ?_
          rintro e w5 ⟨rfl, h5, hb5⟩
          have b5 := b4.trans hb5
          obtain ⟨F, HF⟩ := named (crL S.fs l1)
          have HF2 : Hid (crL F l2 = F) := by show _ = _; rw [← HF.out]; exact crL_twice _ _ _
          rw [HF.out] at h5
          obtain ⟨hB5, ow, hk5, ho5⟩ := h5
          have hF64 := hk5.len
          have HA1 := Lib.hid (all_any hk5)
          go_wp2_with fail
          refine HA1.out.mono ?_
          rintro e w6 ⟨v6, rfl, hr6, hb6⟩
          have hk6 := hk5.on hb6
          have HR6 := Lib.hid hr6
          have b6 := bthen b5 hb6 hB5
          have hi6 : Ints w6 ow a2 l2 := by
            intro h0
            obtain ⟨bb, o, ee, hbb, hcell⟩ := (HI2.out.1.on b6) h0
            refine ⟨bb, o, ee, by have := b6.size; omega, ?_, hcell⟩
            cases hq : ow bb with
            | none => rfl
            | some y => exact absurd (ho5 bb (by unfold Ow; rw [hq]; simp)) (by omega)
          have HNO : Hid (∀ g, v6.ownBlock = some g → ow g = none) := fun g hg => hk5.out (hr6.lt g hg).1
          have HC2 := Lib.hid (Crash_any hk6 a2 l2 cap2 HI2.out.2.1 HI2.out.2.2.2 HI2.out.2.2.1 hi6)
          by_cases g2 : 16384 < l2.length
          · rw [show crE l2 = 2 by simp [crE, g2], HX2.out] at HC2
            have g2' : (16384 : Int) < X2 := by have := HX2.out; omega
            clear hk5 hk6 hr6 hb6 hb5 g1 g2
            go_wp2_with fail
            refine HC2.out.mono ?_
            rintro e w7 ⟨rfl, h7⟩
            have b7 := b6.trans (h7.dsk (by have := b6.size; omega) ho5).2
            go_wp2_with fail
            go_ret
            exact ⟨rfl, b7⟩
          · rw [show crE l2 = 0 by simp [crE, g2], show crS ⟨F, false, -1⟩ l2 = ⟨crL F l2, false, -1⟩ by simp [crS, g2], HF2.out, HX2.out] at HC2
            clear hk5 hk6 hr6 hb6 hb5 g1 g2
            go_wp2_with fail
            refine HC2.out.mono ?_
            rintro e w7 ⟨rfl, h7⟩
            have b7 := b6.trans (h7.dsk (by have := b6.size; omega) ho5).2
            obtain ⟨ow7, hk7, _, fr7⟩ := h7
            have HR7 : Hid (w7.ownsRow w5.heap.size 9 1 v6 (allT F).length (namesC (allT F))) := own_same HR6.out (fun k hk => fr7.block k (HR6.out.lt k hk).2 (fun e => e (HNO.out k hk)))
            have HA2 := Lib.hid (all_any hk7)
            clear hk7 fr7
            go_wp2_with fail
            refine HA2.out.mono ?_
            rintro e w8 ⟨v8, rfl, hr8, hb8⟩
            have b8 := bthen b7 hb8 b7.size
            have HAL := Lib.hid (alike_any (allT F) hr8 (own_below HR7.out hb8) (by rw [allT_len]; have : F.length ≤ 64 := hF64; omega))
            clear hr8
            go_wp2_with fail
            refine HAL.out.mono ?_
            rintro e w9 ⟨rfl, hb9⟩
            have b9 := bthen b8 hb9 b8.size
            go_wp2_with fail
            go_ret
            exact ⟨rfl, b9⟩
    · skip
      have hB4 := h4.1
      have HI1 := HI.out.1.on b4
      have HC1 := Lib.hid (Crash_d h4 a1 l1 cap1 HI.out.2.1 HI.out.2.2.2 HI.out.2.2.1 HI1)
      by_cases g1 : 16384 < l1.length
      · rw [show crE l1 = 2 by simp [crE, g1], HX1.out] at HC1
        clear h4
        go_wp2_with fail
        refine HC1.out.mono ?_
        rintro e w5 ⟨rfl, h5, hb5⟩
        have b5 := b4.trans hb5
        go_wp2_with fail
        go_ret
        exact ⟨rfl, b5⟩
      · rw [show crE l1 = 0 by simp [crE, g1], show crS S l1 = ⟨crL S.fs l1, false, -1⟩ by simp [crS, g1], HX1.out] at HC1
        clear h4
        go_wp2_with fail
        refine HC1.out.mono ?_
        rintro e w5 ⟨rfl, h5, hb5⟩
        have b5 := b4.trans hb5
        obtain ⟨F, HF⟩ := named (crL S.fs l1)
        have HF2 : Hid (crL F l2 = F) := by show _ = _; rw [← HF.out]; exact crL_twice _ _ _
        rw [HF.out] at h5
        obtain ⟨hB5, ow, hk5, ho5⟩ := h5
        have hF64 := hk5.len
        have HA1 := Lib.hid (all_any hk5)
        go_wp2_with fail
        refine HA1.out.mono ?_
        rintro e w6 ⟨v6, rfl, hr6, hb6⟩
        have hk6 := hk5.on hb6
        have HR6 := Lib.hid hr6
        have b6 := bthen b5 hb6 hB5
        have hi6 : Ints w6 ow a2 l2 := by
          intro h0
          obtain ⟨bb, o, ee, hbb, hcell⟩ := (HI2.out.1.on b6) h0
          refine ⟨bb, o, ee, by have := b6.size; omega, ?_, hcell⟩
          cases hq : ow bb with
          | none => rfl
          | some y => exact absurd (ho5 bb (by unfold Ow; rw [hq]; simp)) (by omega)
        have HNO : Hid (∀ g, v6.ownBlock = some g → ow g = none) := fun g hg => hk5.out (hr6.lt g hg).1
        have HC2 := Lib.hid (Crash_any hk6 a2 l2 cap2 HI2.out.2.1 HI2.out.2.2.2 HI2.out.2.2.1 hi6)
        by_cases g2 : 16384 < l2.length
        · rw [show crE l2 = 2 by simp [crE, g2], HX2.out] at HC2
          have g2' : (16384 : Int) < X2 := by have := HX2.out; omega
          clear hk5 hk6 hr6 hb6 hb5 g1 g2
          go_wp2_with fail
          refine HC2.out.mono ?_
          rintro e w7 ⟨rfl, h7⟩
          have b7 := b6.trans (h7.dsk (by have := b6.size; omega) ho5).2
          go_wp2_with fail
          go_ret
          exact ⟨rfl, b7⟩
        · rw [show crE l2 = 0 by simp [crE, g2], show crS ⟨F, false, -1⟩ l2 = ⟨crL F l2, false, -1⟩ by simp [crS, g2], HF2.out, HX2.out] at HC2
          clear hk5 hk6 hr6 hb6 hb5 g1 g2
          go_wp2_with fail
          refine HC2.out.mono ?_
          rintro e w7 ⟨rfl, h7⟩
          have b7 := b6.trans (h7.dsk (by have := b6.size; omega) ho5).2
          obtain ⟨ow7, hk7, _, fr7⟩ := h7
          have HR7 : Hid (w7.ownsRow w5.heap.size 9 1 v6 (allT F).length (namesC (allT F))) := own_same HR6.out (fun k hk => fr7.block k (HR6.out.lt k hk).2 (fun e => e (HNO.out k hk)))
          have HA2 := Lib.hid (all_any hk7)
          clear hk7 fr7
          go_wp2_with fail
          refine HA2.out.mono ?_
          rintro e w8 ⟨v8, rfl, hr8, hb8⟩
          have b8 := bthen b7 hb8 b7.size
          have HAL := Lib.hid (alike_any (allT F) hr8 (own_below HR7.out hb8) (by rw [allT_len]; have : F.length ≤ 64 := hF64; omega))
          clear hr8
          go_wp2_with fail
          refine HAL.out.mono ?_
          rintro e w9 ⟨rfl, hb9⟩
          have b9 := bthen b8 hb9 b8.size
          go_wp2_with fail
          go_ret
          exact ⟨rfl, b9⟩
end Go.Proofs.Ytlbkmhlpgpfafaa
