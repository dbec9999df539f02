/-
  Contract of the reference's Frames; the statement on frames and sums answers true at every text that is not too great; nothing that was there is turned.
-/
import Derived.Test.YtgcnpmjpdhgikaaDoorRefUn
import Derived.Test.YtgcnpmjpdhgikaaDoorWorks
namespace Go.Proofs.YtgcnpmjpdhgikaaDoor
open Go.RowKit
set_option maxHeartbeats 400000 in
theorem rframes_any (s : ByteArray) (hs : s.size ≤ 100000000) (w : World) :
    Calls Tryd.prog 24 #[.string s] w fun e w' => ∃ v, e = .returned (.tuple #[v, .int .i64 ((framesF (s.size + 1) s.data.toList 0).2 : Nat)]) ∧ OwnT w' w.heap.size v (framesF (s.size + 1) s.data.toList 0).1 ∧ Below w.heap.size w w' := by
  obtain ⟨i0, hi, hz0, hz1, hz2⟩ := info_parts info9
  obtain ⟨R, HRR⟩ := named (framesF (s.size + 1) s.data.toList 0)
  rw [HRR.out]
  go_enter Tryd.func24, Tryd.ntmps24
  go_wp2_with fail
  go_loopw [4, 5] (fun v e wr => ∃ (f p : Nat) (pre : List (List UInt8)), e = .int .i64 p ∧ p ≤ s.size ∧ s.size + 1 - p ≤ f ∧ pre.length * 8 ≤ p ∧ Hid (pre ++ (framesF f s.data.toList p).1 = R.1 ∧ (framesF f s.data.toList p).2 = R.2) ∧ Hid (OwnT wr w.heap.size v pre) ∧ Below w.heap.size w wr) (fun _ e _ => s.size - (intOf e).toNat)
  case atStart => exact ⟨s.size + 1, 0, [], rfl, Nat.zero_le _, by omega, by simp, ⟨by rw [HRR.out]; rfl, by rw [HRR.out]⟩, OwnT.nil _ _, Below.refl _ _⟩
  case round =>
    obtain ⟨f, p, pre, rfl, hp, hf, hpl, HF, HO, hb⟩ := hrel
    have hsz := hb.size
    have HL : Hid (s.data.toList.length = s.size) := by show _ = _; simp
    go_wp2_with fail
    refine (runframe_any s p (by omega) _).mono ?_
    rintro e w2 ⟨rfl, hb2⟩
    have hbw := hb.trans (hb2.mono hb.size)
    have HO2 : Hid (OwnT w2 w.heap.size u4 pre) := HO.out.on hb2
    clear hb2
    have hsz2 := hbw.size
    by_cases hc : (bodyD (s.data.toList.drop p)).2 = 0
    · have hlen := bodyD_ok hc
      have hl2 := (bodyD_len (s.data.toList.drop p)).2
      rw [unD_ok (by rw [HL.out]; exact hp) hc]
      obtain ⟨f, rfl⟩ : ∃ g, f = g + 1 := ⟨f - 1, by omega⟩
      have HF2 : Hid ((pre ++ [(bodyD (s.data.toList.drop p)).1]) ++ (framesF f s.data.toList (p + 8 + (bodyD (s.data.toList.drop p)).1.length)).1 = R.1 ∧ (framesF f s.data.toList (p + 8 + (bodyD (s.data.toList.drop p)).1.length)).2 = R.2) := by
        have h := HF.out
        rw [framesF_go f hc] at h
        exact ⟨by rw [← h.1]; simp, h.2⟩
      generalize (bodyD (s.data.toList.drop p)).1 = B at *
      rw [List.length_drop, HL.out] at hlen
      clear hc
      obtain ⟨bs, HB⟩ := named (⟨B.toArray⟩ : ByteArray)
      rw [HB.out]
      have hown2 : w2.ownsRow w.heap.size 9 1 u4 pre.length (textsC pre) := HO2.out
      have HOW := Lib.hid hown2
      have hlt := hown2.lt
      clear hown2
      go_wp2_with (at_builtin; refine wpList_append_own _ rfl (.tmp 21) (.tmp 23) 43 rfl w.heap.size 9 i0 (.string ⟨#[]⟩) 1 16 Tryd.underlying43 hi hz0 hz1 hz2 rfl (by decide) u4 pre.length (textsC pre) rfl ((HOW.out.alloc _).alloc _) ⟨w2.heap.size + 1, 0, none⟩ 1 1 [.string bs] rfl rfl (by have h := news_text (w2.alloc (.cells #[.int .i64 0, .int .i64 0] 32)) (.string bs); simpa using h) (one_text _) (by unfold maxLen; omega) (by omega) (by simp; omega) ?_; intro v3 w3 hown3 hgrow3 hnil3; clear hnil3; have HO3 : Hid (OwnT w3 w.heap.size v3 (pre ++ [B])) := OwnT.join (m := [B]) (by rw [show textsC [B] = [.string bs] by rw [← HB.out]; rfl]; exact hown3); have hb3 : Below w.heap.size w w3 := ((hbw.alloc (by omega) _).alloc (by simp; omega) _).grown hgrow3 (by simp; omega) (fun k hk => (hlt k hk).1); clear hown3 hgrow3)
      refine ⟨⟨f, p + 8 + B.length, pre ++ [B], ?_, by omega, by omega, by simp; omega, HF2, HO3, hb3⟩, ?_⟩
      · congr 1
      · simp [intOf]; omega
    · rw [unD_no (by rw [HL.out]; exact hp) hc]
      have hcb : ((bodyD (s.data.toList.drop p)).2 == 0) = false := beq_eq_false_iff_ne.2 hc
      have HE : Hid (pre = R.1 ∧ p = R.2) := by
        have h := HF.out
        rw [framesF_stop f hc] at h
        exact ⟨by rw [← h.1]; simp, h.2⟩
      generalize (bodyD (s.data.toList.drop p)).2 = c at *
      clear hc
      go_wp2_with fail
      go_ret2
      exact ⟨_, by rw [← HE.out.2]; rfl, by rw [← HE.out.1]; exact HO2.out.alloc _, hbw.alloc (by omega) _⟩
theorem own_both {w : World} {b1 b2 : Nat} {v u : Value} {bs : List (List UInt8)} (h1 : OwnT w b1 v bs) (h2 : OwnT w b2 u bs) (hn : bs.length ≤ 1000000000) :
    Calls Tryd.prog 25 #[v, u] w fun e w' => e = .returned (.bool true) ∧ Below w.heap.size w w' := by
  have hcell : ∀ {base : Nat} {x : Value}, OwnT w base x bs → ∃ a n cap b o, x = .slice a n cap ∧ n = bs.length ∧ (0 < n → a = some ⟨b, o, none⟩) ∧ ∀ j, j < n → w.cell? ⟨b, o + j, none⟩ = some (.string ⟨(bs.getD j []).toArray⟩) := by
    intro base x hown
    rcases hown.2 with ⟨h', h0⟩ | ⟨g, c, cur, h', hbs, hg, rest⟩
    · exact ⟨none, 0, 0, 0, 0, h', h0.symm, by omega, by omega⟩
    · refine ⟨some ⟨g, 0, none⟩, bs.length, c, g, 0, h', rfl, fun _ => rfl, fun j hj => ?_⟩
      have h1 := World.ownsRow.cells hown (g := g) (by rw [h']; rfl) j (.string ⟨(bs.getD j []).toArray⟩) (by
        unfold textsC
        simp [List.getElem?_eq_getElem hj, List.getD])
      have e1 : (⟨g, 0, none⟩ : Addr).add j = ⟨g, 0 + j, none⟩ := by
        simp [Addr.add]
        intro h; exact h.symm
      rw [← e1]; exact h1
  obtain ⟨a, n, cap, b, o, rfl, hl, ha, hc⟩ := hcell h1
  obtain ⟨a', n', cap', b', o', rfl, hl', ha', hc'⟩ := hcell h2
  obtain rfl : n = n' := by omega
  exact same_any a a' n n cap cap' (fun j => ⟨(bs.getD j []).toArray⟩) (fun j => ⟨(bs.getD j []).toArray⟩) (by omega) (by omega) true (by simp) b o b' o' ha ha' w hc hc'
theorem frames_len (f : Nat) : ∀ (l : List UInt8) (p : Nat), (framesF f l p).1.length * 8 ≤ l.length - p + 8 := by
  induction f with
  | zero => intro l p; simp [framesF]
  | succ f ih =>
    intro l p
    by_cases h : (bodyD (l.drop p)).2 = 0
    · rw [framesF_go f h]
      have h1 := bodyD_ok h
      have h2 := ih l (p + 8 + (bodyD (l.drop p)).1.length)
      rw [List.length_drop] at h1
      simp only [List.length_cons]
      omega
    · rw [framesF_stop _ h]; simp
theorem unD_shape (l : List UInt8) (a : Int) : ∃ (x : ByteArray) (e p c : Int), unD l a = .tuple #[.string x, .int .i64 e, .agg #[.int .i64 p, .int .i64 c]] := by
  unfold unD
  split
  · exact ⟨_, _, _, _, rfl⟩
  · split
    · exact ⟨_, _, _, _, rfl⟩
    · exact ⟨_, _, _, _, rfl⟩
theorem frame_both (s : ByteArray) (hs : s.size ≤ 100000000) : ∃ (F : ByteArray) (c : Int), (∀ w, Halves w → Calls Tryd.prog 17 #[.string s] w fun e w' => e = .returned (.tuple #[.string F, .int .i64 c]) ∧ Below w.heap.size w w') ∧ (∀ w, Calls Tryd.prog 18 #[.string s] w fun e w' => e = .returned (.tuple #[.string F, .int .i64 c]) ∧ Below w.heap.size w w') := by
  by_cases h : 262144 < s.size
  · refine ⟨⟨#[]⟩, 2, fun w _ => (frame_long s h (by omega) w).mono ?_, fun w => (rframe_long s h (by omega) w).mono ?_⟩
    · rintro e w1 ⟨rfl, rfl⟩; exact ⟨rfl, Below.refl _ _⟩
    · rintro e w1 ⟨rfl, rfl⟩; exact ⟨rfl, Below.refl _ _⟩
  · exact ⟨_, 0, fun w hh => frame_any s (by omega) w hh, fun w => rframe_any s (by omega) w⟩
set_option maxHeartbeats 2000000 in
set_option maxRecDepth 100000 in
theorem law_frames (s : ByteArray) (hs : s.size ≤ 100000000) (a : Int) (w : World) (hh : Halves w) :
    Calls Tryd.prog 5 #[.string s, .int .i64 a] w fun e w' => e = .returned (.bool true) ∧ Below w.heap.size w w' := by
  obtain ⟨F, c, hf1, hf2⟩ := frame_both s hs
  obtain ⟨x, en, p, cd, hu⟩ := unD_shape s.data.toList a
  have hU1 := fun w h => unframe_any s a (by omega) w h
  have hU2 := fun w => runframe_any s a (by omega) w
  rw [hu] at hU1 hU2
  have hB1 := fun w h => frames_any s hs w h
  have hB2 := fun w => rframes_any s hs w
  obtain ⟨R, HRR⟩ := named (framesF (s.size + 1) s.data.toList 0)
  have hRl : R.1.length ≤ 1000000000 := by
    have := frames_len (s.size + 1) s.data.toList 0
    rw [HRR.out] at this
    simp at this
    omega
  rw [HRR.out] at hB1 hB2
  have F1 := Lib.hid hf1
  have F2 := Lib.hid hf2
  have U1 := Lib.hid hU1
  have U2 := Lib.hid hU2
  have B1 := Lib.hid hB1
  have B2 := Lib.hid hB2
  have C1 := Lib.hid (crc_any s (by omega))
  have C2 := Lib.hid (rcrc_any s (by omega))
  generalize crcD s.data.toList = C at *
  have hpos := hh.size
  have HH := Lib.hid hh
  clear hf1 hf2 hU1 hU2 hB1 hB2 hu hh
  have q1 : (F.toList == F.toList) = true := by rw [beq_iff_eq]
  have q2 : (c == c) = true := by rw [beq_iff_eq]
  have q3 : ((C : Int) == (C : Int)) = true := by rw [beq_iff_eq]
  have q4 : (x.toList == x.toList) = true := by rw [beq_iff_eq]
  have q5 : (en == en) = true := by rw [beq_iff_eq]
  have q6 : ((R.2 : Int) == (R.2 : Int)) = true := by rw [beq_iff_eq]
  go_enter Tryd.func5, Tryd.ntmps5
  go_wp2_with fail
  refine (F1.out _ HH.out).mono ?_
  rintro e w1 ⟨rfl, hb1⟩
  go_wp2_with fail
  refine (F2.out _).mono ?_
  rintro e w2 ⟨rfl, hb2⟩
  have k2 := hb1.trans (hb2.mono hb1.size)
  clear hb1 hb2
  go_wp2_with fail
  refine (C1.out _ (HH.out.on k2 hpos)).mono ?_
  rintro e w3 ⟨rfl, rfl⟩
  go_wp2_with fail
  refine (C2.out _).mono ?_
  rintro e w3 ⟨rfl, rfl⟩
  go_wp2_with fail
  refine (U1.out _ (HH.out.on k2 hpos)).mono ?_
  rintro e w4 ⟨rfl, hb4⟩
  have k4 := k2.trans (hb4.mono k2.size)
  clear hb4
  go_wp2_with fail
  have k5 := k4.alloc k4.size (.cells #[.int .i64 p, .int .i64 cd] 32)
  refine (U2.out _).mono ?_
  rintro e w6 ⟨rfl, hb6⟩
  have ht := heap_top w4 (.cells #[.int .i64 p, .int .i64 cd] 32)
  have ht6 := (hb6.block _ (by simp)).trans ht
  have k6 := k5.trans (hb6.mono k5.size)
  clear hb6 ht
  go_wp2_with fail
  have ht7 := (Below.heap_alloc w6 (.cells #[.int .i64 p, .int .i64 cd] 32) _ (lt_of_block ht6)).trans ht6
  have hu7 := heap_top w6 (.cells #[.int .i64 p, .int .i64 cd] 32)
  have k7 := k6.alloc k6.size (.cells #[.int .i64 p, .int .i64 cd] 32)
  refine (B1.out _ (HH.out.on k7 hpos)).mono ?_
  rintro e w8 ⟨v8, rfl, hown8, hb8⟩
  have ht8 := (hb8.block _ (lt_of_block ht7)).trans ht7
  have hu8 := (hb8.block _ (lt_of_block hu7)).trans hu7
  have k8 := k7.trans (hb8.mono k7.size)
  have HO8 := Lib.hid hown8
  clear hb8 ht6 ht7 hu7 hown8
  go_wp2_with fail
  refine (B2.out _).mono ?_
  rintro e w9 ⟨v9, rfl, hown9, hb9⟩
  have ht9 := (hb9.block _ (lt_of_block ht8)).trans ht8
  have hu9 := (hb9.block _ (lt_of_block hu8)).trans hu8
  have k9 := k8.trans (hb9.mono k8.size)
  have HO9 := Lib.hid hown9
  have HO8' := Lib.hid (HO8.out.on hb9)
  clear hb9 ht8 hu8 hown9 HO8
  obtain ⟨⟨t0, t1⟩, -⟩ := two_cells ht9
  obtain ⟨⟨u0, u1⟩, -⟩ := two_cells hu9
  have q7 : (p == p) = true := by rw [beq_iff_eq]
  have q8 : (cd == cd) = true := by rw [beq_iff_eq]
  go_wp2_with fail
  refine (own_both HO8'.out HO9.out hRl).mono ?_
  rintro e w10 ⟨rfl, hb10⟩
  have k10 := k9.trans (hb10.mono k9.size)
  clear hb10 t0 t1 u0 u1 ht9 hu9
  go_wp2_with fail
  refine (works_any _ (HH.out.on k10 hpos)).mono ?_
  rintro e w11 ⟨rfl, hb11⟩
  go_wp2_with fail
  go_ret
  exact ⟨rfl, k10.trans (hb11.mono k10.size)⟩
end Go.Proofs.YtgcnpmjpdhgikaaDoor
