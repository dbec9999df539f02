/-
  The reference's disk: contracts of Remove and Rename.
-/
import Derived.Test.YtlbkmhlpgpfafaaRf
namespace Go.Proofs.Ytlbkmhlpgpfafaa
open Go.RowKit Go.Maps Go.Joins
theorem RTo.mono {w w' : World} {r : Nat} {S : PS} {D D0 : Nat → Prop} (h : RTo w w' r S D) (hd : ∀ k, D k → D0 k) : RTo w w' r S D0 := by
  obtain ⟨D', a, b, c⟩ := h
  refine ⟨D', a, fun k hk => ?_, c.mono hd⟩
  rcases b k hk with h' | h'
  · exact Or.inl (hd k h')
  · exact Or.inr h'
section
variable {w w' : World} {r : Nat} {v : Value} {S : PS} {D : Nat → Prop}
set_option maxRecDepth 100000 in
set_option maxHeartbeats 6400000 in
theorem RRemove_any (h : RK w r S D) (hs : SOK S) (s : ByteArray) :
    Calls Try.prog 29 #[.pointer (some ⟨r, 0, none⟩), .string s] w fun e w' => e = .returned (.int .i64 (syE S s.data.toList)) ∧ RTo w w' r (rmS S s.data.toList) D := by
  have HD := Lib.hid h.self
  obtain ⟨v, h, rfl⟩ := h
  have HK := Lib.hid (known_any h hs.len s)
  by_cases hk : knE S s.data.toList = 0
  · obtain ⟨j, hj, hp, hnm, hfn⟩ := kn_at hk
    rw [show knP S s.data.toList = j by unfold knP; rw [hk, hp]; rfl, hk] at HK
    rw [show syE S s.data.toList = if chgOk S then 0 else 191 by unfold syE; rw [hk, if_neg (by simp)],
      show rmS S s.data.toList = if chgOk S then { chgUp S with fs := S.fs.take j ++ S.fs.drop (j + 1) } else chgDown S by
        unfold rmS; rw [hk, if_neg (by simp), ← hnm, drop_at hs.srt hj]]
    have HC := Lib.hid (rchange_up h hs)
    have HC2 := Lib.hid (rchange_no h hs)
    have HJ : Hid (j < (chgUp S).fs.length) := hj
    have HS := Lib.hid hs.up
    clear h hk hp hfn hnm hs hj
    cases hc : chgOk S with
    | false =>
      have HC := Lib.hid (HC2.out hc)
      simp only [Bool.false_eq_true, ↓reduceIte]
      go_enter Try.func29, Try.ntmps29
      go_wp2_with fail
      refine HK.out.mono ?_
      rintro e w1 ⟨rfl, rfl⟩
      go_wp2_with fail
      refine HC.out.mono ?_
      rintro e w2 ⟨rfl, h2⟩
      go_wp2_with fail
      go_ret
      exact ⟨rfl, h2⟩
    | true =>
      have HC := Lib.hid (HC.out hc)
      simp only [↓reduceIte]
      go_enter Try.func29, Try.ntmps29
      go_wp2_with fail
      refine HK.out.mono ?_
      rintro e w1 ⟨rfl, rfl⟩
      go_wp2_with fail
      refine HC.out.mono ?_
      rintro e w2 ⟨rfl, h2, f2'⟩
      have HF2 := Lib.hid f2'
      have HDR := Lib.hid (drop_any h2 HS.out j HJ.out)
      clear h2 f2'
      go_wp2_with fail
      refine HDR.out.mono ?_
      rintro e w3 ⟨rfl, h3⟩
      go_wp2_with fail
      go_ret
      exact ⟨rfl, h3.after (fun k hk => Or.inl hk) HF2.out⟩
  · obtain ⟨k, HKK⟩ := named (knE S s.data.toList)
    rw [show syE S s.data.toList = k by unfold syE; rw [if_pos hk, HKK.out], show rmS S s.data.toList = S by unfold rmS; rw [if_pos hk]]
    rw [HKK.out] at hk HK
    have hk' : (k == 0) = false := beq_eq_false_iff_ne.2 hk
    generalize knP S s.data.toList = p at *
    clear h hs
    go_enter Try.func29, Try.ntmps29
    go_wp2_with fail
    refine HK.out.mono ?_
    rintro e w1 ⟨rfl, rfl⟩
    go_wp2_with fail
    go_ret
    exact ⟨rfl, HD.out⟩
theorem SOK.del (h : SOK S) (j : Nat) : SOK { S with fs := S.fs.take j ++ S.fs.drop (j + 1) } := by
  have hsub : (S.fs.take j ++ S.fs.drop (j + 1)).Sublist S.fs := by
    rw [← List.eraseIdx_eq_take_drop_succ]
    exact List.eraseIdx_sublist _ _
  have hmem : ∀ f ∈ S.fs.take j ++ S.fs.drop (j + 1), f ∈ S.fs := fun f hf => hsub.subset hf
  exact ⟨List.Pairwise.sublist hsub h.srt, Nat.le_trans hsub.length_le h.len, fun f hf => h.nm f (hmem f hf), fun f hf => h.has f (hmem f hf), fun f hf => h.safe f (hmem f hf), fun f hf => h.kept f (hmem f hf), h.l0, h.l1⟩
theorem same_eq (s m : ByteArray) : (s.toList == m.toList) = decide (s.data.toList = m.data.toList) := by
  rw [Lib.toList_data, Lib.toList_data, Bool.eq_iff_iff]
  simp
set_option maxRecDepth 100000 in
set_option maxHeartbeats 6400000 in
theorem RRename_any (h : RK w r S D) (hs : SOK S) (s m : ByteArray) :
    Calls Try.prog 27 #[.pointer (some ⟨r, 0, none⟩), .string s, .string m] w fun e w' => e = .returned (.int .i64 (reE S s.data.toList m.data.toList)) ∧ RTo w w' r (reS S s.data.toList m.data.toList) D := by
  have HD := Lib.hid h.self
  obtain ⟨v, h, rfl⟩ := h
  have HK := Lib.hid (known_any h hs.len s)
  have HM := Lib.hid (rmay_any s w)
  have HM2 := Lib.hid (rmay_any m w)
  cases hm1 : mayN s.data.toList with
  | false =>
    rw [hm1] at HM
    rw [show reE S s.data.toList m.data.toList = 170 by unfold reE; rw [if_pos (Or.inl hm1)], show reS S s.data.toList m.data.toList = S by unfold reS; rw [if_pos (Or.inl hm1)]]
    clear h hs
    go_enter Try.func27, Try.ntmps27
    go_wp2_with fail
    refine HM.out.mono ?_
    rintro e w1 ⟨rfl, rfl⟩
    go_wp2_with fail
    go_ret
    exact ⟨rfl, HD.out⟩
  | true =>
    rw [hm1] at HM
    cases hm2 : mayN m.data.toList with
    | false =>
      rw [hm2] at HM2
      rw [show reE S s.data.toList m.data.toList = 170 by unfold reE; rw [if_pos (Or.inr hm2)], show reS S s.data.toList m.data.toList = S by unfold reS; rw [if_pos (Or.inr hm2)]]
      clear h hs
      go_enter Try.func27, Try.ntmps27
      go_wp2_with fail
      refine HM.out.mono ?_
      rintro e w1 ⟨rfl, rfl⟩
      go_wp2_with fail
      refine HM2.out.mono ?_
      rintro e w1 ⟨rfl, rfl⟩
      go_wp2_with fail
      go_ret
      exact ⟨rfl, HD.out⟩
    | true =>
      rw [hm2] at HM2
      have hno : ¬ (mayN s.data.toList = false ∨ mayN m.data.toList = false) := by rw [hm1, hm2]; simp
      by_cases hk : knE S s.data.toList = 0
      · obtain ⟨j, hj, hp, hnm, hfn⟩ := kn_at hk
        rw [show knP S s.data.toList = j by unfold knP; rw [hk, hp]; rfl, hk] at HK
        obtain ⟨F, hFj⟩ : ∃ F, S.fs[j] = F := ⟨_, rfl⟩
        rw [hFj] at hnm hfn
        rw [show reE S s.data.toList m.data.toList = if chgOk S then 0 else 191 by unfold reE; rw [if_neg hno, hk, if_neg (by simp)],
          show reS S s.data.toList m.data.toList = if chgOk S then { chgUp S with fs := putK PF.nm { F with nm := m.data.toList } (S.fs.take j ++ S.fs.drop (j + 1)) } else chgDown S by
            unfold reS reL
            rw [if_neg hno, hk, if_neg (by simp), hfn]
            have := drop_at hs.srt hj
            rw [hFj, hnm] at this
            rw [← this]]
        have HC := Lib.hid (rchange_up h hs)
        have HC2 := Lib.hid (rchange_no h hs)
        have HJ : Hid (∃ hj : j < (chgUp S).fs.length, (chgUp S).fs[j] = F) := ⟨hj, hFj⟩
        have HS := Lib.hid hs.up
        have HSD := Lib.hid (hs.up.del j)
        have HSM := same_eq s m
        have HNM : Hid (sB F.nm = s) := by show _ = _; rw [hnm, sB_of]
        have HPS : Hid (s.data.toList = m.data.toList → putK PF.nm { F with nm := m.data.toList } (S.fs.take j ++ S.fs.drop (j + 1)) = S.fs) := fun e => by
          have h1 := drop_at hs.srt hj
          rw [hFj] at h1
          rw [← h1, show ({ F with nm := m.data.toList } : PF) = F by rw [← e, ← hnm]]
          have := put_del hs.srt hfn
          rw [← hnm] at this
          exact this
        obtain ⟨g, c, hv, hg, hcc⟩ := h.form (by omega)
        subst hv
        obtain ⟨N, HN⟩ := named S.fs.length
        have hjN : j < N := by rw [← HN.out]; exact hj
        have hl64 := hs.len
        rw [HN.out] at hl64
        clear h hk hp hfn hnm hs hj hFj hcc hno
        cases hc : chgOk S with
        | false =>
          have HC := Lib.hid (HC2.out hc)
          simp only [Bool.false_eq_true, ↓reduceIte]
          clear HSM
          go_enter Try.func27, Try.ntmps27
          go_wp2_with fail
          refine HM.out.mono ?_
          rintro e w1 ⟨rfl, rfl⟩
          go_wp2_with fail
          refine HM2.out.mono ?_
          rintro e w1 ⟨rfl, rfl⟩
          go_wp2_with fail
          refine HK.out.mono ?_
          rintro e w1 ⟨rfl, rfl⟩
          go_wp2_with fail
          refine HC.out.mono ?_
          rintro e w2 ⟨rfl, h2⟩
          go_wp2_with fail
          go_ret
          exact ⟨rfl, h2⟩
        | true =>
          have HC := Lib.hid (HC.out hc)
          simp only [↓reduceIte]
          by_cases he : s.data.toList = m.data.toList
          · rw [decide_eq_true he] at HSM
            rw [HPS.out he]
            clear he
            go_enter Try.func27, Try.ntmps27
            go_wp2_with fail
            refine HM.out.mono ?_
            rintro e w1 ⟨rfl, rfl⟩
            go_wp2_with fail
            refine HM2.out.mono ?_
            rintro e w1 ⟨rfl, rfl⟩
            go_wp2_with fail
            refine HK.out.mono ?_
            rintro e w1 ⟨rfl, rfl⟩
            go_wp2_with fail
            refine HC.out.mono ?_
            rintro e w2 ⟨rfl, h2, f2'⟩
            have H2 := Lib.hid h2
            have HF2 := Lib.hid f2'
            clear h2 f2'
            go_wp2_with fail
            go_ret
            exact ⟨rfl, _, ⟨_, H2.out, rfl⟩, fun _ hk => Or.inl hk, HF2.out⟩
          · rw [decide_eq_false he] at HSM
            clear he
            go_enter Try.func27, Try.ntmps27
            go_wp2_with fail
            refine HM.out.mono ?_
            rintro e w1 ⟨rfl, rfl⟩
            go_wp2_with fail
            refine HM2.out.mono ?_
            rintro e w1 ⟨rfl, rfl⟩
            go_wp2_with fail
            refine HK.out.mono ?_
            rintro e w1 ⟨rfl, rfl⟩
            go_wp2_with fail
            refine HC.out.mono ?_
            rintro e w2 ⟨rfl, h2, f2'⟩
            have H2 := Lib.hid h2
            have HF2 := Lib.hid f2'
            obtain ⟨hj, hFj⟩ := HJ.out
            obtain ⟨⟨c0, c1, c2⟩, f0, f1, f2⟩ := cells3 h2.hd
            obtain ⟨⟨p0, p1, p2, p3⟩, pf⟩ := h2.fileF rfl j hj F hFj
            rw [HNM.out] at p0
            rw [HN.out] at c0
            obtain ⟨sh, HSH⟩ := named (sB F.has)
            obtain ⟨ss, HSS⟩ := named (sB F.safe)
            rw [HSH.out] at p1
            rw [HSS.out] at p2
            clear h2 f2' hj hFj pf
            go_wp2_with fail
            refine (drop_any (w := w2.alloc (.cells #[.string s, .string sh, .string ss, .bool F.kept] 60)) (H2.out.on ((Below.refl _ _).alloc (Nat.le_refl _) _)) HS.out j HJ.out.1).mono ?_
            rintro e w3 ⟨rfl, h3⟩
            obtain ⟨D', ⟨v3, h3, rfl⟩, hd3, f3⟩ := h3
            have hgl : g < w2.heap.size := Nat.lt_of_lt_of_le hg HF2.out.size
            have hsA : (w2.alloc (.cells #[.string s, .string sh, .string ss, .bool F.kept] 60)).heap.size = w2.heap.size + 1 := by simp
            have hrl : r < w2.heap.size := H2.out.lt _ (Or.inl rfl)
            have hds : ∀ k, Dv r (.slice (some ⟨g, 0, none⟩) S.fs.length c) k → k < w2.heap.size := by
              rintro k (rfl | hk)
              · exact hrl
              · injection hk with hk
                rw [← hk]
                exact hgl
            have hnD : ¬ Dv r v3 w2.heap.size := fun hk => by
              rcases hd3 _ hk with h' | h'
              · have := hds _ h'
                omega
              · rw [hsA] at h'
                omega
            have hb3 : w3.heap[w2.heap.size]? = some (.cells #[.string s, .string sh, .string ss, .bool F.kept] 60 (0, 0)) := (f3.block _ (by simp) (fun hk => by have := hds _ hk; omega)).trans (heap_top _ _)
            clear c0 c1 c2 f0 f1 f2 p0 p1 p2 p3
            obtain ⟨⟨q0, q1, q2, q3⟩, t0, t1, t2, t3⟩ := cells4 hb3
            have HF3 : Hid (Fr (Dv r (.slice (some ⟨g, 0, none⟩) S.fs.length c)) w1 (w3.setCell ⟨w2.heap.size, 0, none⟩ (.string m))) := ((HF2.out.trans (Fr.of ((Below.refl _ _).alloc (Nat.le_refl _) _)) (fun k hk => Or.inl hk) : Fr (Dv r (.slice (some ⟨g, 0, none⟩) S.fs.length c)) w1 _).trans f3 (fun k hk => Or.inl hk)).setCell ⟨w2.heap.size, 0, none⟩ _ (Or.inr HF2.out.size)
            have HPU := Lib.hid (rput_any (w := w3.setCell ⟨w2.heap.size, 0, none⟩ (.string m)) (h3.same (fun k hk => setO w3 _ (fun e => hnD (e ▸ hk)))) HSD.out { F with nm := m.data.toList })
            simp only [sB_of, HSH.out, HSS.out] at HPU
            have HSZ : Hid (∀ k, Dv r v3 k → Dv r (.slice (some ⟨g, 0, none⟩) S.fs.length c) k ∨ w1.heap.size ≤ k) := fun k hk => by
              rcases hd3 k hk with h' | h'
              · exact Or.inl h'
              · right
                have := HF2.out.size
                have h2 : w2.heap.size ≤ k := by rw [hsA] at h'; omega
                omega
            clear hb3 h3 f3 hd3 hnD hds hgl hrl hsA
            go_wp2_with fail
            refine HPU.out.mono ?_
            rintro e w4 ⟨rfl, h4⟩
            go_wp2_with fail
            go_ret
            exact ⟨rfl, h4.after HSZ.out HF3.out⟩
      · obtain ⟨k, HKK⟩ := named (knE S s.data.toList)
        rw [show reE S s.data.toList m.data.toList = k by unfold reE; rw [if_neg hno, if_pos hk, HKK.out], show reS S s.data.toList m.data.toList = S by unfold reS; rw [if_neg hno, if_pos hk]]
        rw [HKK.out] at hk HK
        have hk' : (k == 0) = false := beq_eq_false_iff_ne.2 hk
        generalize knP S s.data.toList = p at *
        clear h hs hno
        go_enter Try.func27, Try.ntmps27
        go_wp2_with fail
        refine HM.out.mono ?_
        rintro e w1 ⟨rfl, rfl⟩
        go_wp2_with fail
        refine HM2.out.mono ?_
        rintro e w1 ⟨rfl, rfl⟩
        go_wp2_with fail
        refine HK.out.mono ?_
        rintro e w1 ⟨rfl, rfl⟩
        go_wp2_with fail
        go_ret
        exact ⟨rfl, HD.out⟩
end
end Go.Proofs.Ytlbkmhlpgpfafaa
