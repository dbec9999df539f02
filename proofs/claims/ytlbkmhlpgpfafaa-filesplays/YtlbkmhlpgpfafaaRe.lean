/-
  The reference's disk: contracts of Write, Append, Sync, Rename and Remove.
-/
import Derived.Test.YtlbkmhlpgpfafaaRd
namespace Go.Proofs.Ytlbkmhlpgpfafaa
open Go.RowKit Go.Maps Go.Joins
section
variable {w w' : World} {r : Nat} {v : Value} {S : PS} {D : Nat → Prop}
theorem SOK.up (h : SOK S) : SOK (chgUp S) := by
  refine ⟨h.srt, h.len, h.nm, h.has, h.safe, h.kept, ?_, ?_⟩
  · have := h.l0
    unfold chgUp
    show -1 ≤ if 0 < S.left then S.left - 1 else S.left
    split <;> omega
  · have := h.l1
    unfold chgUp
    show (if 0 < S.left then S.left - 1 else S.left) ≤ _
    split <;> omega
theorem rchange_up (h : RP w r v S) (hs : SOK S) (hc : chgOk S = true) :
    Calls Try.prog 47 #[.pointer (some ⟨r, 0, none⟩)] w fun e w' => e = .returned (.bool true) ∧ RP w' r v (chgUp S) ∧ Fr (Dv r v) w w' := by
  refine (rchange_any h hs).mono ?_
  rintro e w1 ⟨rfl, a, b⟩
  rw [hc] at a ⊢
  exact ⟨rfl, a, b.mono (fun k hk => Or.inl hk)⟩
theorem rchange_no (h : RP w r v S) (hs : SOK S) (hc : chgOk S = false) :
    Calls Try.prog 47 #[.pointer (some ⟨r, 0, none⟩)] w fun e w' => e = .returned (.bool false) ∧ RTo w w' r (chgDown S) (Dv r v) := by
  refine (rchange_any h hs).mono ?_
  rintro e w1 ⟨rfl, a, b⟩
  rw [hc] at a ⊢
  exact ⟨rfl, Dv r v, ⟨v, a, rfl⟩, fun _ hk => Or.inl hk, b.mono (fun k hk => Or.inl hk)⟩
theorem wrLong_eq (S : PS) (s : List UInt8) (m : ByteArray) : wrLong S s m.data.toList = (decide (262144 < m.size) || (decide (plc s S.fs < 0) && decide (64 ≤ S.fs.length))) := by
  unfold wrLong
  have hml : m.data.toList.length = m.size := by rw [Array.length_toList]; rfl
  rw [hml]
  congr 2
  rw [Bool.eq_iff_iff]
  rw [← plc_neg]
  simp
theorem RP.fileF {w : World} {r g c n : Nat} {S : PS} (h : RP w r (.slice (some ⟨g, 0, none⟩) n c) S) (hn : S.fs.length = n) (k : Nat) (hk : k < S.fs.length) (F : PF) (e : S.fs[k] = F) :
    (w.cell? ⟨g, k * 4, none⟩ = some (.string (sB F.nm)) ∧ w.cell? ⟨g, k * 4 + 1, none⟩ = some (.string (sB F.has)) ∧ w.cell? ⟨g, k * 4 + 2, none⟩ = some (.string (sB F.safe)) ∧ w.cell? ⟨g, k * 4 + 3, none⟩ = some (.bool F.kept)) ∧ (∀ j, w.frozen? ⟨g, j, none⟩ = false) := by
  subst hn e
  exact h.file k hk
theorem plc_some {S : PS} {s : List UInt8} {p : Int} (h : plc s S.fs = p) (hp : ¬ p < 0) : ∃ j F, ∃ hj : j < S.fs.length, p = (j : Int) ∧ S.fs[j] = F ∧ F.nm = s ∧ fnd S s = some F := by
  rcases plc_spec s S.fs with ⟨a, b⟩ | ⟨k, hk, a, b, c⟩
  · exact absurd (by rw [← h, b]; omega) hp
  · exact ⟨k, _, hk, by rw [← h, a], rfl, b, c⟩
set_option maxRecDepth 100000 in
set_option maxHeartbeats 6400000 in
theorem RWrite_any (h : RK w r S D) (hs : SOK S) (s m : ByteArray) :
    Calls Try.prog 24 #[.pointer (some ⟨r, 0, none⟩), .string s, .string m] w fun e w' => e = .returned (.int .i64 (wrE S s.data.toList m.data.toList)) ∧ RTo w w' r (wrS S s.data.toList m.data.toList) D := by
  have HD := Lib.hid h.self
  obtain ⟨v, h, rfl⟩ := h
  obtain ⟨⟨c0, c1, c2⟩, f0, f1, f2⟩ := cells3 h.hd
  have HM := Lib.hid (rmay_any s w)
  have HF := Lib.hid (rfind_any h hs.len s)
  cases hmy : mayN s.data.toList with
  | false =>
    rw [hmy] at HM
    rw [show wrE S s.data.toList m.data.toList = 170 by unfold wrE; rw [if_pos hmy], show wrS S s.data.toList m.data.toList = S by unfold wrS; rw [if_pos hmy]]
    clear h hs
    go_enter Try.func24, Try.ntmps24
    go_wp2_with fail
    refine HM.out.mono ?_
    rintro e w1 ⟨rfl, rfl⟩
    go_wp2_with fail
    go_ret
    exact ⟨rfl, HD.out⟩
  | true =>
    rw [hmy] at HM
    rw [(wr_eq hmy).1, (wr_eq hmy).2]
    have HWL := Lib.hid (wrLong_eq S s.data.toList m)
    obtain ⟨av, cv, hv⟩ := h.shape
    subst hv
    have hl64 := hs.len
    have H := Lib.hid h
    have HS := Lib.hid hs
    have HC := Lib.hid (rchange_up h hs)
    have HC2 := Lib.hid (rchange_no h hs)
    obtain ⟨p, HP⟩ := named (plc s.data.toList S.fs)
    obtain ⟨N, HN⟩ := named S.fs.length
    rw [HP.out] at HF HWL
    rw [HN.out] at HWL c0 hl64
    clear h hs
    by_cases g1 : 262144 < m.size
    · rw [HWL.out, show (decide (262144 < m.size) || (decide (p < 0) && decide (64 ≤ N))) = true by simp [g1]]
      simp only [↓reduceIte]
      have g1' : (262144 : Int) < m.size := by omega
      clear g1
      by_cases g2 : p < 0
      · go_enter Try.func24, Try.ntmps24
        go_wp2_with fail
        refine HM.out.mono ?_
        rintro e w1 ⟨rfl, rfl⟩
        go_wp2_with fail
        refine HF.out.mono ?_
        rintro e w1 ⟨rfl, rfl⟩
        go_wp2_with fail
        go_ret
        exact ⟨rfl, HD.out⟩
      · go_enter Try.func24, Try.ntmps24
        go_wp2_with fail
        refine HM.out.mono ?_
        rintro e w1 ⟨rfl, rfl⟩
        go_wp2_with fail
        refine HF.out.mono ?_
        rintro e w1 ⟨rfl, rfl⟩
        go_wp2_with fail
        go_ret
        exact ⟨rfl, HD.out⟩
    · have g1' : ¬ (262144 : Int) < m.size := by omega
      by_cases g2 : p < 0
      · by_cases g3 : 64 ≤ N
        · rw [HWL.out, show (decide (262144 < m.size) || (decide (p < 0) && decide (64 ≤ N))) = true by simp [g2, g3]]
          simp only [↓reduceIte]
          have g3' : (64 : Int) ≤ N := by omega
          clear g1 g3
          go_enter Try.func24, Try.ntmps24
          go_wp2_with fail
          refine HM.out.mono ?_
          rintro e w1 ⟨rfl, rfl⟩
          go_wp2_with fail
          refine HF.out.mono ?_
          rintro e w1 ⟨rfl, rfl⟩
          go_wp2_with fail
          go_ret
          exact ⟨rfl, HD.out⟩
        · rw [HWL.out, show (decide (262144 < m.size) || (decide (p < 0) && decide (64 ≤ N))) = false by simp [g1, g3]]
          simp only [Bool.false_eq_true, ↓reduceIte]
          have g3' : ¬ (64 : Int) ≤ N := by omega
          have hfn : fnd S s.data.toList = none := by
            have := (plc_neg S s.data.toList).1 (by rw [HP.out]; exact g2)
            simpa using this
          have hwf : wrF S s.data.toList m.data.toList = ⟨s.data.toList, m.data.toList, [], false⟩ := by unfold wrF; rw [hfn]
          rw [hwf]
          clear g1 g3 hwf hfn
          cases hc : chgOk S with
          | false =>
            have HC := Lib.hid (HC2.out hc)
            simp only [Bool.false_eq_true, ↓reduceIte]
            go_enter Try.func24, Try.ntmps24
            go_wp2_with fail
            refine HM.out.mono ?_
            rintro e w1 ⟨rfl, rfl⟩
            go_wp2_with fail
            refine HF.out.mono ?_
            rintro e w1 ⟨rfl, rfl⟩
            go_wp2_with fail
            refine HC.out.mono ?_
            rintro e w2 ⟨rfl, h2⟩
            go_wp2_with fail
            go_ret
            exact ⟨rfl, h2⟩
          | true =>
            have HC := Lib.hid (HC.out hc)
            simp only [↓reduceIte]
            go_enter Try.func24, Try.ntmps24
            go_wp2_with fail
            refine HM.out.mono ?_
            rintro e w1 ⟨rfl, rfl⟩
            go_wp2_with fail
            refine HF.out.mono ?_
            rintro e w1 ⟨rfl, rfl⟩
            go_wp2_with fail
            refine HC.out.mono ?_
            rintro e w2 ⟨rfl, h2, f2'⟩
            have H2 := Lib.hid h2
            have HF2 := Lib.hid f2'
            clear h2 f2' c0 c1 c2 f0 f1 f2
            have HPUT := Lib.hid (rput_any (w := w2.alloc (.cells #[.string s, .string m, .string ⟨#[]⟩, .bool false] 60)) (H2.out.on ((Below.refl _ _).alloc (Nat.le_refl _) _)) HS.out.up ⟨s.data.toList, m.data.toList, [], false⟩)
            rw [sB_of, sB_of, show sB [] = (⟨#[]⟩ : ByteArray) from rfl] at HPUT
            go_wp2_with fail
            refine HPUT.out.mono ?_
            rintro e w3 ⟨rfl, h3⟩
            go_wp2_with fail
            go_ret
            exact ⟨rfl, h3.after (fun k hk => Or.inl hk) (HF2.out.trans (Fr.of ((Below.refl _ _).alloc (Nat.le_refl _) _)) (fun k hk => Or.inl hk))⟩
      · rw [HWL.out, show (decide (262144 < m.size) || (decide (p < 0) && decide (64 ≤ N))) = false by simp [g1, g2]]
        simp only [Bool.false_eq_true, ↓reduceIte]
        obtain ⟨j, F, hj, hpj, hFj, hnm, hfn⟩ := plc_some HP.out g2
        subst hpj
        have hwf : wrF S s.data.toList m.data.toList = { F with has := m.data.toList } := by unfold wrF; rw [hfn]
        rw [hwf]
        have hjN : j < N := by rw [← HN.out]; exact hj
        have HJ : Hid (∃ hj : j < S.fs.length, S.fs[j] = F) := ⟨hj, hFj⟩
        have HNM : Hid (sB F.nm = s) := by show _ = _; rw [hnm, sB_of]
        clear g1 hwf hfn hnm hFj hj
        cases hc : chgOk S with
        | false =>
          have HC := Lib.hid (HC2.out hc)
          simp only [Bool.false_eq_true, ↓reduceIte]
          go_enter Try.func24, Try.ntmps24
          go_wp2_with fail
          refine HM.out.mono ?_
          rintro e w1 ⟨rfl, rfl⟩
          go_wp2_with fail
          refine HF.out.mono ?_
          rintro e w1 ⟨rfl, rfl⟩
          go_wp2_with fail
          refine HC.out.mono ?_
          rintro e w2 ⟨rfl, h2⟩
          go_wp2_with fail
          go_ret
          exact ⟨rfl, h2⟩
        | true =>
          have HC := Lib.hid (HC.out hc)
          simp only [↓reduceIte]
          go_enter Try.func24, Try.ntmps24
          go_wp2_with fail
          refine HM.out.mono ?_
          rintro e w1 ⟨rfl, rfl⟩
          go_wp2_with fail
          refine HF.out.mono ?_
          rintro e w1 ⟨rfl, rfl⟩
          go_wp2_with fail
          refine HC.out.mono ?_
          rintro e w2 ⟨rfl, h2, f2'⟩
          have H2 := Lib.hid h2
          have HF2 := Lib.hid f2'
          clear c0 c1 c2 f0 f1 f2
          obtain ⟨⟨c0, c1, c2⟩, f0, f1, f2⟩ := cells3 h2.hd
          obtain ⟨g, c', hv, hg, hcc⟩ := h2.form (by show 0 < S.fs.length; rw [HN.out]; omega)
          injection hv with hv1 _ hv3
          subst hv1 hv3
          obtain ⟨hj, hFj⟩ := HJ.out
          obtain ⟨⟨p0, p1, p2, p3⟩, pf⟩ := h2.fileF rfl j hj F hFj
          rw [HNM.out] at p0
          have hgl : g < w2.heap.size := hg
          have hrl := lt_of_block h2.hd
          have hb0 : Below w2.heap.size w2 (w2.alloc (.cells #[.string s, .string ⟨#[]⟩, .string ⟨#[]⟩, .bool false] 60)) := (Below.refl _ _).alloc (Nat.le_refl _) _
          have d0 := (hb0.cell (p := ⟨r, 0, none⟩) hrl).trans c0
          rw [HN.out] at d0
          clear h2 f2' hj hFj c0 c1 c2 f1 f2 hcc
          obtain ⟨sh, HSH⟩ := named (sB F.has)
          obtain ⟨ss, HSS⟩ := named (sB F.safe)
          rw [HSH.out] at p1
          rw [HSS.out] at p2
          have e0 := (hb0.cell (p := ⟨g, j * 4, none⟩) hgl).trans p0
          have e1 := (hb0.cell (p := ⟨g, j * 4 + 1, none⟩) hgl).trans p1
          have e2 := (hb0.cell (p := ⟨g, j * 4 + 2, none⟩) hgl).trans p2
          have e3 := (hb0.cell (p := ⟨g, j * 4 + 3, none⟩) hgl).trans p3
          have HPUT := Lib.hid (fun (W : World) (hb : Below w2.heap.size w2 W) => rput_any (w := W) (H2.out.on hb) HS.out.up { F with has := m.data.toList })
          simp only [sB_of, HNM.out, HSS.out] at HPUT
          clear p0 p1 p2 p3 pf
          go_wp2_with fail
          refine (HPUT.out _ ((Below.refl _ _).alloc (Nat.le_refl _) _)).mono ?_
          rintro e w3 ⟨rfl, h3⟩
          go_wp2_with fail
          go_ret
          exact ⟨rfl, h3.after (fun k hk => Or.inl hk) (HF2.out.trans (Fr.of ((Below.refl _ _).alloc (Nat.le_refl _) _)) (fun k hk => Or.inl hk))⟩
end
end Go.Proofs.Ytlbkmhlpgpfafaa
