/-
  The law's same: a disk and the reference's, of the same files.
-/
import Derived.Test.YtlbkmhlpgpfafaaRk
namespace Go.Proofs.Ytlbkmhlpgpfafaa
open Go.RowKit Go.Maps Go.Joins
section
variable {w w' : World} {d r : Nat} {ow : Nat → Option Nat} {S : PS} {D : Nat → Prop}
set_option maxRecDepth 100000 in
set_option maxHeartbeats 6400000 in
theorem same_any (h : DK w d ow S) (hr : RK w r S D) :
    Calls Try.prog 12 #[.pointer (some ⟨d, 0, none⟩), .pointer (some ⟨r, 0, none⟩)] w fun e w' => e = .returned (.bool true) ∧ Below w.heap.size w w' := by
  have hl := h.len
  have HN1 := Lib.hid (names_k h)
  have HDK := Lib.hid h
  have HRK := Lib.hid hr
  have HTL : Hid ((S.fs.map PF.nm).length = S.fs.length) := by show _ = _; exact List.length_map _
  obtain ⟨N, HN⟩ := named S.fs.length
  rw [HN.out] at HN1 hl
  clear h hr
  go_enter Try.func12, Try.ntmps12
  go_wp2_with fail
  refine HN1.out.mono ?_
  rintro e w1 ⟨v1, rfl, ho1, hb1⟩
  obtain ⟨a1, k1, hv1⟩ := own_slice ho1
  subst hv1
  have HO1 := Lib.hid ho1
  have HB1 := Lib.hid hb1
  have HN2 := Lib.hid (RNames_any (HRK.out.on hb1) (by rw [HN.out]; exact hl))
  rw [HN.out] at HN2
  clear ho1 hb1
  go_wp2_with fail
  refine HN2.out.mono ?_
  rintro e w2 ⟨v2, rfl, ho2, hb2⟩
  have hb12 := bthen HB1.out hb2 HB1.out.size
  have HB2 := Lib.hid hb12
  have HO1' : Hid (w2.ownsRow w.heap.size 9 1 (.slice a1 N k1) N (namesC (S.fs.map PF.nm))) := own_same HO1.out (fun k hk => hb2.block k (HO1.out.lt k hk).2)
  have HST := Lib.hid (sameTexts_any (w := w2) (v1 := .slice a1 N k1) (v2 := v2) (S.fs.map PF.nm) (by rw [HTL.out, HN.out]; exact HO1'.out) (by rw [HTL.out, HN.out]; exact ho2) (by rw [HTL.out, HN.out]; omega))
  obtain ⟨a2, k2, hv2⟩ := own_slice ho2
  subst hv2
  clear ho2 hb2 hb12
  go_wp2_with fail
  refine HST.out.mono ?_
  rintro e w3 ⟨rfl, hb3⟩
  have hb4 := bthen HB2.out hb3 HB2.out.size
  have HB3 := Lib.hid hb4
  have HO3 : Hid (w3.ownsRow w.heap.size 9 1 (.slice a1 N k1) N (namesC (S.fs.map PF.nm))) := own_same HO1'.out (fun k hk => hb3.block k (HO1'.out.lt k hk).2)
  clear hb3 hb4
  obtain ⟨v, hp, hD⟩ := HRK.out.on HB3.out
  obtain ⟨⟨c0, c1, c2⟩, f0, f1, f2⟩ := cells3 hp.hd
  obtain ⟨va, vc, hv⟩ := hp.shape
  subst hv
  have HP := Lib.hid hp
  have HD3 := Lib.hid (HDK.out.on HB3.out)
  rw [HN.out] at c0
  clear hp c1 c2 f0 f1 f2
  go_wp2_with fail
  go_loopw [6] (fun i wr => ∃ j : Nat, j ≤ N ∧ i = .int .i64 j ∧ wr = w3) (fun i _ => N - (intOf i).toNat)
  case atStart => exact ⟨0, Nat.zero_le _, rfl, rfl⟩
  case round =>
    obtain ⟨j, hj, rfl, rfl⟩ := hrel
    by_cases hlt : j < N
    · have hjS : j < S.fs.length := by rw [HN.out]; exact hlt
      obtain ⟨F, hFj⟩ : ∃ F, S.fs[j] = F := ⟨_, rfl⟩
      have hat := HDK.out.at j hjS
      rw [hFj] at hat
      obtain ⟨g, vc', hv, hg, _⟩ := HP.out.form (by omega)
      injection hv with hv1 _ hv3
      subst hv1 hv3
      obtain ⟨⟨p0, p1, p2, p3⟩, pf⟩ := HP.out.fileF rfl j hjS F hFj
      obtain ⟨g1, k1', e1⟩ := ownsRow_form HO3.out (show 0 < N by omega)
      injection e1 with e11 _ e13
      subst e11 e13
      have q0 : wr.cell? ⟨g1, j, none⟩ = some (.string (sB F.nm)) := by
        have h0 := (HO3.out.cellAt j (by omega)).trans (namesC_at (S.fs.map PF.nm) j (by rw [List.length_map]; exact hjS))
        rw [List.getElem_map, hFj] at h0
        exact h0
      have HRD : Hid (Calls Try.prog 23 #[.pointer (some ⟨d, 0, none⟩), .string (sB F.nm)] wr fun e w' => e = .returned (.tuple #[.string (sB F.has), .int .i64 0]) ∧ w' = wr) := by
        have h0 := Read_any HD3.out (sB F.nm) (by rw [sB_size]; unfold maxLen; omega)
        rw [sB_list, hat.1, hat.2.1] at h0
        exact h0
      obtain ⟨sn, HSN⟩ := named (sB F.nm)
      obtain ⟨sh, HSH⟩ := named (sB F.has)
      rw [HSN.out] at q0 HRD
      rw [HSH.out] at p1 HRD
      clear hFj hjS hat hg pf p0 p2 p3
      go_wp2_with fail
      refine HRD.out.mono ?_
      rintro e w4 ⟨rfl, rfl⟩
      go_wp2_with fail
      exact ⟨⟨j + 1, by omega, by go_num, by trivial⟩, by simp [intOf]; omega⟩
    · go_wp2_with fail
      go_ret
      exact ⟨rfl, HB3.out⟩
end
end Go.Proofs.Ytlbkmhlpgpfafaa
