/-
  The reference's disk: contract of Names.
-/
import Derived.Test.YtlbkmhlpgpfafaaRg
import Derived.Test.YtlbkmhlpgpfafaaAll
namespace Go.Proofs.Ytlbkmhlpgpfafaa
open Go.RowKit Go.Maps Go.Joins
section
variable {w w' : World} {r : Nat} {v : Value} {S : PS} {D : Nat → Prop}
set_option maxRecDepth 100000 in
set_option maxHeartbeats 6400000 in
theorem RNames_any (h : RK w r S D) (hl : S.fs.length ≤ 64) :
    Calls Try.prog 37 #[.pointer (some ⟨r, 0, none⟩)] w fun e w' => ∃ v, e = .returned v ∧ w'.ownsRow w.heap.size 9 1 v S.fs.length (namesC (S.fs.map PF.nm)) ∧ Below w.heap.size w w' := by
  obtain ⟨i9, hi, hz0, hz1, hz2⟩ := info_parts info9
  obtain ⟨v, h, rfl⟩ := h
  obtain ⟨⟨c0, c1, c2⟩, f0, f1, f2⟩ := cells3 h.hd
  obtain ⟨va, vc, hv⟩ := h.shape
  subst hv
  have hrl := lt_of_block h.hd
  have HP := Lib.hid h
  obtain ⟨N, HN⟩ := named S.fs.length
  rw [HN.out] at c0 hl ⊢
  clear h c1 c2 f0 f1 f2
  go_enter Try.func37, Try.ntmps37
  go_wp2_with fail
  go_loopw [3, 4] (fun ov i wr => ∃ j : Nat, j ≤ N ∧ i = .int .i64 j ∧ Hid (wr.ownsRow w.heap.size 9 1 ov j (namesC ((S.fs.take j).map PF.nm))) ∧ Hid (Below w.heap.size w wr)) (fun _ i _ => N - (intOf i).toNat)
  case atStart => exact ⟨0, Nat.zero_le _, rfl, ⟨rfl, Or.inl ⟨rfl, rfl⟩⟩, Below.refl _ _⟩
  case round =>
    obtain ⟨j, hj, rfl, HO, HB⟩ := hrel
    obtain ⟨oa, oc, hvo⟩ := own_slice HO.out
    subst hvo
    have d0 := (HB.out.cell (p := ⟨r, 0, none⟩) hrl).trans c0
    by_cases hlt : j < N
    · have hjS : j < S.fs.length := by rw [HN.out]; exact hlt
      obtain ⟨F, hFj⟩ : ∃ F, S.fs[j] = F := ⟨_, rfl⟩
      obtain ⟨g, vc', hv, hg, _⟩ := HP.out.form (by omega)
      injection hv with hv1 _ hv3
      subst hv1 hv3
      obtain ⟨⟨p0, p1, p2, p3⟩, pf⟩ := (HP.out.on HB.out).fileF rfl j hjS F hFj
      have HNX : Hid (namesC ((S.fs.take (j + 1)).map PF.nm) = namesC ((S.fs.take j).map PF.nm) ++ [.string (sB F.nm)]) := by
        show _ = _
        rw [List.take_succ_eq_append_getElem hjS, List.map_append, namesC_append, hFj]
        rfl
      obtain ⟨sn, HSN⟩ := named (sB F.nm)
      rw [HSN.out] at p0 HNX
      clear hFj hjS hg pf p1 p2 p3
      go_wp2_with (at_builtin; refine wpList_append_own _ rfl (.tmp 14) (.tmp 23) 40 rfl w.heap.size 9 i9 (.string ⟨#[]⟩) 1 16 Try.underlying40 hi hz0 hz1 hz2 rfl (by decide) (.slice oa j oc) j (namesC ((S.fs.take j).map PF.nm)) rfl (HO.out.alloc _) ⟨wr.heap.size, 0, none⟩ 1 1 [.string sn] rfl rfl (World.news_of_block (heap_top _ _)) (by intro u hu; simp at hu; subst hu; rfl) (by unfold maxLen; omega) (by omega) (by have := HB.out.size; simp; omega) ?_; intro v2 w2 hown2 hgr2 hnil2; clear hnil2; have HB2 : Hid (Below w.heap.size w w2) := (HB.out.alloc HB.out.size _).grown hgr2 (by have := HB.out.size; simp; omega) (fun k hk => (HO.out.lt k hk).1); have HO2 : Hid (w2.ownsRow w.heap.size 9 1 v2 (j + 1) (namesC ((S.fs.take j).map PF.nm) ++ [.string sn])) := hown2; clear hown2 hgr2)
      exact ⟨⟨j + 1, by omega, by go_num, by show World.ownsRow _ _ _ _ _ _ _; rw [HNX.out]; exact HO2.out, HB2⟩, by simp [intOf]; omega⟩
    · go_wp2_with fail
      go_ret
      have ej : j = N := by omega
      subst ej
      refine ⟨_, rfl, ?_, HB.out⟩
      have := HO.out
      rw [← HN.out, List.take_length, HN.out] at this
      exact this
end
end Go.Proofs.Ytlbkmhlpgpfafaa
