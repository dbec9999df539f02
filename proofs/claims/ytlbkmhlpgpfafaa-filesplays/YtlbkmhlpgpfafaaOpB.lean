/-
  Contracts of (*Disk).Sync and Append: a file of the disk changes.
-/
import Derived.Test.YtlbkmhlpgpfafaaOpA
namespace Go.Proofs.Ytlbkmhlpgpfafaa
open Go.RowKit Go.Maps Go.Joins
section
variable {w : World} {d : Nat} {ow : Nat → Option Nat} {mb : Option Nat} {L : List Fl} {fu : Bool} {n : Int} {S : PS}
theorem DP.other (h : DP w d ow mb L fu n S) {f g : Fl} (hf : f ∈ L) (hg : g ∈ L) (hn : g.pf.nm ≠ f.pf.nm) : g.blk ≠ f.blk := fun e => hn (h.dm.apart g hg f hf e)
theorem DP.setF (h : DP w d ow mb L fu n S) {f : Fl} (hf : f ∈ L) (u : PF → PF) (hu : ∀ p, (u p).nm = p.nm) {w' : World} {ow' : Nat → Option Nat} (hfa : FA w' ow' ⟨u f.pf, f.blk⟩)
    (hs : ∀ k, k < w.heap.size → Ow ow k → ow k ≠ some f.blk → w'.heap[k]? = w.heap[k]?) (ho : ∀ k, k < w.heap.size → ow' k = ow k) (hout : ∀ b, w'.heap.size ≤ b → ow' b = none) :
    DP w' d ow' mb (setK fk f.pf.nm (fun x => ⟨u x.pf, x.blk⟩) L) fu n { S with fs := setK PF.nm f.pf.nm u S.fs } := by
  have hfd := (h.dm.ob f hf).2
  have hm : ∀ x ∈ setK fk f.pf.nm (fun x => ⟨u x.pf, x.blk⟩) L, (x = ⟨u f.pf, f.blk⟩) ∨ (x ∈ L ∧ x.pf.nm ≠ f.pf.nm) := by
    intro x hx
    rcases mem_setK hx with ⟨g, hg, hk, rfl⟩ | h'
    · have e : g = f := h.dm.srt.uniq hg hf hk
      subst e
      exact Or.inl rfl
    · exact Or.inr h'
  have hkv : (setK fk f.pf.nm (fun x => ⟨u x.pf, x.blk⟩) L).map kv = L.map kv := by
    unfold setK
    rw [List.map_map]
    apply List.map_congr_left
    intro x _
    simp only [Function.comp]
    split
    · unfold kv
      simp [hu]
    · rfl
  have dm0 : DM w' d ow' mb L S.dn fu n := h.dm.keep (fun k hk hk' => hs k hk (by unfold Ow; rw [hk']; simp) (by rw [hk']; intro e; injection e with e; exact hfd e.symm)) ho hout
  have hmap : MB w' mb (setK fk f.pf.nm (fun x => ⟨u x.pf, x.blk⟩) L) := by
    rcases dm0.map with ⟨a, b⟩ | ⟨m, a, b⟩
    · subst b
      cases hf
    · refine Or.inr ⟨m, a, ?_⟩
      unfold MapAt at b ⊢
      rw [len_set]
      unfold mapD at b ⊢
      rw [hkv]
      exact b
  refine ⟨⟨dm0.hd, dm0.od, dm0.out, hmap, dm0.om, srt_set dm0.srt (fun x => hu x.pf), ?_, ?_, by rw [len_set]; exact dm0.len, ?_, dm0.n0, dm0.n1⟩, ?_, ?_, h.left⟩
  · intro x hx
    rcases hm x hx with rfl | ⟨h1, _⟩
    · exact dm0.ob f hf
    · exact dm0.ob x h1
  · intro x hx y hy e
    rcases hm x hx with rfl | ⟨h1, n1⟩
    · rcases hm y hy with rfl | ⟨h2, n2⟩
      · rfl
      · exact absurd (h.dm.apart y h2 f hf e.symm) n2
    · rcases hm y hy with rfl | ⟨h2, n2⟩
      · exact absurd (h.dm.apart x h1 f hf e) n1
      · exact h.dm.apart x h1 y h2 e
  · intro x hx
    rcases hm x hx with rfl | ⟨h1, _⟩
    · show mayN (u f.pf).nm = true
      rw [hu]
      exact dm0.may f hf
    · exact dm0.may x h1
  · intro x hx
    rcases hm x hx with rfl | ⟨h1, n1⟩
    · exact hfa
    · have hne := h.other hf h1 n1
      refine (h.fa x h1).keep (fun k hk hk' => ?_) ho
      have hkx : ow k = some x.blk := by
        rcases hk' with rfl | hk'
        · exact (h.dm.ob x h1).1
        · exact hk'
      exact hs k hk (by unfold Ow; rw [hkx]; simp) (by rw [hkx]; intro e; injection e with e; exact hne e)
  · show setK PF.nm f.pf.nm u S.fs = _
    rw [h.fs]
    exact (setK_map Fl.pf (fun _ => rfl) f.pf.nm _ u (fun _ => rfl) L).symm
theorem change_up (h : DP w d ow mb L fu n S) (hc : chgOk S = true) :
    Calls Try.prog 39 #[.pointer (some ⟨d, 0, none⟩)] w fun e w' => e = .returned (.int .i64 0) ∧ ∃ n', DP w' d ow mb L fu n' (chgUp S) ∧ Fr (Ow ow) w w' ∧ w'.heap.size = w.heap.size := by
  have := change_dk h
  rw [hc] at this
  exact this
theorem change_no (h : DP w d ow mb L fu n S) (hc : chgOk S = false) :
    Calls Try.prog 39 #[.pointer (some ⟨d, 0, none⟩)] w fun e w' => e = .returned (.int .i64 191) ∧ To w w' d ow (chgDown S) := by
  have := change_dk h
  rw [hc] at this
  refine this.mono ?_
  rintro e w1 ⟨rfl, n', h2, hfr, hz⟩
  exact ⟨rfl, h2.to hfr⟩
theorem syS_eq {s : List UInt8} (hk : knE S s = 0) : syE S s = (if chgOk S then 0 else 191) ∧ syS S s = if chgOk S then { chgUp S with fs := setK PF.nm s (fun f => { f with safe := f.has, kept := true }) S.fs } else chgDown S := by
  unfold syE syS
  rw [hk]
  exact ⟨rfl, rfl⟩
set_option maxHeartbeats 1600000 in
theorem Sync_any (h : DK w d ow S) (s : ByteArray) (hs : s.size ≤ maxLen) :
    Calls Try.prog 17 #[.pointer (some ⟨d, 0, none⟩), .string s] w fun e w' => e = .returned (.int .i64 (syE S s.data.toList)) ∧ To w w' d ow (syS S s.data.toList) := by
  obtain ⟨mb, L, fu, n, h⟩ := h.dp
  have HF := Lib.hid (find_any h.dm s hs)
  rw [h.fie] at HF
  by_cases hk : knE S s.data.toList = 0
  · obtain ⟨f, _, hf, hnm, hfn, hfp⟩ := h.at hk
    rw [hfp, hk] at HF
    rw [(syS_eq hk).1, (syS_eq hk).2]
    have HC := Lib.hid (change_up h)
    have HC2 := Lib.hid (change_no h)
    have HO := Lib.hid h.dm.out
    have HOB := Lib.hid (h.dm.ob f hf).1
    clear h hk hfn hfp
    cases hc : chgOk S with
    | true =>
      have HC := Lib.hid (HC.out hc)
      rw [if_pos rfl, if_pos rfl]
      go_enter Try.func17, Try.ntmps17
      go_wp2_with fail
      refine HF.out.mono ?_
      rintro e w1 ⟨rfl, rfl⟩
      go_wp2_with fail
      refine HC.out.mono ?_
      rintro e w2 ⟨rfl, n', h2, hfr, hz⟩
      obtain ⟨hv, sv, gh, gs, hfc, hgh, hgs⟩ := (h2.fa f hf).fc
      have HS := Lib.hid (sync_any hfc)
      clear hfc
      go_wp2_with fail
      refine HS.out.mono ?_
      rintro e w3 ⟨rfl, hfc3, ho3, hz3, hs3, ht3, hu3⟩
      go_wp2_with fail
      go_ret
      refine ⟨rfl, ow, ?_, fun _ _ => rfl, ?_⟩
      · have := (h2.setF hf (fun f => { f with safe := f.has, kept := true }) (fun _ => rfl) (w' := w3) (ow' := ow) (FC.fa (f := ⟨{ f.pf with safe := f.pf.has, kept := true }, f.blk⟩) hfc3 hgh (fun g hg => by injection hg with hg; subst hg; exact hgh))
          (fun k hk hk' hk'' => ho3 k (fun e => hk'' (by rw [e]; exact HOB.out))) (fun _ _ => rfl) (fun b hb => HO.out b (by omega))).dk
        rw [hnm] at this
        exact this
      · exact hfr.then ⟨hs3, ht3, hu3, by rw [hz3]; exact Nat.le_refl _, fun k _ hk => ho3 k (fun e => hk (by rw [e]; unfold Ow; rw [HOB.out]; simp))⟩
    | false =>
      have HC := Lib.hid (HC2.out hc)
      rw [if_neg (by decide), if_neg (by decide)]
      go_enter Try.func17, Try.ntmps17
      go_wp2_with fail
      refine HF.out.mono ?_
      rintro e w1 ⟨rfl, rfl⟩
      go_wp2_with fail
      refine HC.out.mono ?_
      rintro e w2 ⟨rfl, h2⟩
      go_wp2_with fail
      go_ret
      exact ⟨rfl, h2⟩
  · rw [show syE S s.data.toList = knE S s.data.toList by unfold syE; rw [if_pos hk], show syS S s.data.toList = S by unfold syS; rw [if_pos hk]]
    obtain ⟨k, HK⟩ := named (knE S s.data.toList)
    rw [HK.out] at hk HF ⊢
    have hk' : (k == 0) = false := beq_eq_false_iff_ne.2 hk
    generalize fiP L s.data.toList = v at *
    have HD := Lib.hid h.dk.self
    clear h
    go_enter Try.func17, Try.ntmps17
    go_wp2_with fail
    refine HF.out.mono ?_
    rintro e w1 ⟨rfl, rfl⟩
    go_wp2_with fail
    go_ret
    exact ⟨rfl, HD.out⟩
end
end Go.Proofs.Ytlbkmhlpgpfafaa
