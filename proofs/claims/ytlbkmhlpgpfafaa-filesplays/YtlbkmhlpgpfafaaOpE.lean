/-
  Contracts of (*Disk).Remove and Rename.
-/
import Derived.Test.YtlbkmhlpgpfafaaOpD
namespace Go.Proofs.Ytlbkmhlpgpfafaa
open Go.RowKit Go.Maps Go.Joins
/-- delete(m, k), at the operation. -/
theorem wpList_del {ops : Array Oper} {rest : List Oper} {o : Oper} {a : Act} {Q : Exit → Act → World → Prop} {w : World} (hgd : o.guard = none) (mo x : Operand)
    (hop : o.op = Op.call { callee := Callee.builtin Builtin.delete, args := #[mo, x], argTypes := #[50, 9] })
    (m : Nat) (L : List Fl) (s : ByteArray) (h : MapAt w m L) (hs : s.size ≤ maxLen) (hm : a.eval mo = .map (some m)) (hx : a.eval x = .string s)
    (hK : ∀ w', MapAt w' m (delK fk s.data.toList L) → w.mapTurned w' m → wpList Try.prog ops Q rest (a.put o.dst (.tuple #[])) w') : wpList Try.prog ops Q (o :: rest) a w := by
  refine wpList_plain hgd fun K' hK' => ?_
  obtain ⟨w', hrun, r1, r2⟩ := h.drop hs o.type
  unfold Oper.wp
  simp [execOp, hop, resolve, invoke, builtin, hm, hx, hrun, Result.andThen]
  exact hK' _ _ (hK w' r1 r2)
section
variable {w : World} {d : Nat} {ow : Nat → Option Nat} {mb : Option Nat} {L : List Fl} {fu : Bool} {n : Int} {S : PS}
/-- A disk of which a file is taken away. -/
theorem DP.del {mb' : Nat} (h : DP w d ow (some mb') L fu n S) {w' : World} {s : List UInt8} (hm : MapAt w' mb' (delK fk s L)) (ht : w.mapTurned w' mb') : DP w' d ow (some mb') (delK fk s L) fu n { S with fs := delK PF.nm s S.fs } ∧ Fr (Ow ow) w w' := by
  have f := turned_fr ht
  have hz := turned_size ht
  have hom := h.dm.om mb' rfl
  have hne : mb' ≠ d := by
    intro e
    rcases h.dm.map with ⟨e', _⟩ | ⟨m, e', hk⟩
    · cases e'
    · injection e' with e'
      subst e'
      obtain ⟨es, clock, hb⟩ := hk.kind
      have := h.dm.hd
      rw [← e, hb] at this
      cases this
  have hsub : ∀ x ∈ delK fk s L, x ∈ L := fun x hx => (mem_delK.1 hx).1
  refine ⟨⟨⟨(f.block d h.dm.dlt (fun e => hne e.symm)).trans h.dm.hd, h.dm.od, fun b hb => h.dm.out b (by omega), Or.inr ⟨mb', rfl, hm⟩, h.dm.om, srt_del h.dm.srt, fun x hx => h.dm.ob x (hsub x hx), fun x hx y hy => h.dm.apart x (hsub x hx) y (hsub y hy), Nat.le_trans (len_del _ _) h.dm.len, fun x hx => h.dm.may x (hsub x hx), h.dm.n0, h.dm.n1⟩, ?_, ?_, h.left⟩, f.mono (fun k hk => ?_)⟩
  · intro x hx
    have hxo := h.dm.ob x (hsub x hx)
    refine (h.fa x (hsub x hx)).keep (fun k hk hk' => f.block k hk (fun e => ?_)) (fun _ _ => rfl)
    have hkx : ow k = some x.blk := by
      rcases hk' with rfl | hk'
      · exact hxo.1
      · exact hk'
    rw [e, hom] at hkx
    injection hkx with hkx
    exact hxo.2 hkx.symm
  · show delK PF.nm s S.fs = _
    rw [h.fs]
    exact (delK_map Fl.pf (fun _ => rfl) s L).symm
  · rw [hk]
    unfold Ow
    rw [hom]
    simp
theorem DP.someM (h : DP w d ow mb L fu n S) {f : Fl} (hf : f ∈ L) : ∃ m, mb = some m ∧ MapAt w m L := by
  rcases h.dm.map with ⟨_, e⟩ | h'
  · rw [e] at hf
    cases hf
  · exact h'
theorem rm_eq {s : List UInt8} (hk : knE S s = 0) : syE S s = (if chgOk S then 0 else 191) ∧ rmS S s = if chgOk S then { chgUp S with fs := delK PF.nm s S.fs } else chgDown S := by
  unfold syE rmS
  rw [hk]
  exact ⟨rfl, rfl⟩
set_option maxHeartbeats 1600000 in
theorem Remove_any (h : DK w d ow S) (s : ByteArray) (hs : s.size ≤ maxLen) :
    Calls Try.prog 28 #[.pointer (some ⟨d, 0, none⟩), .string s] w fun e w' => e = .returned (.int .i64 (syE S s.data.toList)) ∧ To w w' d ow (rmS S s.data.toList) := by
  obtain ⟨mb, L, fu, n, h⟩ := h.dp
  have HF := Lib.hid (find_any h.dm s hs)
  rw [h.fie] at HF
  by_cases hk : knE S s.data.toList = 0
  · obtain ⟨f, _, hf, hnm, hfn, hfp⟩ := h.at hk
    obtain ⟨m, rfl, _⟩ := h.someM hf
    rw [hfp, hk] at HF
    rw [(rm_eq hk).1, (rm_eq hk).2]
    have HC := Lib.hid (change_up h)
    have HC2 := Lib.hid (change_no h)
    clear h hk hfn hfp
    cases hc : chgOk S with
    | true =>
      have HC := Lib.hid (HC.out hc)
      rw [if_pos rfl, if_pos rfl]
      go_enter Try.func28, Try.ntmps28
      go_wp2_with fail
      refine HF.out.mono ?_
      rintro e w1 ⟨rfl, rfl⟩
      go_wp2_with fail
      refine HC.out.mono ?_
      rintro e w2 ⟨rfl, n', h2, hfr, hz⟩
      obtain ⟨m', e', hm2⟩ := h2.someM hf
      injection e' with e'
      subst e'
      obtain ⟨⟨c0, c1, c2, c3⟩, f0, f1, f2, f3⟩ := cells4 h2.dm.hd
      have HM2 := Lib.hid hm2
      have H2 := Lib.hid h2
      clear hm2 h2
      go_wp2_with (at_delete; refine wpList_del rfl (.tmp 25) (.tmp 26) rfl m L s HM2.out hs rfl rfl ?_; intro w3 hm3 ht3)
      go_ret
      obtain ⟨h3, hfr3⟩ := H2.out.del hm3 ht3
      exact ⟨rfl, ow, h3.dk, fun _ _ => rfl, hfr.then hfr3⟩
    | false =>
      have HC := Lib.hid (HC2.out hc)
      rw [if_neg (by decide), if_neg (by decide)]
      go_enter Try.func28, Try.ntmps28
      go_wp2_with fail
      refine HF.out.mono ?_
      rintro e w1 ⟨rfl, rfl⟩
      go_wp2_with fail
      refine HC.out.mono ?_
      rintro e w2 ⟨rfl, h2⟩
      go_wp2_with fail
      go_ret
      exact ⟨rfl, h2⟩
  · rw [show syE S s.data.toList = knE S s.data.toList by unfold syE; rw [if_pos hk], show rmS S s.data.toList = S by unfold rmS; rw [if_pos hk]]
    obtain ⟨k, HK⟩ := named (knE S s.data.toList)
    rw [HK.out] at hk HF ⊢
    have hk' : (k == 0) = false := beq_eq_false_iff_ne.2 hk
    generalize fiP L s.data.toList = v at *
    have HD := Lib.hid h.dk.self
    clear h
    go_enter Try.func28, Try.ntmps28
    go_wp2_with fail
    refine HF.out.mono ?_
    rintro e w1 ⟨rfl, rfl⟩
    go_wp2_with fail
    go_ret
    exact ⟨rfl, HD.out⟩
/-- A disk whose map has a file under a name. -/
theorem DP.putG (h : DP w d ow mb L fu n S) {w' : World} {m : Nat} {f : Fl} (p : PutAt w w' d mb m L S.dn fu n f) (fa : FA w ow f) (hf : ow f.blk = some f.blk) (hfd : f.blk ≠ d) (hap : ∀ x ∈ L, x.pf.nm ≠ f.pf.nm → x.blk ≠ f.blk) (hm : mayN f.pf.nm = true) (hl : (putK fk f L).length ≤ 64) :
    To w w' d ow { S with fs := putK PF.nm f.pf S.fs } := by
  have ho := h.dm.owm p
  refine ⟨owM ow m d, ⟨some m, putK fk f L, fu, n, h.dm.putF p hf hfd hap hm hl, fun x hx => ?_, ?_, h.left⟩, ho, p.fr.mono (fun k hk => ?_)⟩
  · rcases mem_putK.1 hx with rfl | ⟨hx', _⟩
    · exact fa.keep (fun k hk hk' => h.dm.putO p hf hfd k hk hk') ho
    · have hxo := h.dm.ob x hx'
      exact (h.fa x hx').keep (fun k hk hk' => h.dm.putO p hxo.1 hxo.2 k hk hk') ho
  · show putK PF.nm f.pf S.fs = _
    rw [h.fs]
    exact (putK_map Fl.pf (key' := PF.nm) (fun _ => rfl) f L).symm
  · unfold Ow
    rcases hk with rfl | hk
    · rw [h.dm.od]; simp
    · rw [h.dm.om k hk]; simp
theorem re_eq {s t : List UInt8} (hs : mayN s = true) (ht : mayN t = true) (hk : knE S s = 0) : reE S s t = (if chgOk S then 0 else 191) ∧ reS S s t = if chgOk S then { chgUp S with fs := reL S s t } else chgDown S := by
  unfold reE reS
  rw [hs, ht, hk]
  simp
theorem re_kn {s t : List UInt8} (hs : mayN s = true) (ht : mayN t = true) (hk : knE S s ≠ 0) : reE S s t = knE S s ∧ reS S s t = S := by
  unfold reE reS
  rw [hs, ht]
  simp [hk]
theorem re_no {s t : List UInt8} (h : mayN s = false ∨ mayN t = false) : reE S s t = 170 ∧ reS S s t = S := by
  unfold reE reS
  rw [if_pos h, if_pos h]
  exact ⟨rfl, rfl⟩
set_option maxHeartbeats 1600000 in
theorem Rename_any (h : DK w d ow S) (s t : ByteArray) (hs : s.size ≤ maxLen) :
    Calls Try.prog 18 #[.pointer (some ⟨d, 0, none⟩), .string s, .string t] w fun e w' => e = .returned (.int .i64 (reE S s.data.toList t.data.toList)) ∧ To w w' d ow (reS S s.data.toList t.data.toList) := by
  obtain ⟨mb, L, fu, n, h⟩ := h.dp
  have HD := Lib.hid h.dk.self
  have HA := Lib.hid (fun W : World => mayBe_any s W)
  have HB := Lib.hid (fun W : World => mayBe_any t W)
  cases hms : mayN s.data.toList with
  | false =>
    rw [(re_no (Or.inl hms)).1, (re_no (Or.inl hms)).2]
    rw [hms] at HA
    clear h
    go_enter Try.func18, Try.ntmps18
    go_wp2_with fail
    refine (HA.out _).mono ?_
    rintro e w1 ⟨rfl, rfl⟩
    go_wp2_with fail
    go_ret
    exact ⟨rfl, HD.out⟩
  | true =>
    rw [hms] at HA
    cases hmt : mayN t.data.toList with
    | false =>
      rw [(re_no (Or.inr hmt)).1, (re_no (Or.inr hmt)).2]
      rw [hmt] at HB
      clear h
      go_enter Try.func18, Try.ntmps18
      go_wp2_with fail
      refine (HA.out _).mono ?_
      rintro e w1 ⟨rfl, rfl⟩
      go_wp2_with fail
      refine (HB.out _).mono ?_
      rintro e w1 ⟨rfl, rfl⟩
      go_wp2_with fail
      go_ret
      exact ⟨rfl, HD.out⟩
    | true =>
      rw [hmt] at HB
      have HF := Lib.hid (find_any h.dm s hs)
      rw [h.fie] at HF
      by_cases hk : knE S s.data.toList = 0
      · obtain ⟨f, hfd, hf, hnm, hfn, hfp⟩ := h.at hk
        obtain ⟨m, rfl, _⟩ := h.someM hf
        rw [hfp, hk] at HF
        rw [(re_eq hms hmt hk).1, (re_eq hms hmt hk).2]
        have HC := Lib.hid (change_up h)
        have HC2 := Lib.hid (change_no h)
        have HRE : Hid (reL S s.data.toList t.data.toList = putK PF.nm { f.pf with nm := t.data.toList } (delK PF.nm s.data.toList S.fs)) := by
          show _ = _
          unfold reL
          rw [hfn]
        have htl : t.size ≤ 64 := by
          have := mayN_len hmt
          simpa using this
        have HMT := Lib.hid hmt
        have HL := Lib.hid (show (delK fk s.data.toList L).length + 1 ≤ 64 from Nat.le_trans (len_del_some hfd) h.dm.len)
        have HAP := Lib.hid (show ∀ x ∈ delK fk s.data.toList L, x.blk ≠ f.blk from fun x hx => h.other hf (mem_delK.1 hx).1 (by rw [hnm]; exact (mem_delK.1 hx).2))
        have HOB := Lib.hid (h.dm.ob f hf)
        clear h hk hfn hfp hfd hms hmt
        cases hc : chgOk S with
        | true =>
          have HC := Lib.hid (HC.out hc)
          rw [if_pos rfl, if_pos rfl]
          go_enter Try.func18, Try.ntmps18
          go_wp2_with fail
          refine (HA.out _).mono ?_
          rintro e w1 ⟨rfl, rfl⟩
          go_wp2_with fail
          refine (HB.out _).mono ?_
          rintro e w1 ⟨rfl, rfl⟩
          go_wp2_with fail
          refine HF.out.mono ?_
          rintro e w1 ⟨rfl, rfl⟩
          go_wp2_with fail
          refine HC.out.mono ?_
          rintro e w2 ⟨rfl, n', h2, hfr, hz⟩
          obtain ⟨m', e', hm2⟩ := h2.someM hf
          injection e' with e'
          subst e'
          obtain ⟨⟨c0, c1, c2, c3⟩, f0, f1, f2, f3⟩ := cells4 h2.dm.hd
          have HM2 := Lib.hid hm2
          have H2 := Lib.hid h2
          clear hm2 h2
          go_wp2_with (at_delete; refine wpList_del rfl (.tmp 35) (.tmp 36) rfl m L s HM2.out hs rfl rfl ?_; intro w3 hm3 ht3)
          obtain ⟨h3, hfr3⟩ := H2.out.del hm3 ht3
          have hfa3 : FA w3 ow ⟨{ f.pf with nm := t.data.toList }, f.blk⟩ := by
            have hxo := HOB.out
            have hom := H2.out.dm.om m rfl
            have fa : FA w3 ow f := (H2.out.fa f hf).keep (fun k hk hk' => (turned_fr ht3).block k hk (fun e => by
              have hkx : ow k = some f.blk := by
                rcases hk' with rfl | hk'
                · exact hxo.1
                · exact hk'
              rw [e, hom] at hkx
              injection hkx with hkx
              exact hxo.2 hkx.symm)) (fun _ _ => rfl)
            exact fa
          refine (put_any h3.dm.hd h3.dm.map h3.dm.len t htl ⟨{ f.pf with nm := t.data.toList }, f.blk⟩ rfl).mono ?_
          rintro e w4 ⟨rfl, mm, hput⟩
          have h4 := ((h3.putG hput hfa3 HOB.out.1 HOB.out.2 (fun x hx _ => HAP.out x hx) HMT.out (by
            unfold putK
            rw [len_ins]
            have := len_del (key := fk) t.data.toList (delK fk s.data.toList L)
            have := HL.out
            show (delK fk t.data.toList (delK fk s.data.toList L)).length + 1 ≤ 64
            omega)).after hfr3).after hfr
          clear h3 hfr3 hfa3 hput
          go_wp2_with fail
          go_ret
          refine ⟨rfl, ?_⟩
          rw [HRE.out]
          exact h4
        | false =>
          have HC := Lib.hid (HC2.out hc)
          rw [if_neg (by decide), if_neg (by decide)]
          go_enter Try.func18, Try.ntmps18
          go_wp2_with fail
          refine (HA.out _).mono ?_
          rintro e w1 ⟨rfl, rfl⟩
          go_wp2_with fail
          refine (HB.out _).mono ?_
          rintro e w1 ⟨rfl, rfl⟩
          go_wp2_with fail
          refine HF.out.mono ?_
          rintro e w1 ⟨rfl, rfl⟩
          go_wp2_with fail
          refine HC.out.mono ?_
          rintro e w2 ⟨rfl, h2⟩
          go_wp2_with fail
          go_ret
          exact ⟨rfl, h2⟩
      · rw [(re_kn hms hmt hk).1, (re_kn hms hmt hk).2]
        obtain ⟨k, HK⟩ := named (knE S s.data.toList)
        rw [HK.out] at hk HF ⊢
        have hk' : (k == 0) = false := beq_eq_false_iff_ne.2 hk
        generalize fiP L s.data.toList = v at *
        clear h
        go_enter Try.func18, Try.ntmps18
        go_wp2_with fail
        refine (HA.out _).mono ?_
        rintro e w1 ⟨rfl, rfl⟩
        go_wp2_with fail
        refine (HB.out _).mono ?_
        rintro e w1 ⟨rfl, rfl⟩
        go_wp2_with fail
        refine HF.out.mono ?_
        rintro e w1 ⟨rfl, rfl⟩
        go_wp2_with fail
        go_ret
        exact ⟨rfl, HD.out⟩
end
end Go.Proofs.Ytlbkmhlpgpfafaa
