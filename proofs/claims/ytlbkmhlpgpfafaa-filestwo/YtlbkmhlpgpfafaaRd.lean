/-
  The reference's disk: contract of put.
-/
import Derived.Test.YtlbkmhlpgpfafaaRc
namespace Go.Proofs.Ytlbkmhlpgpfafaa
open Go.RowKit Go.Maps Go.Joins
theorem less_bb (a b : List UInt8) : Op.bytesLess a b = bb a b := by
  induction a generalizing b with
  | nil => cases b <;> rfl
  | cons x r ih => cases b with
    | nil => rfl
    | cons y t =>
      unfold Op.bytesLess bytesBefore
      rw [ih]
theorem own_lift {w1 : World} {B B' : Nat} {e : TypeId} {size : Nat} {v : Value} {n : Nat} {xs : List Value} (h : w1.ownsRow B' e size v n xs) (hb : B < B') : w1.ownsRow B e size v n xs := ownsRow_le h (Nat.le_of_lt hb)
section
variable {w w' : World} {r : Nat} {v : Value} {S : PS} {D : Nat → Prop}
/-- A file of the row is written over. -/
theorem RP.setAt {g c : Nat} (h : RP w r (.slice (some ⟨g, 0, none⟩) S.fs.length c) S) (j : Nat) (f : PF) (hj : j < S.fs.length) :
    RTo w ((((w.setCell ⟨g, j * 4, none⟩ (.string (sB f.nm))).setCell ⟨g, j * 4 + 1, none⟩ (.string (sB f.has))).setCell ⟨g, j * 4 + 2, none⟩ (.string (sB f.safe))).setCell ⟨g, j * 4 + 3, none⟩ (.bool f.kept)) r { S with fs := S.fs.set j f } (Dv r (.slice (some ⟨g, 0, none⟩) S.fs.length c)) := by
  have hgr : g ≠ r := fun e => h.vr (by rw [← e]; rfl)
  obtain ⟨o1, _⟩ := h.own.stored (j * 4) (.string (sB f.nm))
  obtain ⟨o2, _⟩ := o1.stored (j * 4 + 1) (.string (sB f.has))
  obtain ⟨o3, _⟩ := o2.stored (j * 4 + 2) (.string (sB f.safe))
  obtain ⟨o4, _⟩ := o3.stored (j * 4 + 3) (.bool f.kept)
  rw [cellsF_set S.fs j f hj] at o4
  refine ⟨Dv r (.slice (some ⟨g, 0, none⟩) S.fs.length c), ⟨_, ⟨?_, ?_⟩, rfl⟩, fun _ hk => Or.inl hk, ?_⟩
  · rw [heap_setCell_other _ _ r _ hgr.symm, heap_setCell_other _ _ r _ hgr.symm, heap_setCell_other _ _ r _ hgr.symm, heap_setCell_other _ _ r _ hgr.symm]
    exact h.hd
  · show World.ownsRow _ 0 60 4 _ (S.fs.set j f).length _
    rw [List.length_set]
    exact o4
  · have hg : Dv r (.slice (some ⟨g, 0, none⟩) S.fs.length c) g := Or.inr rfl
    exact ((((Fr.refl _ w).setCell ⟨g, j * 4, none⟩ _ (Or.inl hg)).setCell ⟨g, j * 4 + 1, none⟩ _ (Or.inl hg)).setCell ⟨g, j * 4 + 2, none⟩ _ (Or.inl hg)).setCell ⟨g, j * 4 + 3, none⟩ _ (Or.inl hg)
set_option maxRecDepth 100000 in
set_option maxHeartbeats 12800000 in
theorem rput_any (h : RP w r v S) (hs : SOK S) (f : PF) :
    Calls Try.prog 48 #[.pointer (some ⟨r, 0, none⟩), .agg #[.string (sB f.nm), .string (sB f.has), .string (sB f.safe), .bool f.kept]] w fun e w' => e = .returned (.tuple #[]) ∧ RTo w w' r { S with fs := putK PF.nm f S.fs } (Dv r v) := by
  obtain ⟨i0, hi, hz0, hz1, hz2⟩ := info_parts info60
  obtain ⟨⟨c0, c1, c2⟩, f0, f1, f2⟩ := cells3 h.hd
  obtain ⟨a, c, hv⟩ := h.shape
  subst hv
  have hrl := lt_of_block h.hd
  have hl := hs.len
  have HSRT := Lib.hid hs.srt
  have HFC : Hid (∀ l : List PF, cellsF (l.take 0) = [] ∧ True) := fun l => ⟨rfl, trivial⟩
  clear HFC
  obtain ⟨sn, HSN⟩ := named (sB f.nm)
  obtain ⟨sh, HSH⟩ := named (sB f.has)
  obtain ⟨ss, HSS⟩ := named (sB f.safe)
  have HONE : Hid (∀ u ∈ [Value.string sn, Value.string sh, Value.string ss, Value.bool f.kept], u.oneCell' = true) := by
    intro u hu
    simp at hu
    rcases hu with rfl | rfl | rfl | rfl <;> rfl
  have HCF : Hid (cF f = [.string sn, .string sh, .string ss, .bool f.kept]) := by
    show _ = _
    unfold cF
    rw [HSN.out, HSH.out, HSS.out]
  rw [HSN.out, HSH.out, HSS.out]
  have hb0 : Below w.heap.size w (w.alloc (.cells #[.string sn, .string sh, .string ss, .bool f.kept] 60)) := (Below.refl _ _).alloc (Nat.le_refl _) _
  have q0 : (w.alloc (.cells #[.string sn, .string sh, .string ss, .bool f.kept] 60)).cell? ⟨w.heap.size, 0, none⟩ = some (.string sn) := by simp
  have q1 : (w.alloc (.cells #[.string sn, .string sh, .string ss, .bool f.kept] 60)).cell? ⟨w.heap.size, 1, none⟩ = some (.string sh) := by simp
  have q2 : (w.alloc (.cells #[.string sn, .string sh, .string ss, .bool f.kept] 60)).cell? ⟨w.heap.size, 2, none⟩ = some (.string ss) := by simp
  have q3 : (w.alloc (.cells #[.string sn, .string sh, .string ss, .bool f.kept] 60)).cell? ⟨w.heap.size, 3, none⟩ = some (.bool f.kept) := by simp
  have HWS : Hid (w.heap.size < (w.alloc (.cells #[.string sn, .string sh, .string ss, .bool f.kept] 60)).heap.size) := by show _ < _; simp
  have d0 := (hb0.cell (p := ⟨r, 0, none⟩) hrl).trans c0
  have H := Lib.hid h
  have H1 := Lib.hid (h.on hb0)
  have HBW := Lib.hid hb0
  obtain ⟨N, HN⟩ := named S.fs.length
  rw [HN.out] at c0 d0 hl
  clear h hs hb0
  go_enter Try.func48, Try.ntmps48
  go_wp2_with fail
  generalize w.alloc (.cells #[.string sn, .string sh, .string ss, .bool f.kept] 60) = W1 at *
  go_loopw [4] (fun i wr => ∃ j n : Nat, j ≤ N ∧ i = .int .i64 j ∧ wr = W1.drewN n ∧ Hid (∀ i (hi : i < S.fs.length), i < j → bb (S.fs[i]).nm f.nm = true)) (fun i _ => N - (intOf i).toNat)
  case atStart => exact ⟨0, 0, Nat.zero_le _, rfl, rfl, fun i _ hi => absurd hi (by omega)⟩
  case round =>
    obtain ⟨j, n, hj, rfl, rfl, HP⟩ := hrel
    by_cases hlt : j < N
    · have hjl : j < S.fs.length := by rw [HN.out]; exact hlt
      obtain ⟨g, c', hv, hg, hc'⟩ := H1.out.form (by omega)
      injection hv with hv1 _ hv3
      subst hv1 hv3
      rw [HN.out] at hc'
      have hgw : g < w.heap.size := by
        obtain ⟨g2, c2', hv2, hg2, _⟩ := H.out.form (by omega)
        injection hv2 with hv4
        injection hv4 with hv4
        injection hv4 with hv4
        omega
      obtain ⟨⟨p0, p1, p2, p3⟩, pf⟩ := H1.out.file j hjl
      have HX : Hid (Op.bytesLess (sB (S.fs[j]'hjl).nm).toList sn.toList = bb (S.fs[j]'hjl).nm f.nm) := by
        show _ = _
        rw [less_bb, Lib.toList_data, sB_list, ← HSN.out, Lib.toList_data, sB_list]
      have HXE : Hid (((sB (S.fs[j]'hjl).nm).toList == sn.toList) = decide ((S.fs[j]'hjl).nm = f.nm)) := by
        show _ = _
        rw [Lib.toList_data, sB_list, ← HSN.out, Lib.toList_data, sB_list]
        rw [Bool.eq_iff_iff]
        simp
      cases hbb : bb (S.fs[j]'hjl).nm f.nm with
      | true =>
        have HP2 : Hid (∀ i (hi : i < S.fs.length), i < j + 1 → bb (S.fs[i]).nm f.nm = true) := fun i hi hij => by
          by_cases e : i = j
          · subst e; exact hbb
          · exact HP.out i hi (by omega)
        have hls := HX.out
        rw [hbb] at hls
        generalize sB (S.fs[j]'hjl).nm = sx at *
        clear p1 p2 p3 hbb
        go_wp2_with fail
        go_quiet (fail)
        go_wp2_with fail
        exact ⟨⟨j + 1, _, by omega, by go_num, rfl, HP2⟩, by simp [intOf]; omega⟩
      | false =>
        have HLD : Hid (Lead S.fs f.nm j) := ⟨by omega, HP.out, fun _ => hbb⟩
        have hls := HX.out
        rw [hbb] at hls
        by_cases he : (S.fs[j]'hjl).nm = f.nm
        · have hle := HXE.out
          rw [decide_eq_true he] at hle
          have HPE : Hid (putK PF.nm f S.fs = S.fs.set j f) := by
            show _ = _
            rw [put_lead HSRT.out HLD.out, dif_pos hjl, if_pos he]
          have HSA := Lib.hid (fun k : Nat => RP.setAt (w := W1.drewN k) (H1.out.same (fun _ _ => rfl)) j f hjl)
          rw [HSN.out, HSH.out, HSS.out] at HSA
          have z0 := pf (j * 4)
          have z1 := pf (j * 4 + 1)
          have z2 := pf (j * 4 + 2)
          have z3 := pf (j * 4 + 3)
          generalize sB (S.fs[j]'hjl).nm = sx at *
          generalize sB (S.fs[j]'hjl).has = sy at *
          generalize sB (S.fs[j]'hjl).safe = sz at *
          generalize (S.fs[j]'hjl).kept = bk at *
          clear hbb he pf
          go_wp2_with fail
          go_quiet (fail)
          go_wp2_with fail
          go_quiet (fail)
          go_wp2_with fail
          go_region
          go_wp2_with fail
          refine bodyPost_ret (results_none rfl _ _ _) rfl ?_
          refine ⟨rfl, ?_⟩
          rw [HPE.out]
          exact (HSA.out _).after (fun _ hk => Or.inl hk) ⟨HBW.out.os, HBW.out.tape, HBW.out.output, HBW.out.size, fun x hx _ => HBW.out.block x hx⟩
        · have hle := HXE.out
          rw [decide_eq_false he] at hle
          have HPL : Hid ((putK PF.nm f S.fs).length = j + 1 + (N - j) ∧ cellsF (putK PF.nm f S.fs) = (cellsF (S.fs.take j) ++ [.string sn, .string sh, .string ss, .bool f.kept]) ++ cellsF (S.fs.drop j)) := by
            have e : putK PF.nm f S.fs = S.fs.take j ++ f :: S.fs.drop j := by rw [put_lead HSRT.out HLD.out, dif_pos hjl, if_neg he]
            refine ⟨?_, ?_⟩
            · rw [e, List.length_append, List.length_take, List.length_cons, List.length_drop, HN.out]
              omega
            · rw [e, cellsF_app, List.append_assoc, ← HCF.out]
              rfl
          have HN1 := Lib.hid (H1.out.news 0 j (by omega))
          have HN2 := Lib.hid (H.out.news j (S.fs.length - j) (by omega))
          have HT : Hid ((S.fs.drop 0).take j = S.fs.take j ∧ (S.fs.drop j).take (S.fs.length - j) = S.fs.drop j) := ⟨by simp, List.take_of_length_le (by rw [List.length_drop]; exact Nat.le_refl _)⟩
          rw [HT.out.1, Nat.zero_mul] at HN1
          rw [HT.out.2, HN.out] at HN2
          have HNWF : Hid (∀ w2, Below w.heap.size w w2 → ∀ x u, (cellsF (S.fs.drop j))[x]? = some u → w2.cell? ((⟨g, j * 4, none⟩ : Addr).add x) = some u) := fun w2 hb x u hu => by
            have h1 := HN2.out.2 x u hu
            rw [Go.WideShapes.add_plain] at h1 ⊢
            exact (hb.cell (p := ⟨g, j * 4 + x, none⟩) hgw).trans h1
          have hcj : ¬ (c : Int) = j := by omega
          generalize sB (S.fs[j]'hjl).nm = sx at *
          clear hbb he pf p1 p2 p3
          go_wp2_with fail
          go_quiet (fail)
          go_wp2_with fail
          go_quiet (fail)
          go_wp2_with (first | (at_builtin; refine wpList_append_own _ rfl (.tmp 55) (.tmp 61) 53 rfl W1.heap.size 60 i0 _ 4 56 Try.underlying53 hi hz0 hz1 hz2 rfl (by decide) (.slice none 0 0) 0 [] rfl ⟨rfl, Or.inl ⟨rfl, rfl⟩⟩ ⟨g, 0, none⟩ j _ (cellsF (S.fs.take j)) rfl HN1.out.1 HN1.out.2 (cellsF_one _) (by unfold maxLen; omega) (by omega) (Nat.le_refl _) ?_; intro v1 w1 hown1 hgr1 hnil1; clear hnil1; rw [Nat.zero_add, List.nil_append] at hown1; have hb1 : Below w.heap.size w w1 := ⟨hgr1.os.trans HBW.out.os, hgr1.tape.trans HBW.out.tape, hgr1.output.trans HBW.out.output, Nat.le_trans HBW.out.size hgr1.size, fun k hk => (hgr1.block k (Nat.lt_of_lt_of_le hk HBW.out.size) (by simp [Value.ownBlock])).trans (HBW.out.block k hk)⟩; have e0 := (hb1.cell (p := ⟨r, 0, none⟩) hrl).trans c0; have hbW1 : Below W1.heap.size W1 w1 := ⟨hgr1.os, hgr1.tape, hgr1.output, hgr1.size, fun k hk => hgr1.block k hk (by simp [Value.ownBlock])⟩; have x0 := (hbW1.cell (p := ⟨w.heap.size, 0, none⟩) HWS.out).trans q0; have x1 := (hbW1.cell (p := ⟨w.heap.size, 1, none⟩) HWS.out).trans q1; have x2 := (hbW1.cell (p := ⟨w.heap.size, 2, none⟩) HWS.out).trans q2; have x3 := (hbW1.cell (p := ⟨w.heap.size, 3, none⟩) HWS.out).trans q3; have HB1 := Lib.hid hb1; have HO1 := Lib.hid (own_lift hown1 HWS.out); clear hb1 hbW1 hown1 hgr1) | (at_builtin; refine wpList_append_own _ rfl (.tmp 63) (.tmp 65) 53 rfl w.heap.size 60 i0 _ 4 56 Try.underlying53 hi hz0 hz1 hz2 rfl (by decide) v1 j (cellsF (S.fs.take j)) rfl (HO1.out.alloc _) ⟨w1.heap.size, 0, none⟩ 1 1 [.string sn, .string sh, .string ss, .bool f.kept] rfl rfl (World.news_of_block (heap_top _ _)) HONE.out (by unfold maxLen; omega) (by omega) (by have := HB1.out.size; simp; omega) ?_; intro v2 w2 hown2 hgr2 hnil2; clear hnil2; have hb2 : Below w.heap.size w w2 := (HB1.out.alloc HB1.out.size _).grown hgr2 (by have := HB1.out.size; simp; omega) (fun k hk => (HO1.out.lt k hk).1); have e1 := (hb2.cell (p := ⟨r, 0, none⟩) hrl).trans c0; have HB2 := Lib.hid hb2; have HO2 := Lib.hid hown2; clear hb2 hown2 hgr2; have HNW : Hid (∀ x u, (cellsF (S.fs.drop j))[x]? = some u → w2.cell? ((⟨g, j * 4, none⟩ : Addr).add x) = some u) := HNWF.out w2 HB2.out) | (at_builtin; refine wpList_append_own _ rfl (.tmp 68) (.tmp 74) 53 rfl w.heap.size 60 i0 _ 4 56 Try.underlying53 hi hz0 hz1 hz2 rfl (by decide) v2 (j + 1) (cellsF (S.fs.take j) ++ [.string sn, .string sh, .string ss, .bool f.kept]) rfl HO2.out ⟨g, j * 4, none⟩ (N - j) _ (cellsF (S.fs.drop j)) rfl HN2.out.1 HNW.out (cellsF_one _) (by unfold maxLen; omega) (by omega) HB2.out.size ?_; intro v3 w3 hown3 hgr3 hnil3; clear hnil3; have hb3 : Below w.heap.size w w3 := HB2.out.grown hgr3 HB2.out.size (fun k hk => (HO2.out.lt k hk).1); have HB3 := Lib.hid hb3; have HO3 := Lib.hid hown3; have f0' : w3.frozen? ⟨r, 0, none⟩ = false := (World.frozen?_of_block (w := w) (hb3.block r hrl)).trans f0; have d1 := (hb3.cell (p := ⟨r, 0, none⟩) hrl).trans c0; clear hb3 hown3 hgr3; obtain ⟨av3, cv3, hv3⟩ := own_slice HO3.out; generalize hn3 : j + 1 + (N - j) = N3 at *; subst hv3))
          go_end0
          refine ⟨rfl, H.out.newv (S' := { S with fs := putK PF.nm f S.fs }) HB3.out ?_ rfl rfl⟩
          show w3.ownsRow w.heap.size 60 4 _ (putK PF.nm f S.fs).length (cellsF (putK PF.nm f S.fs))
          rw [HPL.out.1, HPL.out.2]
          exact HO3.out
    · have hjN : j = N := by omega
      subst hjN
      have HLD : Hid (Lead S.fs f.nm S.fs.length) := ⟨Nat.le_refl _, fun i hi _ => HP.out i hi (by have := HN.out; omega), fun hk => absurd hk (by omega)⟩
      have HPL : Hid ((putK PF.nm f S.fs).length = j + 1 + 0 ∧ cellsF (putK PF.nm f S.fs) = (cellsF (S.fs.take j) ++ [.string sn, .string sh, .string ss, .bool f.kept]) ++ cellsF (S.fs.drop j)) := by
        have e : putK PF.nm f S.fs = S.fs.take j ++ f :: S.fs.drop j := by rw [put_lead HSRT.out HLD.out, dif_neg (by omega), HN.out]
        refine ⟨?_, ?_⟩
        · rw [e, List.length_append, List.length_take, List.length_cons, List.length_drop, HN.out]
          omega
        · rw [e, cellsF_app, List.append_assoc, ← HCF.out]
          rfl
      have HDR : Hid (S.fs.drop j = []) := by show _ = _; rw [← HN.out]; exact List.drop_length
      have HN2 : Hid ((cellsF (S.fs.drop j)).length = 0 * 4) := by show _ = _; rw [HDR.out]; simp [cellsF]
      have HNWF : Hid (∀ (ad : Addr) (w2 : World), Below w.heap.size w w2 → ∀ x u, (cellsF (S.fs.drop j))[x]? = some u → w2.cell? (ad.add x) = some u) := fun ad w2 hb x u hu => by
        rw [HDR.out] at hu
        simp [cellsF] at hu
      rcases H.out.own.2 with ⟨ev, e0⟩ | ⟨g, c2, cur, ev, _, hgb, hc2, _⟩
      · injection ev with ev1 _ ev3
        subst ev1 ev3
        have hj0 : j = 0 := by have := HN.out; omega
        subst hj0
        have HSZ : Hid (w.heap.size ≤ (W1.alloc (.cells #[.string sn, .string sh, .string ss, .bool f.kept] 60)).heap.size) := by show _ ≤ _; have := HBW.out.size; simp; omega
        go_wp2_with fail
        go_quiet (fail)
        go_wp2_with fail
        go_quiet (fail)
        go_wp2_with (first | (at_builtin; refine wpList_append_own_none rfl (.tmp 55) (.tmp 61) 53 rfl 0 60 i0 4 Try.underlying53 hi (.slice none 0 0) 0 [] rfl ⟨rfl, Or.inl ⟨rfl, rfl⟩⟩ rfl ?_) | (at_builtin; refine wpList_append_own _ rfl (.tmp 63) (.tmp 65) 53 rfl w.heap.size 60 i0 _ 4 56 Try.underlying53 hi hz0 hz1 hz2 rfl (by decide) (.slice none 0 0) 0 [] rfl ⟨rfl, Or.inl ⟨rfl, rfl⟩⟩ ⟨W1.heap.size, 0, none⟩ 1 1 [.string sn, .string sh, .string ss, .bool f.kept] rfl rfl (World.news_of_block (heap_top W1 _)) HONE.out (by unfold maxLen; omega) (by omega) HSZ.out ?_; intro v2 w2 hown2 hgr2 hnil2; clear hnil2; have hb2 : Below w.heap.size w w2 := ⟨hgr2.os.trans HBW.out.os, hgr2.tape.trans HBW.out.tape, hgr2.output.trans HBW.out.output, Nat.le_trans HSZ.out hgr2.size, fun k hk => (hgr2.block k (Nat.lt_of_lt_of_le hk HSZ.out) (by simp [Value.ownBlock])).trans ((Below.heap_alloc W1 _ k (Nat.lt_of_lt_of_le hk HBW.out.size)).trans (HBW.out.block k hk))⟩; have HB3 := Lib.hid hb2; have HO3 : Hid (w2.ownsRow w.heap.size 60 4 v2 1 [.string sn, .string sh, .string ss, .bool f.kept]) := hown2; have f0' : w2.frozen? ⟨r, 0, none⟩ = false := (World.frozen?_of_block (w := w) (hb2.block r hrl)).trans f0; have e1 := (hb2.cell (p := ⟨r, 0, none⟩) hrl).trans c0; clear hb2 hown2 hgr2; obtain ⟨av3, cv3, hv3⟩ := own_slice HO3.out; subst hv3) | (at_builtin; refine wpList_append_own_none rfl (.tmp 68) (.tmp 74) 53 rfl w.heap.size 60 i0 4 Try.underlying53 hi _ 1 _ rfl HO3.out rfl ?_))
        go_end0
        refine ⟨rfl, H.out.newv (S' := { S with fs := putK PF.nm f S.fs }) HB3.out ?_ rfl rfl⟩
        show w2.ownsRow w.heap.size 60 4 _ (putK PF.nm f S.fs).length (cellsF (putK PF.nm f S.fs))
        rw [HPL.out.1, HPL.out.2, HDR.out]
        exact HO3.out
      · injection ev with ev1 _ ev3
        subst ev1 ev3
        rw [HN.out] at hc2
        have HN1 := Lib.hid (H1.out.news 0 j (by have := HN.out; omega))
        have HT : Hid ((S.fs.drop 0).take j = S.fs.take j) := by show _ = _; simp
        rw [HT.out, Nat.zero_mul] at HN1
        clear hgb
        by_cases hcj : c = j
        · have hcj' : (c : Int) = j := by omega
          go_wp2_with fail
          go_quiet (fail)
          go_wp2_with fail
          go_quiet (fail)
          go_wp2_with (first | (at_builtin; refine wpList_append_own _ rfl (.tmp 55) (.tmp 61) 53 rfl W1.heap.size 60 i0 _ 4 56 Try.underlying53 hi hz0 hz1 hz2 rfl (by decide) (.slice none 0 0) 0 [] rfl ⟨rfl, Or.inl ⟨rfl, rfl⟩⟩ ⟨g, 0, none⟩ j _ (cellsF (S.fs.take j)) rfl HN1.out.1 HN1.out.2 (cellsF_one _) (by unfold maxLen; omega) (by omega) (Nat.le_refl _) ?_; intro v1 w1 hown1 hgr1 hnil1; clear hnil1; rw [Nat.zero_add, List.nil_append] at hown1; have hb1 : Below w.heap.size w w1 := ⟨hgr1.os.trans HBW.out.os, hgr1.tape.trans HBW.out.tape, hgr1.output.trans HBW.out.output, Nat.le_trans HBW.out.size hgr1.size, fun k hk => (hgr1.block k (Nat.lt_of_lt_of_le hk HBW.out.size) (by simp [Value.ownBlock])).trans (HBW.out.block k hk)⟩; have e0 := (hb1.cell (p := ⟨r, 0, none⟩) hrl).trans c0; have hbW1 : Below W1.heap.size W1 w1 := ⟨hgr1.os, hgr1.tape, hgr1.output, hgr1.size, fun k hk => hgr1.block k hk (by simp [Value.ownBlock])⟩; have x0 := (hbW1.cell (p := ⟨w.heap.size, 0, none⟩) HWS.out).trans q0; have x1 := (hbW1.cell (p := ⟨w.heap.size, 1, none⟩) HWS.out).trans q1; have x2 := (hbW1.cell (p := ⟨w.heap.size, 2, none⟩) HWS.out).trans q2; have x3 := (hbW1.cell (p := ⟨w.heap.size, 3, none⟩) HWS.out).trans q3; have HB1 := Lib.hid hb1; have HO1 := Lib.hid (own_lift hown1 HWS.out); clear hb1 hbW1 hown1 hgr1) | (at_builtin; refine wpList_append_own _ rfl (.tmp 63) (.tmp 65) 53 rfl w.heap.size 60 i0 _ 4 56 Try.underlying53 hi hz0 hz1 hz2 rfl (by decide) v1 j (cellsF (S.fs.take j)) rfl (HO1.out.alloc _) ⟨w1.heap.size, 0, none⟩ 1 1 [.string sn, .string sh, .string ss, .bool f.kept] rfl rfl (World.news_of_block (heap_top _ _)) HONE.out (by unfold maxLen; omega) (by omega) (by have := HB1.out.size; simp; omega) ?_; intro v2 w2 hown2 hgr2 hnil2; clear hnil2; have hb2 : Below w.heap.size w w2 := (HB1.out.alloc HB1.out.size _).grown hgr2 (by have := HB1.out.size; simp; omega) (fun k hk => (HO1.out.lt k hk).1); have e1 := (hb2.cell (p := ⟨r, 0, none⟩) hrl).trans c0; have HB2 := Lib.hid hb2; have HO2 := Lib.hid hown2; clear hb2 hown2 hgr2; have HNW : Hid (∀ x u, (cellsF (S.fs.drop j))[x]? = some u → w2.cell? ((⟨g, 0, none⟩ : Addr).add x) = some u) := HNWF.out _ w2 HB2.out) | (at_builtin; refine wpList_append_own _ rfl (.tmp 68) (.tmp 74) 53 rfl w.heap.size 60 i0 _ 4 56 Try.underlying53 hi hz0 hz1 hz2 rfl (by decide) v2 (j + 1) (cellsF (S.fs.take j) ++ [.string sn, .string sh, .string ss, .bool f.kept]) rfl HO2.out ⟨g, 0, none⟩ 0 _ (cellsF (S.fs.drop j)) rfl HN2.out HNW.out (cellsF_one _) (by unfold maxLen; omega) (by omega) HB2.out.size ?_; intro v3 w3 hown3 hgr3 hnil3; clear hnil3; have hb3 : Below w.heap.size w w3 := HB2.out.grown hgr3 HB2.out.size (fun k hk => (HO2.out.lt k hk).1); have HB3 := Lib.hid hb3; have HO3 := Lib.hid hown3; have f0' : w3.frozen? ⟨r, 0, none⟩ = false := (World.frozen?_of_block (w := w) (hb3.block r hrl)).trans f0; have d1 := (hb3.cell (p := ⟨r, 0, none⟩) hrl).trans c0; clear hb3 hown3 hgr3; obtain ⟨av3, cv3, hv3⟩ := own_slice HO3.out; generalize hn3 : j + 1 + 0 = N3 at *; subst hv3))
          go_end0
          refine ⟨rfl, H.out.newv (S' := { S with fs := putK PF.nm f S.fs }) HB3.out ?_ rfl rfl⟩
          show w3.ownsRow w.heap.size 60 4 _ (putK PF.nm f S.fs).length (cellsF (putK PF.nm f S.fs))
          rw [HPL.out.1, HPL.out.2]
          exact HO3.out
        · have hcj' : ¬ (c : Int) = j := by omega
          go_wp2_with fail
          go_quiet (fail)
          go_wp2_with fail
          go_quiet (fail)
          go_wp2_with (first | (at_builtin; refine wpList_append_own _ rfl (.tmp 55) (.tmp 61) 53 rfl W1.heap.size 60 i0 _ 4 56 Try.underlying53 hi hz0 hz1 hz2 rfl (by decide) (.slice none 0 0) 0 [] rfl ⟨rfl, Or.inl ⟨rfl, rfl⟩⟩ ⟨g, 0, none⟩ j _ (cellsF (S.fs.take j)) rfl HN1.out.1 HN1.out.2 (cellsF_one _) (by unfold maxLen; omega) (by omega) (Nat.le_refl _) ?_; intro v1 w1 hown1 hgr1 hnil1; clear hnil1; rw [Nat.zero_add, List.nil_append] at hown1; have hb1 : Below w.heap.size w w1 := ⟨hgr1.os.trans HBW.out.os, hgr1.tape.trans HBW.out.tape, hgr1.output.trans HBW.out.output, Nat.le_trans HBW.out.size hgr1.size, fun k hk => (hgr1.block k (Nat.lt_of_lt_of_le hk HBW.out.size) (by simp [Value.ownBlock])).trans (HBW.out.block k hk)⟩; have e0 := (hb1.cell (p := ⟨r, 0, none⟩) hrl).trans c0; have hbW1 : Below W1.heap.size W1 w1 := ⟨hgr1.os, hgr1.tape, hgr1.output, hgr1.size, fun k hk => hgr1.block k hk (by simp [Value.ownBlock])⟩; have x0 := (hbW1.cell (p := ⟨w.heap.size, 0, none⟩) HWS.out).trans q0; have x1 := (hbW1.cell (p := ⟨w.heap.size, 1, none⟩) HWS.out).trans q1; have x2 := (hbW1.cell (p := ⟨w.heap.size, 2, none⟩) HWS.out).trans q2; have x3 := (hbW1.cell (p := ⟨w.heap.size, 3, none⟩) HWS.out).trans q3; have HB1 := Lib.hid hb1; have HO1 := Lib.hid (own_lift hown1 HWS.out); clear hb1 hbW1 hown1 hgr1) | (at_builtin; refine wpList_append_own _ rfl (.tmp 63) (.tmp 65) 53 rfl w.heap.size 60 i0 _ 4 56 Try.underlying53 hi hz0 hz1 hz2 rfl (by decide) v1 j (cellsF (S.fs.take j)) rfl (HO1.out.alloc _) ⟨w1.heap.size, 0, none⟩ 1 1 [.string sn, .string sh, .string ss, .bool f.kept] rfl rfl (World.news_of_block (heap_top _ _)) HONE.out (by unfold maxLen; omega) (by omega) (by have := HB1.out.size; simp; omega) ?_; intro v2 w2 hown2 hgr2 hnil2; clear hnil2; have hb2 : Below w.heap.size w w2 := (HB1.out.alloc HB1.out.size _).grown hgr2 (by have := HB1.out.size; simp; omega) (fun k hk => (HO1.out.lt k hk).1); have e1 := (hb2.cell (p := ⟨r, 0, none⟩) hrl).trans c0; have HB2 := Lib.hid hb2; have HO2 := Lib.hid hown2; clear hb2 hown2 hgr2; have HNW : Hid (∀ x u, (cellsF (S.fs.drop j))[x]? = some u → w2.cell? ((⟨g, j * 4, none⟩ : Addr).add x) = some u) := HNWF.out _ w2 HB2.out) | (at_builtin; refine wpList_append_own _ rfl (.tmp 68) (.tmp 74) 53 rfl w.heap.size 60 i0 _ 4 56 Try.underlying53 hi hz0 hz1 hz2 rfl (by decide) v2 (j + 1) (cellsF (S.fs.take j) ++ [.string sn, .string sh, .string ss, .bool f.kept]) rfl HO2.out ⟨g, j * 4, none⟩ 0 _ (cellsF (S.fs.drop j)) rfl HN2.out HNW.out (cellsF_one _) (by unfold maxLen; omega) (by omega) HB2.out.size ?_; intro v3 w3 hown3 hgr3 hnil3; clear hnil3; have hb3 : Below w.heap.size w w3 := HB2.out.grown hgr3 HB2.out.size (fun k hk => (HO2.out.lt k hk).1); have HB3 := Lib.hid hb3; have HO3 := Lib.hid hown3; have f0' : w3.frozen? ⟨r, 0, none⟩ = false := (World.frozen?_of_block (w := w) (hb3.block r hrl)).trans f0; have d1 := (hb3.cell (p := ⟨r, 0, none⟩) hrl).trans c0; clear hb3 hown3 hgr3; obtain ⟨av3, cv3, hv3⟩ := own_slice HO3.out; generalize hn3 : j + 1 + 0 = N3 at *; subst hv3))
          go_end0
          refine ⟨rfl, H.out.newv (S' := { S with fs := putK PF.nm f S.fs }) HB3.out ?_ rfl rfl⟩
          show w3.ownsRow w.heap.size 60 4 _ (putK PF.nm f S.fs).length (cellsF (putK PF.nm f S.fs))
          rw [HPL.out.1, HPL.out.2]
          exact HO3.out
end
end Go.Proofs.Ytlbkmhlpgpfafaa
