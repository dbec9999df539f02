/-
  The reference's net: contract of Down.
-/
import Derived.Test.YtfhlfklgngpklaaR8
namespace Go.Proofs.Ytfhlfklgngpklaa
open Go.RowKit Go.Maps
def rdE (R : RS) (a : Int) : Int := if ndB R.up.length a = true then (if upB R a = true then 0 else 191) else 190
def RS.left (R : RS) (l : List Tm) : RS := { R with tm := l }
def rdS (R : RS) (a : Int) : RS := if rdE R a = 0 then (R.turn a false).left (flt a R.tm) else R
section
variable {w w' : World} {r : Nat} {uv lv tv : Value} {R : RS} {D : Nat → Prop}
theorem RM.timer (h : RM w r uv lv tv R) (j : Nat) (hj : j < R.tm.length) : ∃ g c, tv = .slice (some ⟨g, 0, none⟩) R.tm.length c ∧ w.cell? ⟨g, j * 3, none⟩ = some (.int .i64 (R.tm[j]).nd) ∧ w.cell? ⟨g, j * 3 + 1, none⟩ = some (.int .i64 (R.tm[j]).at_) ∧ w.cell? ⟨g, j * 3 + 2, none⟩ = some (.int .i64 (R.tm[j]).tg) := by
  obtain ⟨g, c, e⟩ := own_form h.to_ (by omega)
  subst e
  obtain ⟨c0, c1, c2⟩ := tm_cells R.tm j hj
  exact ⟨g, c, rfl, (h.to_.cellAt (j * 3) (by omega)).trans c0, (h.to_.cellAt (j * 3 + 1) (by omega)).trans c1, (h.to_.cellAt (j * 3 + 2) (by omega)).trans c2⟩
set_option maxRecDepth 100000 in
set_option maxHeartbeats 3200000 in
theorem RDown_any (h : RK w r R D) (hl : R.tm.length ≤ 999999) (a : Int) :
    Calls Try.prog 32 #[.pointer (some ⟨r, 0, none⟩), .int .i64 a] w fun e w' => e = .returned (.int .i64 (rdE R a)) ∧ RTo w w' r (rdS R a) D := by
  have HD := Lib.hid h.self
  obtain ⟨uv, lv, tv, h, rfl⟩ := h
  have HN := Lib.hid (none_any h a)
  unfold rdS
  by_cases hI : 0 ≤ a ∧ a < R.up.length
  · have hn : ndB R.up.length a = true := by simp [ndB, hI.1, hI.2]
    rw [hn] at HN
    have hE : rdE R a = if upB R a = true then 0 else 191 := by unfold rdE; rw [hn, if_pos rfl]
    rw [hE]
    clear hE hn
    obtain ⟨gu, uc, hu, hgu, hcu⟩ := h.upc a hI.1 hI.2
    obtain ⟨m, rfl⟩ := Int.eq_ofNat_of_zero_le hI.1
    rw [show ((m : Int)).toNat = m by omega] at hcu
    have hmN : m < R.up.length := by omega
    have hfz := h.upf hu m
    subst hu
    obtain ⟨c0, -, -, -⟩ := (cells4 h.hd).1
    obtain ⟨ht, hft⟩ := h.turned m false
    have HT := Lib.hid ht
    have HFT := Lib.hid hft
    obtain ⟨ta, tc, htv⟩ := own_slice h.to_
    subst htv
    obtain ⟨⟨d0, -, d2, -⟩, -, -, f2, -⟩ := cells4 ht.hd
    have hrl := lt_of_block ht.hd
    have HLU : Hid ((R.turn (m : Int) false).up.length = R.up.length) := Lib.hid (by unfold RS.turn; simp)
    clear hI h ht hft
    cases hup : upB R (m : Int) with
    | false =>
      rw [hup] at hcu
      rw [if_neg (by decide), if_neg (by decide)]
      generalize R.up.length = N at *
      go_enter Try.func32, Try.ntmps32
      go_wp2_with fail
      refine HN.out.mono ?_
      rintro e w2 ⟨rfl, e2⟩
      obtain rfl : w = w2 := e2.symm
      clear e2
      go_wp2_with fail
      go_ret
      exact ⟨rfl, HD.out⟩
    | true =>
      rw [hup] at hcu
      rw [if_pos rfl, if_pos rfl]
      obtain ⟨M, HM⟩ := named R.tm.length
      have HTM : Hid ((R.turn (m : Int) false).tm = R.tm) := Lib.hid rfl
      rw [HM.out] at hl d2
      go_enter Try.func32, Try.ntmps32
      go_wp2_with fail
      refine HN.out.mono ?_
      rintro e w2 ⟨rfl, e2⟩
      obtain rfl : w = w2 := e2.symm
      clear e2 HN
      go_wp2_with fail
      clear hcu c0 hfz
      generalize w.setCell ⟨gu, m, none⟩ (.bool false) = W at *
      go_loopw [5, 6] (fun ov i wr => ∃ j : Nat, j ≤ M ∧ i = .int .i64 j ∧ Hid (wr.ownsRow W.heap.size 53 3 ov (flt (m : Int) (R.tm.take j)).length (tmC (flt (m : Int) (R.tm.take j)))) ∧ Hid (Below W.heap.size W wr)) (fun _ i _ => M - (intOf i).toNat)
      case atStart => exact ⟨0, Nat.zero_le _, rfl, ⟨rfl, Or.inl ⟨rfl, rfl⟩⟩, Below.refl _ _⟩
      case round =>
        obtain ⟨j, hj, rfl, HO, HB⟩ := hrel
        obtain ⟨oa, oc, hvo⟩ := own_slice HO.out
        subst hvo
        have x2 := (HB.out.cell (p := ⟨r, 2, none⟩) hrl).trans d2
        by_cases hlt : j < M
        · have hjl : j < R.tm.length := by rw [HM.out]; exact hlt
          obtain ⟨g, c, hv, a0, a1, a2⟩ := (HT.out.on HB.out).timer j hjl
          injection hv with hv1 _ hv3
          subst hv1 hv3
          have HMR := Lib.hid (flt_succ (a := (m : Int)) (l := R.tm) hjl)
          have hcnt : (flt (m : Int) (R.tm.take j)).length ≤ 1000000 := by
            have := List.length_filter_le (fun t : Tm => !decide (t.nd = (m : Int))) (R.tm.take j)
            have e : (flt (m : Int) (R.tm.take j)).length ≤ (R.tm.take j).length := by unfold flt; exact List.length_filter_le _ _
            rw [List.length_take] at e
            omega
          have HCN := Lib.hid hcnt
          have b0 : wr.cell? ⟨g, j * 3, none⟩ = some (.int .i64 (R.tm[j]).nd) := a0
          have b1 : wr.cell? ⟨g, j * 3 + 1, none⟩ = some (.int .i64 (R.tm[j]).at_) := a1
          have b2 : wr.cell? ⟨g, j * 3 + 2, none⟩ = some (.int .i64 (R.tm[j]).tg) := a2
          clear a0 a1 a2
          generalize R.tm[j] = t at *
          obtain ⟨tn, tt, tg⟩ := t
          have p0 : wr.cell? ⟨g, j * 3, none⟩ = some (.int .i64 tn) := b0
          have p1 : wr.cell? ⟨g, j * 3 + 1, none⟩ = some (.int .i64 tt) := b1
          have p2 : wr.cell? ⟨g, j * 3 + 2, none⟩ = some (.int .i64 tg) := b2
          clear b0 b1 b2
          have HSZ := HB.out.size
          generalize flt (m : Int) (R.tm.take j) = q at *
          clear hcnt
          by_cases hn : tn = (m : Int)
          · have HM2 : Hid (flt (m : Int) (R.tm.take (j + 1)) = q) := by
              show _ = _
              rw [HMR.out, if_pos hn, List.append_nil]
            subst hn
            clear HMR
            go_wp2_with fail
            exact ⟨⟨j + 1, by omega, by go_num, by show World.ownsRow _ _ _ _ _ _ _; rw [HM2.out]; exact HO.out, HB⟩, by simp [intOf]; omega⟩
          · have HM2 : Hid (flt (m : Int) (R.tm.take (j + 1)) = q ++ [⟨tn, tt, tg⟩]) := by
              show _ = _
              rw [HMR.out, if_neg hn]
            have hnb : (tn == (m : Int)) = false := by simp [hn]
            have hnb2 : (tn != (m : Int)) = true := by simp [hn]
            clear HMR
            go_wp2_with (first | (at_builtin; refine wpList_appT W.heap.size rfl (.tmp 43) (.tmp 51) rfl (.slice oa q.length oc) q rfl (HO.out.alloc _) wr.heap.size ⟨tn, tt, tg⟩ rfl (heap_top _ _) HCN.out (by simp; omega) ?_; intro v4 w4 ho4 hg4 hv4; have HO4 := Lib.hid ho4; have HB4 : Hid (Below W.heap.size W w4) := Lib.hid ((HB.out.alloc HSZ _).grown hg4 (by simp; omega) (fun k hk => (HO.out.lt k hk).1)); clear ho4 hg4 hv4))
            exact ⟨⟨j + 1, by omega, by go_num, by show World.ownsRow _ _ _ _ _ _ _; rw [HM2.out]; exact HO4.out, HB4⟩, by simp [intOf]; omega⟩
        · have HTA : Hid (R.tm.take j = R.tm) := Lib.hid (List.take_of_length_le (by rw [HM.out]; omega))
          have HO2 := HO.out
          rw [HTA.out] at HO2
          have y2 : wr.frozen? ⟨r, 2, none⟩ = false := (World.frozen?_of_block (w := W) (HB.out.block r hrl)).trans f2
          have HNT := Lib.hid (HT.out.newT (Fr.of HB.out) (own_le HO2 (Nat.zero_le _)) (fun k e => Or.inr (HO2.lt k e).1))
          rw [HTA.out]
          clear HO2 HO
          go_wp2_with fail
          go_ret
          exact ⟨rfl, HNT.out.after (fun _ e => Or.inl e) HFT.out⟩
  · have hn : ndB R.up.length a = false := by
      unfold ndB
      by_cases h0 : 0 ≤ a
      · have h1 : ¬ a < R.up.length := fun e => hI ⟨h0, e⟩
        simp [h1]
      · simp [h0]
    rw [hn] at HN
    have hE : rdE R a = 190 := by unfold rdE; rw [hn, if_neg (by decide)]
    rw [hE, if_neg (by decide)]
    clear hE hn hI h
    go_enter Try.func32, Try.ntmps32
    go_wp2_with fail
    refine HN.out.mono ?_
    rintro e w2 ⟨rfl, rfl⟩
    go_wp2_with fail
    go_ret
    exact ⟨rfl, HD.out⟩
end
end Go.Proofs.Ytfhlfklgngpklaa
