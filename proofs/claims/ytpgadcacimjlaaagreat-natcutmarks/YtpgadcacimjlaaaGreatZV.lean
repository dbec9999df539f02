/-
  The contract of flyoverref08.Around.
-/
import Derived.Test.YtpgadcacimjlaaaGreatZS
import Derived.Test.YtpgadcacimjlaaaGreatZN
import Derived.Test.YtpgadcacimjlaaaGreatZG
import Derived.Test.YtpgadcacimjlaaaGreatFRMost
namespace Go.Proofs.YtpgadcacimjlaaaGreat
open Go.RowKit
theorem ndk_step (q : List Nat) (cr j v : Nat) : ndk q cr (j + 1) v = if v = q.getD j 0 then (if j < cr then 0 else 2 + j - cr) else ndk q cr j v := rfl
theorem fr_grownD {D : Nat → Prop} {w a b : World} {ob : Option Nat} (h : Fr D w a) (hg : a.grownBy b ob) (hob : ∀ k, ob = some k → w.heap.size ≤ k) : Fr D w b :=
  ⟨hg.os.trans h.os, hg.tape.trans h.tape, hg.output.trans h.output, Nat.le_trans h.size hg.size, fun k hk hn => (hg.block k (Nat.lt_of_lt_of_le hk h.size) (fun e => by have := hob k e.symm; omega)).trans (h.block k hk hn)⟩
set_option maxRecDepth 100000 in
set_option maxHeartbeats 6400000 in
theorem raround8_any (n c m : Nat) (a : Option Addr) (l : List A) (cap : Nat) (w : World) (hC : chkE n l = 0) (hc : c < n) (hm1 : 1 ≤ m) (hr : Arcs w a l) :
    Calls Tryz.prog 39 #[.agg #[.int .i64 n, .slice a l.length cap], .int .i64 c, .int .i64 m] w fun e w' => ∃ v cc xs, e = .returned (.slice v xs.length cc) ∧ OwnP w' w.heap.size v cc xs ∧ CutIs n l c m xs ∧ Below w.heap.size w w' := by
  obtain ⟨h1n, hn, hl, hoa⟩ := chk_zero hC
  have hn' : n ≤ 1024 := by omega
  have HPO := Lib.hid hoa
  have HC := Lib.hid hC
  have HND : Hid (∀ p, p ∈ prl l → p.a < n ∧ p.b < n) := fun p hp => prl_lt hoa hp
  have hpl : (prl l).length ≤ 8192 := Nat.le_trans (prl_len l) hl
  have HOK := Lib.hid (eN_ok (l := l) hn' hl hc hm1)
  obtain ⟨D, HD⟩ := named (dN n l c m)
  obtain ⟨NN, HNN⟩ := named (nN n l c m)
  obtain ⟨EN, HEN⟩ := named (eN n l c m)
  have HED : Hid (eds (prl l) D = EN) := by show _ = _; rw [← HD.out]; exact HEN.out
  have HDL : Hid (∀ v, D v < NN) := fun v => by rw [← HD.out, ← HNN.out]; exact dN_lt _ _ _ _ v
  rw [HNN.out, HEN.out] at HOK
  have hnl : NN ≤ 1024 := HOK.out.2.g.nb
  have hel : EN.length ≤ 16384 := by have := HOK.out.2.g.lb; rwa [F6.edl_len] at this
  have hb0 : Below w.heap.size w (w.alloc (.cells #[.int .i64 n, .slice a l.length cap] 24)) := (Below.refl _ _).alloc (Nat.le_refl _) _
  have hg := heap_top w (.cells #[.int .i64 n, .slice a l.length cap] 24)
  have HR := Lib.hid (hr.on hb0)
  have hwz : w.heap.size ≤ (w.alloc (.cells #[.int .i64 n, .slice a l.length cap] 24)).heap.size := hb0.size
  have HB0 := Lib.hid hb0
  clear hC hr hb0 hoa h1n hn
  generalize hp : w.heap.size = p at *
  go_enter Tryz.func39, Tryz.ntmps39
  go_wp2_with fail
  generalize hW : w.alloc (.cells #[.int .i64 n, .slice a l.length cap] 24) = W at *
  clear hW
  have hpz : p < W.heap.size := lt_of_block hg
  refine (raround_any n c a l cap W hn' hl hc HPO.out HR.out).mono ?_
  rintro e w2 ⟨v2, rfl, hown, hb2⟩
  obtain ⟨Wh, HWH⟩ := named (whole (edl l) (2 * l.length) n (fun _ => false) c)
  have hwp : 0 < Wh.length := by rw [← HWH.out]; exact whole_pos
  have hwn : Wh.length ≤ n := by rw [← HWH.out]; exact gro_short hc n
  rw [HWH.out] at hown
  obtain ⟨av, cv, rfl⟩ := own_slice hown
  obtain ⟨hcap, hcm⟩ : Wh.length ≤ cv ∧ cv ≤ 9223372036854775807 := by
    rcases hown.2 with ⟨e, h0⟩ | ⟨g, c', cur, e, _, _, h4, h5, _⟩
    · omega
    · injection e with e1 e2 e3; subst e3; exact ⟨h4, h5⟩
  obtain ⟨Q, HQ⟩ := named (reg n l c m)
  have HREG : Hid (Wh.take (min m Wh.length) = Q) := by
    show _ = _
    rw [← HQ.out]
    unfold reg
    rw [HWH.out, ← List.take_take, List.take_length]
  have hQl : Q.length = min m Wh.length := by rw [← HREG.out, List.length_take]; omega
  have hmq : min (m : Int) (Wh.length : Int) = (Q.length : Int) := by omega
  have HTK : Hid (w2.ownsRow W.heap.size 3 1 (.slice av Q.length cv) Q.length (cellsI (ints Q))) := by
    have := own_take (k := min m Wh.length) hown (by omega) (.inl hwp)
    rw [cells_take, HREG.out, ← hQl] at this
    exact this
  have HI2 := Lib.hid (own_ints HTK.out rfl)
  have HB2 : Hid (Below p w w2) := HB0.out.trans (hb2.mono hwz)
  have HR2 := Lib.hid (HR.out.on hb2)
  have hg2 := (hb2.block p hpz).trans hg
  obtain ⟨⟨c0, c1⟩, _⟩ := two_cells hg2
  have hQn : Q.length ≤ n := by omega
  have hQ1 : (0 : Int) ≤ Q.length := by omega
  have hQc : (Q.length : Int) ≤ cv := by omega
  have hcv : (cv : Int) ≤ 9223372036854775807 := by omega
  have HQN : Hid (∀ u, u ∈ Q → u < n) := fun u hu => reg_lt hc u (HQ.out ▸ hu)
  clear hown hb2 hQl hwp hwn HTK HWH HREG
  by_cases hxn : Q.length = n
  · have hxi : ((Q.length : Int) == (n : Int)) = true := by simp; omega
    have HCI : Hid (CutIs n l c m []) := by show CutIs _ _ _ _ _; unfold CutIs; rw [if_pos (by rw [HQ.out]; exact hxn)]
    clear hxn
    go_wp2_with fail
    go_ret
    exact ⟨none, 0, [], rfl, ⟨rfl, .inl ⟨rfl, rfl⟩⟩, HCI.out, HB2.out⟩
  have hxi : ((Q.length : Int) == (n : Int)) = false := by simp; omega
  have HXN := Lib.hid hxn
  clear hxn
  obtain ⟨i3, hi3, hz3, hs3, hb3⟩ := info_parts info3
  have hmk : ∀ w, (Instr.makeSlice 25 (.int .i64 n) (.int .i64 n)).run Tryz.prog w = .ok (.slice (some ⟨w.heap.size, 0, none⟩) n n) (w.alloc (.cells ((List.range n).map (fun _ => Value.int .i64 0)).toArray 3)) := fun w => by
    have := run_make (P := Tryz.prog) w 25 3 i3 (.int .i64 0) Tryz.underlying25 hi3 hz3 .i64 .i64 n n (by omega) (by omega) (by rw [hb3]; omega) (by omega)
    rw [this, Int.toNat_natCast, hs3, made_int]
  clear hi3 hz3 hs3 hb3
  clear i3
  obtain ⟨z, hz⟩ : ∃ z, w2.heap.size = z := ⟨_, rfl⟩
  have HT0 : Hid (TbV (w2.alloc (.cells ((List.range n).map (fun _ => Value.int .i64 0)).toArray 3)) z n 3 (fun v => .int .i64 (if v < 0 then 1 else 0))) := by
    have h := heap_top w2 (.cells ((List.range n).map (fun _ => Value.int .i64 0)).toArray 3)
    rw [hz] at h
    exact TbV.congr (show TbV _ z n 3 (fun _ => .int .i64 0) from h) (fun v _ => by simp)
  have HBU : Hid (Below z w2 (w2.alloc (.cells ((List.range n).map (fun _ => Value.int .i64 0)).toArray 3))) := (Below.refl _ _).alloc (by omega) _
  have hpz2 : p < z := hz ▸ lt_of_block hg2
  have HG2 := Lib.hid hg2
  go_wp2_with fail
  generalize hU : w2.alloc (.cells ((List.range n).map (fun _ => Value.int .i64 0)).toArray 3) = U at *
  clear hU hmk c0 c1 hg2
  go_loopw [9] (fun i wr => ∃ k : Nat, k ≤ n ∧ i = .int .i64 k ∧ Hid (TbV wr z n 3 (fun v => .int .i64 (if v < k then 1 else 0))) ∧ Hid (Below z w2 wr)) (fun i _ => n - (intOf i).toNat)
  case atStart => exact ⟨0, Nat.zero_le _, rfl, HT0, HBU⟩
  case round =>
    obtain ⟨k, hk, rfl, HTR, HBR⟩ := hrel
    have hgr := (HBR.out.block p hpz2).trans HG2.out
    obtain ⟨⟨c0, c1⟩, _⟩ := two_cells hgr
    by_cases hlt : k < n
    · have hlt' : (k : Int) < n := by omega
      have d1 := HTR.out.cell hlt
      have d2 := HTR.out.free k
      generalize (if k < k then (1 : Int) else 0) = old at d1
      go_wp2_with fail
      refine ⟨⟨k + 1, by omega, by simp, Lib.hid ((HTR.out.set k (.int .i64 1)).congr (fun v _ => ?_)), Lib.hid (HBR.out.setCell (Nat.le_refl _) _)⟩, by simp [intOf]; omega⟩
      by_cases e : v = k
      · subst e; rw [updV_self, if_pos (by omega)]
      · rw [updV_ne _ _ e]
        by_cases h : v < k
        · rw [if_pos h, if_pos (by omega)]
        · rw [if_neg h, if_neg (by omega)]
    · obtain rfl : k = n := by omega
      have hlt' : ¬ (k : Int) < k := by omega
      obtain ⟨cr, HCR⟩ := named ((Q.length + 3) / 4)
      have hcr : ((Q.length : Int) + 3) / 4 = (cr : Int) := by rw [← HCR.out]; omega
      have hcrQ : cr ≤ Q.length := by rw [← HCR.out]; omega
      have HT1 : Hid (TbV wr z k 3 (fun v => .int .i64 (ndk Q cr 0 v : Nat))) := HTR.out.congr (fun v hv => by rw [if_pos hv]; rfl)
      have HB1 := HBR
      obtain ⟨ix, ox, hix⟩ := HI2.out.get
      have HIX := Lib.hid hix
      clear HTR HBR hlt hk hix HT0 HBU
      go_wp2_with fail
      clear c0 c1 hgr
      generalize wr = w3 at *
      go_loopw [11] (fun i wr => ∃ j : Nat, j ≤ Q.length ∧ i = .int .i64 j ∧ Hid (TbV wr z k 3 (fun v => .int .i64 (ndk Q cr j v : Nat))) ∧ Hid (Below z w2 wr)) (fun i _ => Q.length - (intOf i).toNat)
      case atStart => exact ⟨0, Nat.zero_le _, rfl, HT1, HB1⟩
      case round =>
        obtain ⟨j, hj, rfl, HTR, HBR⟩ := hrel
        by_cases hlj : j < Q.length
        · obtain ⟨rfl, hbl, hat⟩ := HIX.out (by rw [ints_len]; omega)
          have hlj' : (j : Int) < Q.length := by omega
          have hj0 : (0 : Int) ≤ j := by omega
          have hu := HQN.out (Q.getD j 0) (by simp [List.getD, List.getElem?_eq_getElem hlj])
          have HST := Lib.hid (fun v => ndk_step Q cr j v)
          have y0 := (HBR.out.cell (p := ⟨ix, ox + j, none⟩) (hz ▸ hbl)).trans (hat j (by rw [ints_len]; exact hlj))
          rw [ints_getD hlj] at y0
          clear hat
          generalize Q.getD j 0 = u at *
          have hu' : (u : Int) < k := by omega
          have d1 := HTR.out.cell hu
          have d2 := HTR.out.free u
          have hixz : ix ≠ z := by omega
          generalize ((ndk Q cr j u : Nat) : Int) = old at d1
          have HTS := Lib.hid (HTR.out.set u (.int .i64 0))
          have HBS : Hid (Below z w2 (wr.setCell ⟨z, u, none⟩ (.int .i64 0))) := HBR.out.setCell (Nat.le_refl _) _
          by_cases hjc : j < cr
          · have hjc' : ¬ (cr : Int) ≤ j := by omega
            go_wp2_with fail
            refine ⟨⟨j + 1, by omega, by simp, Lib.hid (HTS.out.congr (fun v _ => ?_)), HBS⟩, by simp [intOf]; omega⟩
            rw [HST.out v]
            by_cases e : v = u
            · subst e; rw [updV_self, if_pos rfl, if_pos hjc]; rfl
            · rw [updV_ne _ _ e, if_neg e]
          · have hjc' : (cr : Int) ≤ j := by omega
            have hs1 : (2 : Int) + j - cr = ((2 + j - cr : Nat) : Int) := by omega
            have y1 := (HBS.out.cell (p := ⟨ix, ox + j, none⟩) (hz ▸ hbl)).trans ((HBR.out.cell (p := ⟨ix, ox + j, none⟩) (hz ▸ hbl)).symm.trans y0)
            have d3 := HTS.out.cell hu
            have d4 := HTS.out.free u
            rw [updV_self] at d3
            have HTU := Lib.hid (HTS.out.set u (.int .i64 ((2 + j - cr : Nat) : Int)))
            have HBV : Hid (Below z w2 ((wr.setCell ⟨z, u, none⟩ (.int .i64 0)).setCell ⟨z, u, none⟩ (.int .i64 ((2 + j - cr : Nat) : Int)))) := HBS.out.setCell (Nat.le_refl _) _
            generalize hnv : (2 + j - cr : Nat) = nv at *
            clear hnv
            go_wp2_with fail
            refine ⟨⟨j + 1, by omega, by simp, Lib.hid (HTU.out.congr (fun v _ => ?_)), HBV⟩, by simp [intOf]; omega⟩
            rw [HST.out v]
            by_cases e : v = u
            · subst e; rw [updV_self, if_pos rfl, if_neg hjc]
            · rw [updV_ne _ _ e, updV_ne _ _ e, if_neg e]
        · have hlj' : ¬ (j : Int) < Q.length := by omega
          obtain rfl : j = Q.length := by omega
          have HD2 : Hid (ndk Q cr Q.length = D) := by
            show _ = _
            rw [← HD.out]
            unfold dN nd
            rw [core_len, HQ.out, HCR.out]
          have hnn : (2 : Int) + Q.length - cr = (NN : Int) := by
            have h := HNN.out
            unfold nN at h
            rw [core_len, HQ.out, HCR.out] at h
            omega
          rw [HD2.out] at HTR
          have hzr : z < wr.heap.size := HTR.out.lt
          have hgr := (HBR.out.block p hpz2).trans HG2.out
          have HBX : Hid (Below wr.heap.size wr (wr.alloc (.cells #[.int .i64 NN, .slice none 0 0] 86))) := (Below.refl _ _).alloc (Nat.le_refl _) _
          have hx5 := heap_top wr (.cells #[.int .i64 NN, .slice none 0 0] 86)
          have HTX := Lib.hid (HTR.out.same (HBX.out.block z hzr))
          have hgx := (HBX.out.block p (by omega)).trans hgr
          obtain ⟨⟨c0, c1⟩, _⟩ := two_cells hgx
          have HRX := Lib.hid ((HR2.out.on (hz ▸ HBR.out)).on HBX.out)
          have HPX : Hid (Below p w (wr.alloc (.cells #[.int .i64 NN, .slice none 0 0] 86))) := (HB2.out.trans (HBR.out.mono (by omega))).trans (HBX.out.mono (by omega))
          obtain ⟨y, hy⟩ : ∃ y, wr.heap.size = y := ⟨_, rfl⟩
          go_wp2_with fail
          rw [hy] at hx5 hzr
          generalize hX : wr.alloc (.cells #[.int .i64 NN, .slice none 0 0] 86) = X at *
          clear hX
          refine (rall8_any k a l cap X HC.out HRX.out).mono ?_
          rintro e w5 ⟨v5, c5, rfl, hown5, hb5⟩
          have hx6 := (hb5.block _ (lt_of_block hx5)).trans hx5
          have HT5 := Lib.hid (HTX.out.same (hb5.block z HTX.out.lt))
          have HP5 : Hid (Below p w w5) := HPX.out.trans (hb5.mono (by have := HPX.out.size; omega))
          have hyw5 : y < w5.heap.size := lt_of_block hx6
          have HX6 := Lib.hid hx6
          obtain ⟨iy, oy, hiy⟩ : ∃ b o, 0 < (prl l).length → v5 = some ⟨b, o, none⟩ ∧ (b < w5.heap.size ∧ b ≠ y) ∧ ∀ j, j < (prl l).length → ((prl l).getD j Pr.zero).at w5 b (o + j * 2) := by
            rcases OwnP.prs hown5 with h | ⟨b, o, h1, h2, h3⟩
            · exact ⟨0, 0, fun h0 => absurd h0 (by rw [h]; simp)⟩
            · refine ⟨b, o, fun _ => ⟨h1, ⟨h2, ?_⟩, h3⟩⟩
              have h4 := (World.ownsRow.lt hown5 b (by rw [h1]; rfl)).1
              have h5 := lt_of_block hx5
              omega
          have HIY := Lib.hid hiy
          obtain ⟨j0, hj1, hj2, hj3, hj4⟩ := info_parts info94
          obtain ⟨i0, hi, hz0, hz1, hz2⟩ := info_parts info41
          have hyz : z ≠ y := by omega
          have hzy : z < y := hzr
          clear hiy hown5 hb5 hx5 hx6 c0 c1 hgx HTX HRX HPX HBX hgr HTR HBR hzr HI2 HIX HT1 HB1 hlj hj
          go_wp2_with fail
          generalize hB : w5.heap.size = B at *
          have hpB : p ≤ B := hB ▸ hp ▸ HP5.out.size
          go_loopw [14] (fun i wr => ∃ (j : Nat) (av : Option Addr) (cv len : Nat), j ≤ (prl l).length ∧ i = .int .i64 j ∧ Hid (wr.heap[y]? = some (.cells #[.int .i64 NN, .slice av len cv] 86)) ∧ Hid ((eds ((prl l).take j) D).length = len) ∧ Hid (wr.ownsRow B 92 3 (.slice av len cv) len (F6.cellsE (eds ((prl l).take j) D))) ∧ Hid (Fr (fun b => b = y) w5 wr)) (fun i _ => (prl l).length - (intOf i).toNat)
          case atStart => exact ⟨0, none, 0, 0, Nat.zero_le _, rfl, HX6, rfl, World.ownsRow_nil _ _ _ _, Fr.refl _ _⟩
          case round =>
            obtain ⟨j, av, cv, len, hj, rfl, HXR, HLN, HOW, HFR⟩ := hrel
            have hpw : B ≤ wr.heap.size := hB ▸ HFR.out.size
            by_cases hlk : j < (prl l).length
            · obtain ⟨rfl, ⟨hbl, hby⟩, hat⟩ := HIY.out (by omega)
              have hlk' : (j : Int) < (prl l).length := by omega
              obtain ⟨x0, x1⟩ := hat j hlk
              have y0 := cell_fr x0 HFR.out hby
              have y1 := cell_fr x1 HFR.out hby
              obtain ⟨ha, hb⟩ := HND.out ((prl l).getD j Pr.zero) (getD_memP hlk)
              have HTS := Lib.hid (take_snocP hlk)
              have hlen : len ≤ 16384 := by
                rw [← HLN.out]
                have := eds_len D ((prl l).take j)
                rw [List.length_take] at this
                omega
              clear hat x0 x1
              generalize (prl l).getD j Pr.zero = x at *
              have htr := HT5.out.fr HFR.out hyz
              have ha' : (x.a : Int) < k := by omega
              have hb' : (x.b : Int) < k := by omega
              have da := htr.cell ha
              have db := htr.cell hb
              have HSN := Lib.hid (eds_snoc ((prl l).take j) x D)
              obtain ⟨⟨k0, k1⟩, f0, f1⟩ := two_cells HXR.out
              clear htr
              unfold ed2 at HSN
              generalize hda : D x.a = na at *
              generalize hdb : D x.b = nb at *
              clear hda hdb
              go_wp2_with fail
              go_quiet (fail)
              have HXN2 : Hid ((wr.drewN nq).heap[y]? = some (.cells #[.int .i64 NN, .slice av len cv] 86)) := HXR
              have HON : Hid ((wr.drewN nq).ownsRow B 92 3 (.slice av len cv) len (F6.cellsE (eds ((prl l).take j) D))) := HOW
              have HFN : Hid (Fr (fun b => b = y) w5 (wr.drewN nq)) := HFR.out.drewN nq
              have hzN : (wr.drewN nq).heap.size = wr.heap.size := rfl
              generalize hUN : wr.drewN nq = UN at *
              clear hUN y0 y1 da db k0 k1 f0 f1 HXR HOW HFR
              by_cases hab : na = nb
              · subst hab
                have hne : ((na : Int) != (na : Int)) = false := by simp
                have HE2 : Hid (eds ((prl l).take (j + 1)) D = eds ((prl l).take j) D) := by show _ = _; rw [HTS.out, HSN.out, if_pos rfl, List.append_nil]
                go_wp2_with fail
                refine ⟨⟨j + 1, av, cv, len, by omega, by simp, HXN2, ?_, ?_, HFN⟩, by simp [intOf]; omega⟩
                · rw [HE2.out]; exact HLN
                · rw [HE2.out]; exact HON
              · have hne : ((na : Int) != (nb : Int)) = true := by simp; omega
                have HE2 : Hid (eds ((prl l).take (j + 1)) D = eds ((prl l).take j) D ++ [⟨(na : Int), (nb : Int), 1⟩, ⟨(nb : Int), (na : Int), 1⟩]) := by show _ = _; rw [HTS.out, HSN.out, if_neg hab]
                obtain ⟨⟨k0, k1⟩, _⟩ := two_cells HXN2.out
                have hnw := news2 UN na nb
                rw [hzN] at hnw
                have HNW := Lib.hid hnw
                clear hnw
                have HOW2 := Lib.hid (HON.out.alloc (.cells #[.int .i64 (na : Int), .int .i64 (nb : Int), .int .u32 1, .int .i64 (nb : Int), .int .i64 (na : Int), .int .u32 1] 92))
                have HBS : Hid (B ≤ (UN.alloc (.cells #[.int .i64 (na : Int), .int .i64 (nb : Int), .int .u32 1, .int .i64 (nb : Int), .int .i64 (na : Int), .int .u32 1] 92)).heap.size) := by show _ ≤ _; simp; omega
                have HFB : Hid (Fr (fun b => b = y) w5 (UN.alloc (.cells #[.int .i64 (na : Int), .int .i64 (nb : Int), .int .u32 1, .int .i64 (nb : Int), .int .i64 (na : Int), .int .u32 1] 92))) := HFN.out.alloc _
                have HXB : Hid ((UN.alloc (.cells #[.int .i64 (na : Int), .int .i64 (nb : Int), .int .u32 1, .int .i64 (nb : Int), .int .i64 (na : Int), .int .u32 1] 92)).heap[y]? = some (.cells #[.int .i64 NN, .slice av len cv] 86)) := (Below.heap_alloc _ _ _ (lt_of_block HXN2.out)).trans HXN2.out
                have HOL : Hid (∀ b, (Value.slice av len cv).ownBlock = some b → B ≤ b) := fun b hb => (HON.out.lt b hb).1
                have HCA : Hid (F6.cellsE (eds ((prl l).take j) D) ++ F6.cellsE [⟨(na : Int), (nb : Int), 1⟩, ⟨(nb : Int), (na : Int), 1⟩] = F6.cellsE (eds ((prl l).take (j + 1)) D)) := by show _ = _; rw [HE2.out, F6.cellsE_append]
                have HL2 : Hid ((eds ((prl l).take (j + 1)) D).length = len + 2) := by show _ = _; rw [HE2.out, List.length_append, HLN.out]; rfl
                go_wp2_with (at_builtin; refine wpList_append_own _ rfl (.tmp 111) (.tmp 118) 83 rfl B 92 j0 _ 3 24 Tryz.underlying83 hj1 hj2 hj3 hj4 rfl (by decide) (.slice av len cv) len (F6.cellsE (eds ((prl l).take j) D)) rfl HOW2.out ⟨wr.heap.size, 0, none⟩ 2 2 (F6.cellsE [⟨(na : Int), (nb : Int), 1⟩, ⟨(nb : Int), (na : Int), 1⟩]) rfl rfl HNW.out (F6.cellsE_one _) (by unfold maxLen; omega) (by omega) HBS.out ?_; intro v6 w6 hown6 hgrow6 hnil6; obtain ⟨g6, c6, hv6, _, _, _, _⟩ := own_shape hown6 (fun e => by have := hnil6.1 e; simp at this); subst hv6; rw [HCA.out] at hown6; have HO6 := Lib.hid hown6; have HF6 := Lib.hid (fr_grownD HFB.out hgrow6 (fun k hk => hB ▸ HOL.out k hk)); have hx7 := (hgrow6.block y (lt_of_block HXB.out) (fun e => by have := HOL.out y e.symm; omega)).trans HXB.out; obtain ⟨⟨q0, q1⟩, q2, q3⟩ := two_cells hx7; have HX7 := Lib.hid hx7; clear hown6 hgrow6 hnil6 hx7)
                refine ⟨⟨j + 1, some ⟨g6, 0, none⟩, c6, len + 2, by omega, by simp, ?_, HL2, ?_, HF6.out.setCell _ _ rfl⟩, by simp [intOf]; omega⟩
                · exact heap_setCell_same w6 y 1 _ _ _ HX7.out
                · exact ownsRow_setCell_below HO6.out (by omega) _
            · have e0 : (prl l).take j = prl l := List.take_of_length_le (by omega)
              have hlk' : ¬ (j : Int) < (prl l).length := by omega
              rw [e0, HED.out] at HLN HOW
              obtain rfl : len = EN.length := HLN.out.symm
              clear e0
              obtain ⟨⟨k0, k1⟩, _⟩ := two_cells HXR.out
              have HMO : Hid (Calls Tryz.prog 61 #[.agg #[.int .i64 NN, .slice av EN.length cv], .int .i64 0, .int .i64 1] wr fun e w' => ∃ (fl rk : Nat → Int) (bS : Nat) (vf : Value), e = .returned (.tuple #[.int .u64 (F6.net (F6.edl EN) fl 0 (F6.edl EN).length), vf, .slice (some ⟨bS, 0, none⟩) NN NN]) ∧ F6.Flow NN (F6.edl EN) 0 1 fl ∧ F6.Rk NN EN.length (F6.edl EN) fl 1 0 1 rk ∧ rk 1 = -1 ∧ TbV w' bS NN 4 (fun v => .bool (F6.side rk v)) ∧ wr.heap.size ≤ bS ∧ Below wr.heap.size wr w') := by
                have h := F6.rmost_any NN av EN cv wr 0 1 (F6.OwnE.arcs (B := B) HOW.out) HOK.out.2
                exact h
              go_wp2_with fail
              refine HMO.out.mono ?_
              rintro e w6 ⟨fl, rk, bs, vf, rfl, hfl, hrk, hfar, hside, hbs, hb6⟩
              have HCF : Hid (Cf k l c m fl rk) := ⟨by rw [HNN.out, HEN.out]; exact hfl, by rw [HNN.out, HEN.out]; exact hrk, hfar⟩
              have hBw : B ≤ wr.heap.size := hB ▸ HFR.out.size
              have HB6 : Hid (Below p w w6) := (HP5.out.trans (HFR.out.below (B := p) (hB ▸ hpB) (fun b e => by have e : b = y := e; omega))).trans (hb6.mono (by omega))
              have HT6 := Lib.hid ((HT5.out.fr HFR.out hyz).same (hb6.block z (by omega)))
              have HSD : Hid (TbV w6 bs NN 4 (fun v => .bool (F6.side rk v))) := hside
              have HIZ : Hid (0 < (prl l).length → v5 = some ⟨iy, oy, none⟩ ∧ iy < w6.heap.size ∧ ∀ j, j < (prl l).length → ((prl l).getD j Pr.zero).at w6 iy (oy + j * 2)) := fun h0 => by
                obtain ⟨h1, ⟨h2, h3⟩, h4⟩ := HIY.out h0
                have h5 : iy < wr.heap.size := by omega
                refine ⟨h1, Nat.lt_of_lt_of_le h5 hb6.size, fun j hj => ?_⟩
                obtain ⟨x0, x1⟩ := h4 j hj
                exact ⟨(hb6.cell (p := ⟨iy, oy + j * 2, none⟩) h5).trans (cell_fr x0 HFR.out h3), (hb6.cell (p := ⟨iy, oy + j * 2 + 1, none⟩) h5).trans (cell_fr x1 HFR.out h3)⟩
              have hbs6 : bs < w6.heap.size := HSD.out.lt
              have hz6 : z < w6.heap.size := HT6.out.lt
              have hw6 : wr.heap.size ≤ w6.heap.size := hb6.size
              obtain ⟨S, HS⟩ := named (F6.side rk)
              rw [HS.out] at HSD
              have HCP : Hid (cutP k l c m rk = (prl l).filter (fun p => S (D p.a) != S (D p.b))) := by show _ = _; unfold cutP; rw [HD.out, HS.out]
              clear hfl hrk hfar hside hb6 HMO HFR HOW HXR HLN k0 k1 HT5 HIY HX6 hlk
              generalize F6.net (F6.edl EN) fl 0 (F6.edl EN).length = nt
              go_wp2_with fail
              generalize hG : w6.heap.size = G at *
              have hpG : p ≤ G := by omega
              go_loopw [20, 21] (fun s18 i wr => ∃ (k : Nat) (av : Option Addr) (cv len : Nat), k ≤ (prl l).length ∧ i = .int .i64 k ∧ s18 = .slice av len cv ∧ Hid ((((prl l).take k).filter (fun p => S (D p.a) != S (D p.b))).length = len) ∧ Hid (wr.ownsRow G 52 2 (.slice av len cv) len (cellsP (((prl l).take k).filter (fun p => S (D p.a) != S (D p.b))))) ∧ Hid (Below G w6 wr)) (fun _ i _ => (prl l).length - (intOf i).toNat)
              case atStart => exact ⟨0, none, 0, 0, Nat.zero_le _, rfl, rfl, rfl, World.ownsRow_nil _ _ _ _, Below.refl _ _⟩
              case round =>
                obtain ⟨t, au, cu, len, ht, rfl, rfl, HLN, HOW, HBR⟩ := hrel
                have hpw : G ≤ wr.heap.size := hG ▸ HBR.out.size
                by_cases hlk : t < (prl l).length
                · obtain ⟨rfl, hbl, hat⟩ := HIZ.out (by omega)
                  have hlk' : (t : Int) < (prl l).length := by omega
                  obtain ⟨x0, x1⟩ := hat t hlk
                  have y0 := (HBR.out.cell (p := ⟨iy, oy + t * 2, none⟩) hbl).trans x0
                  have y1 := (HBR.out.cell (p := ⟨iy, oy + t * 2 + 1, none⟩) hbl).trans x1
                  obtain ⟨ha, hb⟩ := HND.out ((prl l).getD t Pr.zero) (getD_memP hlk)
                  have hlen : len ≤ 8192 := by
                    rw [← HLN.out]
                    refine Nat.le_trans (List.length_filter_le _ _) ?_
                    rw [List.length_take]
                    omega
                  have HSN := Lib.hid (filter_snocP (f := fun p => S (D p.a) != S (D p.b)) hlk)
                  clear hat x0 x1
                  generalize (prl l).getD t Pr.zero = x at *
                  have htr := HT6.out.same (HBR.out.block z (by omega))
                  have hts := HSD.out.same (HBR.out.block bs (by omega))
                  have ha' : (x.a : Int) < k := by omega
                  have hb' : (x.b : Int) < k := by omega
                  have da := htr.cell ha
                  have db := htr.cell hb
                  have ea := hts.cell (HDL.out x.a)
                  have eb := hts.cell (HDL.out x.b)
                  have la := HDL.out x.a
                  have lb := HDL.out x.b
                  have HYY := Lib.hid (And.intro y0 y1)
                  clear htr hts
                  generalize hda : D x.a = na at *
                  generalize hdb : D x.b = nb at *
                  generalize hsa : S na = ta at *
                  generalize hsb : S nb = tb at *
                  have la' : (na : Int) < NN := by omega
                  have lb' : (nb : Int) < NN := by omega
                  go_wp2_with fail
                  go_quiet (fail)
                  have HON : Hid ((wr.drewN nq).ownsRow G 52 2 (.slice au len cu) len (cellsP (((prl l).take t).filter (fun p => S (D p.a) != S (D p.b))))) := HOW
                  have HBN : Hid (Below G w6 (wr.drewN nq)) := ⟨HBR.out.os, HBR.out.tape, HBR.out.output, HBR.out.size, HBR.out.block⟩
                  have hzN : (wr.drewN nq).heap.size = wr.heap.size := rfl
                  have u0 : (wr.drewN nq).cell? ⟨iy, oy + t * 2, none⟩ = some (.int .i64 (x.a : Int)) := HYY.out.1
                  have u1 : (wr.drewN nq).cell? ⟨iy, oy + t * 2 + 1, none⟩ = some (.int .i64 (x.b : Int)) := HYY.out.2
                  generalize hUN : wr.drewN nq = UN at *
                  clear hUN y0 y1 da db ea eb HOW HBR
                  generalize hne0 : (!(ta == tb)) = tt at *
                  cases tt
                  · have hne : (ta != tb) = false := hne0
                    have HE2 : Hid (((prl l).take (t + 1)).filter (fun p => S (D p.a) != S (D p.b)) = ((prl l).take t).filter (fun p => S (D p.a) != S (D p.b))) := by show _ = _; rw [HSN.out, if_neg (by rw [hne]; decide), List.append_nil]
                    go_wp2_with fail
                    refine ⟨⟨t + 1, au, cu, len, by omega, by simp, rfl, ?_, ?_, HBN⟩, by simp [intOf]; omega⟩
                    · rw [HE2.out]; exact HLN
                    · rw [HE2.out]; exact HON
                  · have hne : (ta != tb) = true := hne0
                    have HE2 : Hid (((prl l).take (t + 1)).filter (fun p => S (D p.a) != S (D p.b)) = ((prl l).take t).filter (fun p => S (D p.a) != S (D p.b)) ++ [⟨x.a, x.b⟩]) := by show _ = _; rw [HSN.out, if_pos hne]
                    have hnw := news1 UN x.a x.b
                    rw [hzN] at hnw
                    have HNW := Lib.hid hnw
                    clear hnw
                    have HOW2 := Lib.hid (HON.out.alloc (.cells #[.int .i64 (x.a : Int), .int .i64 (x.b : Int)] 52))
                    have HBS : Hid (G ≤ (UN.alloc (.cells #[.int .i64 (x.a : Int), .int .i64 (x.b : Int)] 52)).heap.size) := by show _ ≤ _; simp; omega
                    have HBB : Hid (Below G w6 (UN.alloc (.cells #[.int .i64 (x.a : Int), .int .i64 (x.b : Int)] 52))) := HBN.out.alloc (by omega) _
                    have HOL : Hid (∀ b, (Value.slice au len cu).ownBlock = some b → G ≤ b) := fun b hb => (HON.out.lt b hb).1
                    have HCA : Hid (cellsP (((prl l).take t).filter (fun p => S (D p.a) != S (D p.b))) ++ cellsP [⟨x.a, x.b⟩] = cellsP (((prl l).take (t + 1)).filter (fun p => S (D p.a) != S (D p.b)))) := by show _ = _; rw [HE2.out, cellsP_append]
                    have HL2 : Hid ((((prl l).take (t + 1)).filter (fun p => S (D p.a) != S (D p.b))).length = len + 1) := by show _ = _; rw [HE2.out, List.length_append, HLN.out]; rfl
                    go_wp2_with (at_builtin; refine wpList_append_own _ rfl (.tmp 156) (.tmp 161) 30 rfl G 52 i0 _ 2 16 Tryz.underlying30 hi hz0 hz1 hz2 rfl (by decide) (.slice au len cu) len (cellsP (((prl l).take t).filter (fun p => S (D p.a) != S (D p.b)))) rfl HOW2.out ⟨wr.heap.size, 0, none⟩ 1 1 (cellsP [⟨x.a, x.b⟩]) rfl rfl HNW.out (cellsP_one _) (by unfold maxLen; omega) (by omega) HBS.out ?_; intro v7 w7 hown7 hgrow7 hnil7; obtain ⟨g7, c7, hv7, _, _, _, _⟩ := own_shape hown7 (fun e => by have := hnil7.1 e; simp at this); subst hv7; rw [HCA.out] at hown7; have HO7 := Lib.hid hown7; have HB7 := Lib.hid (HBB.out.grown hgrow7 HBS.out (by intro b hb; exact HOL.out b hb)); clear hown7 hgrow7 hnil7)
                    exact ⟨⟨t + 1, some ⟨g7, 0, none⟩, c7, len + 1, by omega, by simp, rfl, HL2, HO7, HB7⟩, by simp [intOf]; omega⟩
                · have e0 : (prl l).take t = prl l := List.take_of_length_le (by omega)
                  have hlk' : ¬ (t : Int) < (prl l).length := by omega
                  rw [e0] at HLN HOW
                  clear e0
                  go_wp2_with fail
                  go_ret
                  refine ⟨au, cu, cutP k l c m rk, ?_, ?_, ?_, ?_⟩
                  · rw [HCP.out, HLN.out]; rfl
                  · show World.ownsRow _ _ _ _ _ _ _
                    rw [HCP.out, HLN.out]
                    exact own_base HOW.out hpG
                  · unfold CutIs
                    rw [if_neg (by rw [HQ.out]; exact HXN.out)]
                    exact ⟨fl, rk, HCF.out, rfl⟩
                  · exact HB6.out.trans (HBR.out.mono hpG)
end Go.Proofs.YtpgadcacimjlaaaGreat
