/-
  The contract of the reference's Cut.
-/
import Derived.Test.YtcomkdjngchmkaaRMost
import Derived.Test.YtcomkdjngchmkaaRChk
import Derived.Test.YtcomkdjngchmkaaSame2
import Derived.Test.YtcomkdjngchmkaaLawFewer
namespace Go.Proofs.Ytcomkdjngchmkaa
open Go.RowKit
set_option maxHeartbeats 800000 in
set_option maxRecDepth 100000 in
theorem rcut_bad (N : Int) (a : Option Addr) (l : List A) (cap : Nat) (w : World) (s t : Int) (hl : l.length ≤ 9223372036854775807) (hr : Arcs w a l) (hE : flE N l s t ≠ 0) :
    Calls Try.prog 15 #[.agg #[.int .i64 N, .slice a l.length cap], .int .i64 s, .int .i64 t] w fun e w' => e = .returned (.tuple #[.slice none 0 0, .slice none 0 0, .int .u64 0, .int .i64 (flE N l s t)]) ∧ Below w.heap.size w w' := by
  have hb0 : Below w.heap.size w (w.alloc (.cells #[.int .i64 N, .slice a l.length cap] 24)) := (Below.refl _ _).alloc (Nat.le_refl _) _
  have HC := Lib.hid (rwrong_any N a l cap _ hl (hr.on hb0) s t)
  generalize flE N l s t = E at *
  have hE1 : (E == 0) = false := by rw [beq_eq_false_iff_ne]; exact hE
  have hE2 : (E != 0) = true := by simpa using hE
  clear hE
  go_enter Try.func15, Try.ntmps15
  go_wp2_with fail
  refine HC.out.mono ?_
  rintro e w1 ⟨rfl, hb1⟩
  go_wp2_with fail
  (try simp only [Exit.inBlock, Exit.then])
  refine bodyPost_ret (results_tmp4 rfl _ _ _) rfl ?_
  exact ⟨rfl, bthen hb0 hb1 (by simp)⟩
set_option maxHeartbeats 3200000 in
set_option maxRecDepth 100000 in
theorem rcut_ok (n : Nat) (a : Option Addr) (l : List A) (cap : Nat) (w : World) (s t : Nat) (hr : Arcs w a l) (hE : flE n l s t = 0) (hO : Ok n l s t n s t) :
    Calls Try.prog 15 #[.agg #[.int .i64 n, .slice a l.length cap], .int .i64 s, .int .i64 t] w fun e w' => ∃ (fl rk : Nat → Int) (bs : Nat) (ve : Value), e = .returned (.tuple #[.slice (some ⟨bs, 0, none⟩) n n, ve, .int .u64 (net (edl l) fl s (edl l).length), .int .i64 0]) ∧ Flow n (edl l) s t fl ∧ Rk n l.length (edl l) fl 1 s t rk ∧ rk t = -1 ∧ TbV w' bs n 4 (fun v => .bool (side rk v)) ∧ Ri w' ve (hits (outQ (edl l) (side rk)) l.length) ∧ Below w.heap.size w w' := by
  obtain ⟨i3, hi3, hz3, hs3, hby3⟩ := info_parts info3
  have hm : l.length ≤ 16384 := by have := hO.g.lb; rwa [edl_len] at this
  have hb0 : Below w.heap.size w (w.alloc (.cells #[.int .i64 n, .slice a l.length cap] 24)) := (Below.refl _ _).alloc (Nat.le_refl _) _
  have HC := Lib.hid (rwrong_any n a l cap _ (by omega) (hr.on hb0) s t)
  rw [hE] at HC
  have hg := heap_top w (.cells #[.int .i64 n, .slice a l.length cap] 24)
  have HO := Lib.hid hO
  have HAR0 := Lib.hid hr
  have HAR := Lib.hid (hr.on hb0)
  have hsz : (w.alloc (.cells #[.int .i64 n, .slice a l.length cap] 24)).heap.size = w.heap.size + 1 := by simp
  have HB0 := Lib.hid hb0
  have HG := Lib.hid hg
  clear hE hO hr hb0 hg
  go_enter Try.func15, Try.ntmps15
  go_wp2_with fail
  refine HC.out.mono ?_
  rintro e w1 ⟨rfl, hb1⟩
  generalize hW : w.alloc (.cells #[.int .i64 n, .slice a l.length cap] 24) = W at *
  have hg1 := (hb1.block w.heap.size (by omega)).trans HG.out
  obtain ⟨⟨g0, g1⟩, gf0, gf1⟩ := two_cells hg1
  have HM := Lib.hid (rmost_any n a l cap w1 s t (HAR.out.on hb1) HO.out)
  have HB1 := Lib.hid hb1
  have hw1 := lt_of_block hg1
  clear hb1
  go_wp2_with fail
  refine HM.out.mono ?_
  rintro e w2 ⟨fl, rk, bs, vf, rfl, hFl, hRk, hrt, hT, hbs, hb2⟩
  have hg2 := (hb2.block w.heap.size hw1).trans hg1
  have hw2 := lt_of_block hg2
  have hbw2 : Below w.heap.size w w2 := (HB0.out.trans (HB1.out.mono (by omega))).trans (hb2.mono (by omega))
  have HFL := Lib.hid hFl
  have HRK := Lib.hid hRk
  have HRT := Lib.hid hrt
  have HT5 := Lib.hid hT
  have HBW5 := Lib.hid hbw2
  have HG5 := Lib.hid hg2
  obtain ⟨V, HV⟩ := named (net (edl l) fl s (edl l).length)
  rw [HV.out]
  clear hFl hRk hrt hT hb2 hbw2 hg1 g0 g1 gf0 gf1 HM HC HB1 HG HAR hW hsz
  go_wp2_with fail
  obtain ⟨b, o, hab⟩ : ∃ b o, 0 < l.length → a = some ⟨b, o, none⟩ ∧ b < w.heap.size ∧ ∀ j, j < l.length → (l.getD j A.zero).at w b (o + j * 3) := by
    rcases HAR0.out with rfl | ⟨b, o, h⟩
    · exact ⟨0, 0, fun h => absurd h (by simp)⟩
    · exact ⟨b, o, fun _ => h⟩
  have HAB := Lib.hid hab
  have HXX := Lib.hid HO.out.edge
  obtain ⟨q, HQ⟩ := named (outQ (edl l) (side rk))
  clear hab
  go_loopw [15, 14] (fun i ve wx => ∃ j : Nat, j ≤ l.length ∧ i = .int .i64 j ∧ wx.ownsRow w2.heap.size 3 1 ve (hits q j).length (cellsI (hits q j)) ∧ Hid (Below w2.heap.size w2 wx)) (fun i _ _ => l.length - (intOf i).toNat)
  case atStart => exact ⟨0, Nat.zero_le _, rfl, ⟨rfl, Or.inl ⟨rfl, rfl⟩⟩, Below.refl _ _⟩
  case round =>
    obtain ⟨j, hj, rfl, hown, HB⟩ := hrel
    have hgr := (HB.out.block w.heap.size hw2).trans HG5.out
    obtain ⟨⟨g0, g1⟩, gf0, gf1⟩ := two_cells hgr
    by_cases hjm : j < l.length
    · have hlen := hits_len q j
      obtain ⟨ys, HYS⟩ := named (hits q j)
      rw [HYS.out] at hown hlen
      obtain ⟨rfl, hbl, hat⟩ := HAB.out (by omega)
      obtain ⟨xf, xt, xc, hx, hxe, hfn, htn, hc0, hc1⟩ := HXX.out j hjm
      have hat := hat j hjm
      rw [hx] at hat
      obtain ⟨x0, x1, x2⟩ := hat.on HBW5.out
      have xb : b < w2.heap.size := by omega
      have y0 := (HB.out.cell (p := ⟨b, o + j * 3, none⟩) xb).trans x0
      have y1 := (HB.out.cell (p := ⟨b, o + j * 3 + 1, none⟩) xb).trans x1
      have y2 := (HB.out.cell (p := ⟨b, o + j * 3 + 2, none⟩) xb).trans x2
      simp only at y0 y1 y2
      have hqj : q j = (side rk xf && !side rk xt) := by rw [← HQ.out]; unfold outQ; rw [hxe]
      have hTx := HT5.out.same (HB.out.block bs HT5.out.lt)
      have d1 := hTx.cell hfn
      have d2 := hTx.cell htn
      have hfn' : (xf : Int) < n := by omega
      have htn' : (xt : Int) < n := by omega
      have hjl : (j : Int) < l.length := by omega
      obtain ⟨av, cv, hve⟩ := own_slice hown
      subst hve
      clear x0 x1 x2 hx hat hxe hTx
      generalize side rk xf = su at *
      generalize side rk xt = sv at *
      cases su with
      | false =>
        have hq0 : q j = false := by rw [hqj]; rfl
        have HH := Lib.hid ((hits_f hq0).trans HYS.out)
        clear hqj hq0
        go_wp2_with fail
        exact ⟨⟨j + 1, hjm, by go_num, by rw [HH.out]; exact hown, HB⟩, by simp [intOf]; omega⟩
      | true =>
        cases sv with
        | true =>
          have hq0 : q j = false := by rw [hqj]; rfl
          have HH := Lib.hid ((hits_f hq0).trans HYS.out)
          clear hqj hq0
          go_wp2_with fail
          exact ⟨⟨j + 1, hjm, by go_num, by rw [HH.out]; exact hown, HB⟩, by simp [intOf]; omega⟩
        | false =>
          have hq0 : q j = true := by rw [hqj]; rfl
          have hht := hits_t hq0
          rw [HYS.out] at hht
          have HH := Lib.hid hht
          have HX : Hid ((cellsI ys ++ [Value.int .i64 (j : Int)]) = cellsI (ys ++ [(j : Int)])) := cellsI_snoc ys j
          have HN : Hid (ys.length + 1 = (ys ++ [(j : Int)]).length) := by show _ = _; simp
          have hsx := HB.out.size
          clear hqj hq0 hht
          have h1n : Hid (∀ i z, [Value.int .i64 (j : Int)][i]? = some z → (wr.alloc (.cells #[.int .i64 (j : Int)] 3)).cell? ((⟨wr.heap.size, 0, none⟩ : Addr).add i) = some z) := one_new wr (j : Int)
          go_wp2_with (at_builtin; refine wpList_append_own _ rfl (.tmp 59) (.tmp 61) 32 rfl w2.heap.size 3 i3 (.int .i64 0) 1 8 Try.underlying32 hi3 hz3 hs3 hby3 rfl (by decide) (.slice av ys.length cv) ys.length (cellsI ys) rfl (hown.alloc _) ⟨wr.heap.size, 0, none⟩ 1 1 [.int .i64 (j : Int)] rfl rfl h1n.out (one_i64 _) (by unfold maxLen; omega) (by omega) (by simp; omega) ?_; intro v6 w6 hown6 hgrow6 hnil6)
          rw [HX.out, HN.out] at hown6
          have hb6 : Below w2.heap.size w2 w6 := (HB.out.alloc HB.out.size _).grown hgrow6 (by simp; omega) (by intro k hk; exact (hown.lt k hk).1)
          exact ⟨⟨j + 1, hjm, by go_num, by rw [HH.out]; exact hown6, hb6⟩, by simp [intOf]; omega⟩
    · obtain rfl : j = l.length := by omega
      have hge : ¬ ((l.length : Nat) : Int) < l.length := by omega
      go_wp2_with fail
      (try simp only [Exit.inBlock, Exit.then])
      refine bodyPost_ret (results_tmp4 rfl _ _ _) rfl ?_
      have hbe : Below w.heap.size w wr := HBW5.out.trans (HB.out.mono (by omega))
      exact ⟨fl, rk, bs, _, by rw [HV.out]; rfl, HFL.out, HRK.out, HRT.out, HT5.out.same (HB.out.block bs HT5.out.lt), by rw [HQ.out]; exact Ri.of hown, hbe⟩
end Go.Proofs.Ytcomkdjngchmkaa
