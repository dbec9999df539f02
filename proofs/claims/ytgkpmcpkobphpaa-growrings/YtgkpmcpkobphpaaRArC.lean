/-
  The contract of flyoverref07.Around: the walk.
-/
import Derived.Test.YtgkpmcpkobphpaaRAround
namespace Go.Proofs.Ytgkpmcpkobphpaa
open Go.RowKit
theorem set_marks (n c : Nat) : ((List.range n).map (fun _ => Value.bool false)).set c (.bool true) = (List.range n).map (fun u => .bool ((false || decide (u = c)))) := by
  apply List.ext_getElem
  · simp
  · intro i h1 h2
    rw [List.getElem_set]
    by_cases e : c = i
    · subst e; simp
    · rw [if_neg e]
      have e' : ¬ i = c := fun h => e h.symm
      simp [e']
set_option maxRecDepth 100000 in
set_option maxHeartbeats 1600000 in
theorem raround_any (n c : Nat) (a : Option Addr) (l : List A) (cap : Nat) (w : World) (hn : n ≤ 1024) (hl : l.length ≤ 8192) (hc : c < n) (hpo : ∀ x, x ∈ l → (0 ≤ x.f ∧ x.f < n) ∧ 0 ≤ x.t ∧ x.t < n) (hr : Arcs w a l) :
    Calls Try.prog 32 #[.agg #[.int .i64 n, .slice a l.length cap], .int .i64 c] w fun e w' => ∃ v, e = .returned v ∧ w'.ownsRow w.heap.size 3 1 v (whole (edl l) (2 * l.length) n (fun _ => false) c).length (cellsI (ints (whole (edl l) (2 * l.length) n (fun _ => false) c))) ∧ Below w.heap.size w w' := by
  obtain ⟨i3, hi3, hz3, hs3, hby3⟩ := info_parts info3
  obtain ⟨i4, hi4, hz4, hs4, hb4⟩ := info_parts info4
  have hmkB : ∀ w, (Instr.makeSlice 48 (.int .i64 n) (.int .i64 n)).run Try.prog w = .ok (.slice (some ⟨w.heap.size, 0, none⟩) n n) (w.alloc (.cells ((List.range n).map (fun _ => Value.bool false)).toArray 4)) := fun w => by
    have := run_make (P := Try.prog) w 48 4 i4 (.bool false) Try.underlying48 hi4 hz4 .i64 .i64 n n (by omega) (by omega) (by rw [hb4]; omega) (by omega)
    rw [this, Int.toNat_natCast, hs4, made_bool]
  clear hi4 hz4 hs4 hb4
  clear i4
  have hc' : (c : Int) < n := by omega
  have HPO := Lib.hid hpo
  have HAR := Lib.hid hr
  generalize hp : w.heap.size = p at *
  have hg := heap_top w (.cells #[.int .i64 n, .slice a l.length cap] 24)
  rw [hp] at hg
  have hb0 : Below p w (w.alloc (.cells #[.int .i64 n, .slice a l.length cap] 24)) := (Below.refl _ _).alloc (by omega) _
  have ht0 : TbV ((w.alloc (.cells #[.int .i64 n, .slice a l.length cap] 24)).alloc (.cells ((List.range n).map (fun _ => Value.bool false)).toArray 4)) (p + 1) n 4 (fun _ => .bool false) := by
    have := heap_top (w.alloc (.cells #[.int .i64 n, .slice a l.length cap] 24)) (.cells ((List.range n).map (fun _ => Value.bool false)).toArray 4)
    rw [World.size_alloc, hp] at this
    exact this
  have d1 := ht0.cell hc
  have d2 := ht0.free c
  have HT0 := Lib.hid ht0
  clear ht0
  go_enter Try.func32, Try.ntmps32
  go_wp2_with fail
  have HR0 : Hid (Ro w (((w.alloc (.cells #[.int .i64 n, .slice a l.length cap] 24)).alloc (.cells (((List.range n).map (fun _ => Value.bool false)).set c (.bool true)).toArray 4)).alloc (.cells #[.int .i64 (c : Int)] 3)) p n (.slice a l.length cap) (edl l) (2 * l.length) c 0 (p + 2) 1) := by
    have z1 : (w.alloc (.cells #[.int .i64 n, .slice a l.length cap] 24)).heap.size = p + 1 := by simp [hp]
    have z2 : ((w.alloc (.cells #[.int .i64 n, .slice a l.length cap] 24)).alloc (.cells (((List.range n).map (fun _ => Value.bool false)).set c (.bool true)).toArray 4)).heap.size = p + 2 := by simp [hp]
    refine ⟨Nat.zero_le _, ?_, ?_, ?_, ?_⟩
    · have := World.ownsRow_lit (base := p + 2) (e := 3) (size := 1) ((w.alloc (.cells #[.int .i64 n, .slice a l.length cap] 24)).alloc (.cells (((List.range n).map (fun _ => Value.bool false)).set c (.bool true)).toArray 4)) #[.int .i64 (c : Int)] 1 (by rw [z2]; omega) (by unfold maxLen; omega) rfl
      rw [z2] at this
      exact this
    · refine (Below.heap_alloc _ _ _ (by rw [z2]; omega)).trans ?_
      have := heap_top (w.alloc (.cells #[.int .i64 n, .slice a l.length cap] 24)) (.cells (((List.range n).map (fun _ => Value.bool false)).set c (.bool true)).toArray 4)
      rw [z1] at this
      rw [this, set_marks]
      rfl
    · exact (Below.heap_alloc _ _ _ (by rw [z2]; omega)).trans ((Below.heap_alloc _ _ _ (by rw [z1]; omega)).trans hg)
    · exact (hb0.alloc (by rw [z1]; omega) _).alloc (by rw [z2]; omega) _
  generalize ((w.alloc (.cells #[.int .i64 n, .slice a l.length cap] 24)).alloc (.cells (((List.range n).map (fun _ => Value.bool false)).set c (.bool true)).toArray 4)).alloc (.cells #[.int .i64 (c : Int)] 3) = V at *
  clear d1 d2 HT0 hg hb0 hmkB
  go_loopw [6, 7] (fun s6 s7 wr => ∃ (k g cc m : Nat), s6 = .slice (some ⟨g, 0, none⟩) m cc ∧ s7 = .int .i64 k ∧ Hid ((gro (edl l) (2 * l.length) n (fun _ => false) c k).1.length = m) ∧ Hid (Ro w wr p n (.slice a l.length cap) (edl l) (2 * l.length) c k g cc)) (fun _ s7 _ => n - (intOf s7).toNat)
  case atStart => exact ⟨0, p + 2, 1, 1, rfl, rfl, rfl, HR0⟩
  case round =>
    obtain ⟨k, g, cc, m, rfl, rfl, HM, HR⟩ := hrel
    obtain ⟨⟨g0, g1⟩, _⟩ := two_cells HR.out.bx
    by_cases hk : k < m
    · have hk' : (k : Int) < m := by omega
      have hkg : k < (gro (edl l) (2 * l.length) n (fun _ => false) c k).1.length := by rw [HM.out]; exact hk
      obtain ⟨x, HX⟩ := named ((gro (edl l) (2 * l.length) n (fun _ => false) c k).1.getD k 0)
      have hxn : x < n := by rw [← HX.out]; exact gro_at hc hkg
      have HGO := Lib.hid (gro_go hkg)
      rw [HX.out] at HGO
      have HSX : Hid ((gro (edl l) (2 * l.length) n (fun _ => false) c k).2 x = true) := by
        rw [← HX.out]
        exact (gro_inv (E := edl l) (M := 2 * l.length) (S := fun _ => false) hc k).sn _ (by simp [List.getD, List.getElem?_eq_getElem hkg])
      have hcell : wr.cell? ⟨g, k, none⟩ = some (.int .i64 (x : Int)) := by
        rw [HR.out.ow.cellAt k (by rw [Nat.mul_one]; exact hkg), cellsI_getD _ _ (by rw [ints_len]; exact hkg), ints_getD hkg, HX.out]
      have hgl := own_lt HR.out.ow
      have hmn : m ≤ n := by rw [← HM.out]; exact gro_short hc k
      have HAD : Hid (Arcs wr.drew a l) := HAR.out.on (by rw [hp]; exact HR.out.be.drew)
      clear hkg
      go_wp2_with fail
      go_region_with (first | (go_at_call 56; refine (rnear_any n x a l cap _ hn hl hxn HPO.out HAD.out).mono ?_; rintro e w4 ⟨b4, rfl, hb4l, ht4, hbe4⟩; have HT4 := Lib.hid ht4; have HBE4 := Lib.hid hbe4; clear ht4 hbe4) | (go_at_call 55; refine (rall_any hn HT4.out).mono ?_; rintro e w5 ⟨v5, rfl, hown5, hbe5⟩; obtain ⟨aq, cq, rfl⟩ := own_slice hown5; have HO5 := Lib.hid hown5; have HBE5 := Lib.hid hbe5; clear hown5 hbe5))
      all_goals
        obtain ⟨xs, HXS⟩ := named (gro (edl l) (2 * l.length) n (fun _ => false) c k).1
        obtain ⟨S, HSS⟩ := named (gro (edl l) (2 * l.length) n (fun _ => false) c k).2
        obtain ⟨q, HQ⟩ := named (nbl l n x)
        have hql : q.length ≤ n := by rw [← HQ.out]; exact allk_len _ _
        have hmx : xs.length = m := by rw [← HXS.out]; exact HM.out
        have HMX := Lib.hid hmx
        have HSX2 : Hid (S x = true) := by rw [← HSS.out]; exact HSX.out
        have HO5q : Hid (w5.ownsRow w4.heap.size 3 1 (.slice aq q.length cq) q.length (cellsI (ints q))) := by rw [← HQ.out]; exact HO5.out
        have hqe : (allk (fun u => nr l x u && !decide (u = x)) n).length = q.length := by rw [← HQ.out]; rfl
        have hz4 : wr.heap.size ≤ w4.heap.size := HBE4.out.size
        have HB45 : Hid (Below wr.heap.size wr w5) := by
          have h1 : Below wr.heap.size wr w4 := (Below.refl _ wr).drew.trans HBE4.out
          exact h1.trans (HBE5.out.mono hz4)
        have HRI : Hid (Ri w w5 p n (.slice a l.length cap) S xs q 0 g cc (p + 1) aq cq) := by
          refine ⟨?_, ?_, (HB45.out.block p (lt_of_block HR.out.bx)).trans HR.out.bx, HR.out.be.trans (HB45.out.mono (Nat.le_of_lt (lt_of_block HR.out.bx))), own_base HO5q.out (by omega), ?_, by have := HB45.out.size; omega⟩
          · have := own_on HR.out.ow HB45.out
            rw [HXS.out] at this
            simpa using this
          · have := HR.out.tb.same (HB45.out.block _ HR.out.tb.lt)
            rw [HSS.out] at this
            exact this.congr (fun u _ => by simp)
          · intro b hb e
            have := (HO5q.out.lt b hb).1
            omega
        rw [hqe]
        clear hcell hmx hqe
        have HQN : Hid (q.Nodup) := by rw [← HQ.out]; exact nbl_nodup l n x
        have HQL : Hid (∀ u, u ∈ q → u < n) := fun u hu => by rw [← HQ.out] at hu; exact (mem_nbl.1 hu).1
        go_wp2_with fail
        go_loopw [6, 9] (fun s6 s9 wr => ∃ (j g2 c2 len : Nat), s6 = .slice (some ⟨g2, 0, none⟩) len c2 ∧ s9 = .int .i64 j ∧ j ≤ q.length ∧ Hid (xs.length + ((q.take j).filter (fun u => !S u)).length = len) ∧ Hid (Ri w wr p n (.slice a l.length cap) S xs q j g2 c2 (p + 1) aq cq)) (fun _ s9 _ => q.length - (intOf s9).toNat)
        case atStart => exact ⟨0, g, cc, m, rfl, rfl, Nat.zero_le _, by show _ = _; simpa using HMX.out, HRI⟩
        case round =>
          obtain ⟨j, g2, c2, len, rfl, rfl, hj, HLN, HRJ⟩ := hrel
          have hlen : len ≤ 2048 := by
            rw [← HLN.out, HMX.out]
            have : ((q.take j).filter (fun u => !S u)).length ≤ q.length := Nat.le_trans (List.length_filter_le _ _) (by rw [List.length_take]; omega)
            omega
          by_cases hjq : j < q.length
          · have hjq' : (j : Int) < q.length := by omega
            obtain ⟨gq, haq, hgq1, hgq2, hcq⟩ := own_cell HRJ.out.qs (ints_len q) hjq
            subst haq
            rw [ints_getD hjq] at hcq
            obtain ⟨y, HY⟩ := named (q.getD j 0)
            have hyn : y < n := by rw [← HY.out]; exact HQL.out _ (by simp [List.getD, List.getElem?_eq_getElem hjq])
            rw [HY.out] at hcq
            have hyn' : (y : Int) < n := by omega
            have e1 := HRJ.out.tb.cell hyn
            have e2 := HRJ.out.tb.free y
            have hny : y ∉ q.take j := by rw [← HY.out]; exact take_new HQN.out hjq
            rw [decide_eq_false hny, Bool.or_false] at e1
            obtain ⟨sb, HSB⟩ := named (S y)
            rw [HSB.out] at e1
            have hq1 : gq ≠ p + 1 := by omega
            have hq2 := hq1.symm
            clear hny
            cases sb
            · have hz : (wr.setCell ⟨p + 1, y, none⟩ (.bool true)).heap.size = wr.heap.size := by simp [World.setCell]
              have hnw := one_new (wr.setCell ⟨p + 1, y, none⟩ (.bool true)) (y : Int)
              rw [hz] at hnw
              have HNW := Lib.hid hnw
              have how := HRJ.out.ow
              rw [HLN.out] at how
              have HOW3 := Lib.hid ((own_set how ⟨p + 1, y, none⟩ (.bool true) (by show p + 1 < p + 2; omega)).alloc (.cells #[.int .i64 (y : Int)] 3))
              have HBZ : Hid (p + 2 ≤ ((wr.setCell ⟨p + 1, y, none⟩ (.bool true)).alloc (.cells #[.int .i64 (y : Int)] 3)).heap.size) := by
                show _ ≤ _
                rw [World.size_alloc, hz]
                have := HRJ.out.sz
                omega
              clear hz hnw how
              go_wp2_with (at_builtin; refine wpList_append_new rfl (.tmp 51) (.tmp 56) 28 rfl (p + 2) 3 i3 (.int .i64 0) 1 8 Try.underlying28 hi3 hz3 hs3 hby3 rfl (by decide) (.slice (some ⟨g2, 0, none⟩) len c2) len (cellsI (ints (xs ++ (q.take j).filter (fun u => !S u)))) rfl HOW3.out ⟨wr.heap.size, 0, none⟩ 1 1 [.int .i64 (y : Int)] rfl rfl HNW.out (one_i64 _) (by unfold maxLen; omega) (by omega) HBZ.out (by omega) ?_; intro v6 w6 hown6 hgrow6 hb6; obtain ⟨g6, c6, hv6, _, _, _, _⟩ := own_shape hown6 (by rintro rfl; simp [Value.ownBlock] at hb6); subst hv6; have hb7 : g6 = g2 ∨ g6 = wr.heap.size + 1 := (hb6.imp (fun e => Option.some.inj e) (fun e => by have := Option.some.inj (show some g6 = some _ from e); simpa using this)); have HX6 := Lib.hid (HRJ.out.add (w6 := w6) (g6 := g6) (c6 := c6) (o := .cells #[.int .i64 (y : Int)] 3) hjq (by rw [HY.out]; exact HSB.out) (by omega) (by rw [HLN.out, HY.out]; exact hown6) (by rw [HY.out]; exact hgrow6) hb7); clear hown6 hgrow6 hb6 hb7)
              refine ⟨⟨j + 1, g6, c6, len + 1, rfl, by simp, by omega, ?_, HX6⟩, by simp [intOf]; omega⟩
              show _ = _
              have e := take_fil (S := S) hjq
              rw [HY.out, if_neg (by rw [HSB.out]; simp)] at e
              rw [e, List.length_append, ← Nat.add_assoc, HLN.out]
              rfl
            · go_wp2_with fail
              have e := take_fil (S := S) hjq
              rw [HY.out, if_pos HSB.out] at e
              refine ⟨⟨j + 1, g2, c2, len, rfl, by simp, by omega, ?_, Lib.hid (HRJ.out.skip hjq (by rw [HY.out]; exact HSB.out))⟩, by simp [intOf]; omega⟩
              show _ = _
              rw [e]; exact HLN.out
          · obtain rfl : j = q.length := by omega
            have hjq' : ¬ (q.length : Int) < q.length := by omega
            go_wp2_with fail
            have hpo2 : ∀ x, x ∈ l → 0 ≤ x.f ∧ 0 ≤ x.t := fun x hx => ⟨(HPO.out x hx).1.1, (HPO.out x hx).2.1⟩
            have eL : (q.take q.length).filter (fun u => !S u) = ext (edl l) (2 * l.length) n S x := by rw [List.take_length, ← HQ.out]; exact ext_nbl hpo2 HSX2.out
            have hGO := HGO.out
            rw [HXS.out, HSS.out] at hGO
            have hln := HLN.out
            rw [eL] at hln
            have hlr : (gro (edl l) (2 * l.length) n (fun _ => false) c (k + 1)).1.length = len := by rw [hGO, List.length_append]; exact hln
            have how := HRJ.out.ow
            rw [eL, hln] at how
            refine ⟨⟨k + 1, g2, c2, len, rfl, by simp, hlr, ⟨?_, ?_, ?_, HRJ.out.bx, HRJ.out.be⟩⟩, by simp [intOf]; omega⟩
            · rw [hlr]; have := HMX.out; omega
            · rw [hlr, hGO]; exact how
            · rw [hGO]
              refine HRJ.out.tb.congr (fun u hu => ?_)
              rw [List.take_length, ← HQ.out]
              show Value.bool _ = .bool _
              rw [seen_nbl hpo2 HSX2.out hu]
    · have hk' : ¬ (k : Int) < m := by omega
      go_wp2_with fail
      go_ret
      obtain ⟨hw, hg⟩ := came_all (E := edl l) (M := 2 * l.length) (S := fun _ => false) hc HR.out.le (by rw [HM.out]; exact hk)
      refine ⟨_, rfl, ?_, HR.out.be⟩
      have := own_base HR.out.ow (base' := p) (by omega)
      rw [HM.out] at this
      unfold whole
      rw [← hg, HM.out]
      exact this
end Go.Proofs.Ytgkpmcpkobphpaa
