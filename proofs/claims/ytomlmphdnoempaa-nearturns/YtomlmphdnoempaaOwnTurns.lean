/-
  What is from s to t is, turned about, from t to s, and within more vertices nothing lies farther: NearTurns returns true for every graph, every two vertices with arcs and every list of marks, whatever the heap holds. NearTurns returns true.
-/
import Derived.Test.YtomlmphdnoempaaWithinV
import Derived.Test.YtomlmphdnoempaaWks
import Derived.Test.YtomlmphdnoempaaRows
import Derived.Test.YtomlmphdnoempaaGiven2
import Derived.ProofKit
import Derived.OpenShut
import Derived.ChangeOld
import Derived.Below
import Derived.SizedLaws
namespace Go.Proofs.Ytomlmphdnoempaa
open Go.RowKit
theorem turned_turned (l : List A) : turned (turned l) = l := by
  unfold turned
  rw [List.map_map]
  exact List.map_id'' (fun _ => rfl) l
theorem IsT.turn {l : List A} {s t : Nat} {d : Int} (h : IsT (turned l) t s d) : IsT l s t d := by
  refine ⟨h.lo, h.hi, fun e => ?_, fun e w => ?_⟩
  · have := (h.wk e).join (Wk.nil (l := l) (ok := Al) (s := s) rfl)
    rwa [Int.zero_add] at this
  · have := w.back (Wk.nil (l := turned l) (ok := Al) (s := t) rfl)
    rw [Int.add_zero] at this
    exact h.le _ this
theorem Wk.wide {l : List A} {ok : Nat → Bool} {s v : Nat} {d : Int} (h : Wk l ok s v d) : Wk l Al s v d := by
  induction h with
  | nil _ => exact Wk.nil rfl
  | snoc hx _ _ ih => exact Wk.snoc hx ih rfl
theorem IsD.wide {l : List A} {ok : Nat → Bool} {s : Nat} {F G : Nat → Int} (h : IsD l Al s F) (k : IsD l ok s G) (v : Nat) : F v ≤ G v := by
  by_cases e : G v < Inf
  · exact h.le v _ (k.wk v e).wide
  · have := h.hi v; omega
theorem IsD.out {l : List A} {ok : Nat → Bool} {s : Nat} {G : Nat → Int} (k : IsD l ok s G) {v : Nat} (hv : ok v = false) : G v = Inf := by
  by_cases e : G v < Inf
  · have := (k.wk v e).ok
    rw [hv] at this
    cases this
  · have := k.hi v; omega
theorem nearE_or {N : Int} {l : List A} {s : Int} (hc : chkE N l = 0) (h : nearE N l [s] ≠ 0) : nearE N l [s] = 5 := by
  unfold nearE at *
  rw [if_pos hc] at *
  split at h
  · exact absurd rfl h
  · rename_i e; rw [if_neg e]
theorem nearE_pair {N : Int} {l : List A} {s t : Int} (h : nearE N l [s] = 0) (ht : okV N t = true) : nearE N l [t, s] = 0 := by
  have hc := nearE_chk h
  unfold nearE at *
  rw [if_pos hc] at *
  by_cases e : okV N s = true
  · simp [e, ht]
  · simp [e] at h
theorem turned_wt {l : List A} (h : ∀ x ∈ l, 0 ≤ x.w ∧ x.w < 4294967296) : ∀ x ∈ turned l, 0 ≤ x.w ∧ x.w < 4294967296 := fun x hx => (show 0 ≤ x.turn.w ∧ x.turn.w < 4294967296 from h _ (mem_turn hx))
set_option maxHeartbeats 6400000 in
set_option maxRecDepth 100000 in
theorem law_turns (N : Int) (a : Option Addr) (l : List A) (cap : Nat) (s t : Int) (xa : Option Addr) (xn xc : Nat) (ai : Option Addr) (q : List Bool) (capi : Nat) (w : World) (hlen : l.length * 24 ≤ 140737488351232) (hn : a = none → l = [] ∧ cap = 0) (hr : Arcs w a l) (hw : ∀ x ∈ l, 0 ≤ x.w ∧ x.w < 4294967296) (hql : q.length ≤ 140737488351232) (hq : Bools (· < w.heap.size) w ai q) :
    Calls Try.prog 8 #[.agg #[.int .i64 N, .slice a l.length cap], .agg #[.int .i64 s, .int .i64 t, .slice xa xn xc], .slice ai q.length capi] w fun e w' => e = .returned (.bool true) ∧ Below w.heap.size w w' := by
  have hl : l.length ≤ 9223372036854775807 := by omega
  have hb0 : Below w.heap.size w ((w.alloc (.cells #[.int .i64 N, .slice a l.length cap] 24)).alloc (.cells #[.int .i64 s, .int .i64 t, .slice xa xn xc] 50)) := ((Below.refl _ _).alloc (Nat.le_refl _) _).alloc (by simp) _
  have hg : ((w.alloc (.cells #[.int .i64 N, .slice a l.length cap] 24)).alloc (.cells #[.int .i64 s, .int .i64 t, .slice xa xn xc] 50)).heap[w.heap.size]? = some (.cells #[.int .i64 N, .slice a l.length cap] 24) := (Below.heap_alloc _ _ _ (by simp)).trans (heap_top w _)
  have hx := three_cells (heap_top_at (w.alloc (.cells #[.int .i64 N, .slice a l.length cap] 24)) (.cells #[.int .i64 s, .int .i64 t, .slice xa xn xc] 50) (w.heap.size + 1) (by simp))
  have HR := Lib.hid hr
  have HW := Lib.hid hw
  have HNN := Lib.hid hn
  have HQ := Lib.hid hq
  clear hr hw hn hq
  go_enter Try.func8, Try.ntmps8
  go_wp2_with fail
  generalize (w.alloc (.cells #[.int .i64 N, .slice a l.length cap] 24)).alloc (.cells #[.int .i64 s, .int .i64 t, .slice xa xn xc] 50) = W at *
  obtain ⟨x0, x1, x2⟩ := hx
  go_quiet (fail)
  have hg0 : (W.drewN nq).heap[w.heap.size]? = some (.cells #[.int .i64 N, .slice a l.length cap] 24) := hg
  have b0 : Below w.heap.size w (W.drewN nq) := hb0.trans (below_drewN _ _ _)
  clear x0 x1 x2 hg hb0
  generalize W.drewN nq = V at *
  have HWK := Lib.hid (works_any V)
  go_wp2_with fail
  refine HWK.out.mono ?_
  rintro e w1 ⟨rfl, hb1⟩
  have b1 : Below w.heap.size w w1 := b0.trans (hb1.mono b0.size)
  have hg1 := (hb1.block _ (lt_of_block hg0)).trans hg0
  obtain ⟨⟨g0, g1⟩, -⟩ := two_cells hg1
  clear hg0 b0 hb1 HWK
  have HRV := Lib.hid (reverse_any N a l cap w1 hlen HNN.out (HR.out.on b1))
  by_cases hE : chkE N l = 0
  · rw [if_pos hE, if_pos hE, hE] at HRV
    have HCE := Lib.hid hE
    clear hE
    go_wp2_with fail
    refine HRV.out.mono ?_
    rintro e w2 ⟨a', c', rfl, ho, hnil, hb2⟩
    have b2 := b1.trans (hb2.mono b1.size)
    have hg2 := (hb2.block _ (lt_of_block hg1)).trans hg1
    have bW : Below w2.heap.size w2 (w2.alloc (.cells #[.int .i64 N, .slice a' (turned l).length c'] 24)) := (Below.refl _ _).alloc (Nat.le_refl _) _
    have hh := heap_top w2 (.cells #[.int .i64 N, .slice a' (turned l).length c'] 24)
    have hg3 := (bW.block _ (lt_of_block hg2)).trans hg2
    have b3 := b2.trans (bW.mono b2.size)
    have HTA := Lib.hid (ho.arcs.on bW)
    have HNI := Lib.hid hnil
    have sne : w.heap.size ≠ w2.heap.size := by have := lt_of_block hg2; omega
    have sne' := sne.symm
    obtain ⟨⟨k0, k1⟩, -⟩ := two_cells hg2
    clear g0 g1 hg1 HRV ho hnil b1 hb2
    obtain ⟨⟨k2, k3⟩, -⟩ := two_cells hg3
    go_wp2_with fail
    generalize w2.alloc (.cells #[.int .i64 N, .slice a' (turned l).length c'] 24) = W2 at *
    generalize hhb : w2.heap.size = hb at *
    have HHL := Lib.hid (lt_of_block hh)
    have HWL := Lib.hid (lt_of_block hg3)
    clear k0 k1 k2 k3 bW hhb hg2 b2 sne sne'
    have hlt : (turned l).length * 24 ≤ 140737488351232 := by rw [turned_len]; exact hlen
    have hl' : (turned l).length ≤ 9223372036854775807 := by omega
    -- near.From
    have HC := Lib.hid (from_v N a l cap s W2 hl HW.out (HR.out.on b3))
    have HTO := Lib.hid (fun (w' : World) (hb : Below W2.heap.size W2 w') => to_v N a' (turned l) c' s w' hlt HNI.out (turned_wt HW.out) (HTA.out.on hb))
    have HOR := Lib.hid (fun h => nearE_or (s := s) HCE.out h)
    have HNZ := Lib.hid (fun h => near_one (N := N) (l := l) (s := s) h HW.out)
    have HPR := Lib.hid (fun t h ht => nearE_pair (N := N) (l := l) (s := s) (t := t) h ht)
    have HWE : Hid (nearE N l [s] = 0 → wE N l s q.length = if (q.length : Int) = N then 0 else 4) := fun h => by unfold wE; rw [if_pos h]
    rw [turned_turned, turned_nearE HCE.out] at HTO
    obtain ⟨E1, HE1⟩ := named (nearE N l [s])
    rw [HE1.out] at HC HTO HOR HNZ HPR HWE
    refine HC.out.mono ?_
    rintro e w4 ⟨v1, rfl, dv1, hb4⟩
    clear HC
    have hh4 := (hb4.block _ (lt_of_block hh)).trans hh
    have hg4 := (hb4.block _ (lt_of_block hg3)).trans hg3
    have b4 := b3.trans (hb4.mono b3.size)
    have z4 := hb4.size
    have bb4 := hb4
    clear hh hg3 hb4
    -- near.To
    obtain ⟨⟨h0, h1⟩, -⟩ := two_cells hh4
    have HC := Lib.hid (HTO.out w4 bb4)
    go_wp2_with fail
    refine HC.out.mono ?_
    rintro e w5 ⟨v2, rfl, dv2, hb5⟩
    clear h0 h1 HC
    have hh5 := (hb5.block _ (lt_of_block hh4)).trans hh4
    have hg5 := (hb5.block _ (lt_of_block hg4)).trans hg4
    have b5 := b4.trans (hb5.mono b4.size)
    have bb5 := bb4.trans (hb5.mono bb4.size)
    have dv1 := dv1.on hb5
    clear hh4 hg4 hb5
    have HC := Lib.hid (same_v dv1 dv2)
    go_wp2_with fail
    refine HC.out.mono ?_
    rintro e w6 ⟨rfl, hb6⟩
    have hh6 := (hb6.block _ (lt_of_block hh5)).trans hh5
    have hg6 := (hb6.block _ (lt_of_block hg5)).trans hg5
    have b6 := b5.trans (hb6.mono b5.size)
    have bb6 := bb5.trans (hb6.mono bb5.size)
    have dv1 := dv1.on hb6
    clear hh5 hg5 hb6 HC dv2 HTO bb4 bb5 b4 b5
    by_cases hE1 : E1 = 0
    · subst hE1
      rcases dv1 with ⟨h', _⟩ | ⟨_, n, s', bf, F, h1, h2, h3, h4, rfl, tf, hisd, _, _⟩
      · exact absurd rfl h'
      subst h1 h2
      have HD := Lib.hid hisd
      obtain ⟨⟨g0, g1⟩, -⟩ := two_cells hg6
      clear hisd
      have hthree : (t < 0 ∨ (n : Int) ≤ t) ∨ ∃ t' : Nat, t = t' ∧ t' < n := by
        by_cases e1 : t < 0
        · exact Or.inl (Or.inl e1)
        · by_cases e2 : (n : Int) ≤ t
          · exact Or.inl (Or.inr e2)
          · exact Or.inr ⟨t.toNat, by omega, by omega⟩
      have hgq := hg6
      have bq := b6
      have tfq := tf
      have HBT := Lib.hid (fun (t' : Nat) (ht' : t' < n) => between_v n a' (turned l) c' (t' : Int) (s' : Int) w6 hl' HNI.out (turned_wt HW.out) (HTA.out.on bb6))
      have HZR := Lib.hid (fun (t' : Nat) (ht' : t' < n) => (turned_nearE (xs := [(t' : Int), (s' : Int)]) HCE.out).trans (HPR.out (t' : Int) rfl (by simp [okV]; omega)))
      clear hg6 b6 tf
      rcases hthree with (ht | ht) | ⟨t', rfl, ht'⟩
      all_goals
        first
        | (have hsimple := ht
           clear hsimple HBT HZR bb6 hh6
           go_wp2_with fail
           generalize w6 = wq at *)
        | (have HC := Lib.hid (HBT.out t' ht')
           rw [HZR.out t' ht'] at HC
           obtain ⟨⟨h0, h1⟩, -⟩ := two_cells hh6
           have htn : (t' : Int) < n := by omega
           clear HBT HZR bb6 hh6
           go_wp2_with fail
           refine HC.out.mono ?_
           rintro e w7 ⟨d, rfl, hdt, hb7⟩
           have hdf : d = F t' := by
             rcases hdt with ⟨h', _⟩ | ⟨_, n2, t2, s2, e0, e1, e2, _, _, _, hit⟩
             · exact absurd rfl h'
             · obtain rfl : t' = t2 := by omega
               obtain rfl : s' = s2 := by omega
               exact hit.turn.unique (HD.out.at t')
           subst hdf
           have hgq2 := (hb7.block _ (lt_of_block hgq)).trans hgq
           have bq2 := bq.trans (hb7.mono bq.size)
           have tfq2 := tfq.same (hb7.block _ tfq.lt)
           have ct := tfq2.cell ht'
           clear g0 g1 h0 h1 hgq bq tfq HC hdt hb7
           have hgq := hgq2
           have bq := bq2
           have tfq := tfq2
           clear hgq2 bq2 tfq2
           obtain ⟨⟨g0, g1⟩, -⟩ := two_cells hgq
           go_wp2_with fail
           clear ct
           generalize w7 = wq at *)
      all_goals
        have HC := Lib.hid (within_v n a l cap (s' : Int) ai q capi wq hl HW.out (HR.out.on bq) (HQ.out.imp (fun _ h => Nat.lt_of_lt_of_le h bq.size) (fun b h => bq.block b h)))
        have HQQ := Lib.hid ((HQ.out.imp (P := (· < w.heap.size)) (Q := (· < wq.heap.size)) (w' := wq) (fun _ h => Nat.lt_of_lt_of_le h bq.size) (fun b h => bq.block b h)))
        rw [HWE.out (by first | trivial | rfl)] at HC
        have z1 := tfq.lt
        by_cases hqn : (q.length : Int) = n
        · rw [if_pos hqn] at HC
          obtain rfl : q.length = n := by omega
          refine HC.out.mono ?_
          rintro e w8 ⟨v3, rfl, dv3, hb8⟩
          rcases dv3 with ⟨h', _⟩ | ⟨_, n2, s2, bg, G, h1, h2, _, _, rfl, tg8, hisg, _, _⟩
          · exact absurd rfl h'
          obtain rfl : q.length = n2 := by omega
          obtain rfl : s' = s2 := by omega
          have TF8 := Lib.hid (tfq.same (hb8.block _ z1))
          have TG8 := Lib.hid tg8
          have HMK := Lib.hid ((bools_mks HQQ.out (by omega)).on hb8)
          have HLE := Lib.hid (fun v => HD.out.wide hisg v)
          have HOU := Lib.hid (fun v h => hisg.out (v := v) h)
          have b8 := bq.trans (hb8.mono bq.size)
          clear HC g0 g1 hb8 tg8 hisg hgq bq tfq
          obtain ⟨bi, oi, hai, hbi, hmk⟩ := HMK.out
          subst hai
          have HMV := Lib.hid hmk
          clear hmk
          go_wp2_with fail
          go_loopw [106] (fun i wr => ∃ k m : Nat, k ≤ q.length ∧ i = .int .i64 k ∧ wr = w8.drewN m) (fun i _ => q.length - (intOf i).toNat)
          case atStart => exact ⟨0, 0, Nat.zero_le _, rfl, rfl⟩
          case round =>
            obtain ⟨k, m, hk, rfl, rfl⟩ := hrel
            by_cases hkl : k < q.length
            · have hkl' : (k : Int) < q.length := by omega
              have c0 := TF8.out.cell hkl
              have c1 := TG8.out.cell hkl
              have c2 := HMV.out k hkl
              have hge := HLE.out k
              have hou := Lib.hid (HOU.out k)
              generalize F k = fv at *
              generalize G k = gv at *
              have hnl : ¬ gv < fv := by omega
              have hnd : decide (gv < fv) = false := by simpa using hnl
              cases hmq : mk q k with
              | false =>
                rw [hmq] at c2
                have hgi : (gv != 18446744073709551615) = false := by
                  have := hou.out hmq
                  unfold Inf at this
                  simp [this]
                clear hou hmq
                go_wp2_with fail
                go_quiet (fail)
                go_wp2_with fail
                exact ⟨⟨k + 1, _, by omega, by go_num, rfl⟩, by simp [intOf]; omega⟩
              | true =>
                rw [hmq] at c2
                clear hou hmq
                go_wp2_with fail
                go_quiet (fail)
                go_wp2_with fail
                exact ⟨⟨k + 1, _, by omega, by go_num, rfl⟩, by simp [intOf]; omega⟩
            · have hkl' : ¬ (k : Int) < q.length := by omega
              go_wp2_with fail
              go_ret
              exact ⟨rfl, b8.trans (below_drewN _ _ _)⟩
        · rw [if_neg hqn] at HC
          refine HC.out.mono ?_
          rintro e w8 ⟨v3, rfl, _, hb8⟩
          clear HC g0 g1
          go_wp2_with fail
          go_ret
          exact ⟨by simp, bq.trans (hb8.mono bq.size)⟩
    · have hE2 : (E1 == 0) = false := beq_eq_false_iff_ne.2 hE1
      obtain rfl := HOR.out hE1
      go_wp2_with fail
      go_ret
      exact ⟨by simp, b6⟩
  · rw [if_neg hE, if_neg hE] at HRV
    have HE1 : Hid (nearE N l [s] = chkE N l) := by show _ = _; unfold nearE; rw [if_neg hE]
    have hE' : (chkE N l == 0) = false := beq_eq_false_iff_ne.2 hE
    have HFV := Lib.hid (fun (w' : World) (hb : Below w.heap.size w w') => from_v N a l cap s w' hl HW.out (HR.out.on hb))
    rw [HE1.out] at HFV
    generalize chkE N l = E at *
    clear hE
    go_wp2_with fail
    refine HRV.out.mono ?_
    rintro e w2 ⟨a', c', rfl, ho, hnil, hb2⟩
    have b2 := b1.trans (hb2.mono b1.size)
    have hg2 := (hb2.block _ (lt_of_block hg1)).trans hg1
    have bW : Below w2.heap.size w2 (w2.alloc (.cells #[.int .i64 0, .slice a' 0 c'] 24)) := (Below.refl _ _).alloc (Nat.le_refl _) _
    have hg3 := (bW.block _ (lt_of_block hg2)).trans hg2
    have b3 := b2.trans (bW.mono b2.size)
    have HC := Lib.hid (HFV.out _ b3)
    obtain ⟨⟨k2, k3⟩, -⟩ := two_cells hg3
    clear g0 g1 hg1 HRV ho hnil b1 hb2
    go_wp2_with fail
    refine HC.out.mono ?_
    rintro e w4 ⟨v, rfl, _, hb4⟩
    go_wp2_with fail
    go_ret
    exact ⟨by simp, b3.trans (hb4.mono b3.size)⟩
end Go.Proofs.Ytomlmphdnoempaa
namespace Go.Proofs.Ytomlmphdnoempaa.turns
open Go.ChangeShapes Go.WideShapes Go.ChangeAt Go.RowKit
theorem own : ownKnob Try.prog.godebug = none := by kernel_rfl
theorem laidOut : laidOutB Try.prog = true := by kernel_rfl
set_option maxRecDepth 100000 in
theorem lifted (os : Os) (started : os.Started) (H : Type) (enc : TypeId × Value → H) :
    ReturnsInHanded {} Try.checked os 8 .any (Rows.nearTurnsSpec.pre6 enc Try.prog Try.f8 Rows.nearTurnsRow.domain false) (Rows.nearTurnsSpec.post enc Try.prog Try.f8 false true false false) := by
  refine returnsInHanded_of_change_sized (C := Try.checked) own started (by kernel_rfl) Try.func8
    (ChangeSpec.witness6 (enc := enc) (C := Try.checked) false ⟨#[], #[.agg #[.int .i64 0, .slice none 0 0], .agg #[.int .i64 0, .int .i64 0, .slice none 0 0], .slice none 0 0], []⟩ 8 (by kernel_rfl) (by kernel_rfl) (by kernel_rfl) (by kernel_rfl)) ?_
  intro W base args ds gs before hval0 hW _ hsz0 _
  have hval : ∀ (j : Nat) t v, Try.f8.params[j]? = some t → args[j]? = some v → Value.okWide Try.prog W .any base t v := hval0
  have hW' := hW
  obtain ⟨p, q, hA0, hV, rfl, _, _⟩ := hW
  have hA : DataW.TrodAll enc Try.prog W 0 (fun _ => true) true Try.f8.params.toList args.toList ds p := hA0
  have hsz : (DataW.weightsEach Try.prog (Try.f8.params.toList ++ Rows.nearTurnsSpec.plain.varTypes Try.prog) (ds ++ gs)).all (· ≤ reachBytes) = true := hsz0
  rw [Try.params8] at hA hval hsz
  obtain ⟨v0, vs0, d0, ds0, p0, q0, hargs, rfl, rfl, h0, r0⟩ := trodAll_cons hA
  obtain ⟨v1, vs1, d1, ds1, p1, q1, rfl, rfl, rfl, h1, r1⟩ := trodAll_cons r0
  obtain ⟨v2, vs2, d2, ds2, p2, q2, rfl, rfl, rfl, h2, r2⟩ := trodAll_cons r1
  obtain ⟨rfl, rfl, rfl⟩ := trodAll_nil r2
  obtain rfl : args = #[v0, v1, v2] := by cases args; simp_all
  obtain ⟨rfl, rfl⟩ := trodVars_none hV
  have lt0 : ∀ x ∈ p0, x.block < W.heap.size := by obtain ⟨m, hm⟩ := h0; exact DataW.trod_lt m _ _ _ hm
  obtain ⟨N0, a0, cap0, l0, w0⟩ := graph_in (hval 0 24 v0 rfl rfl) h0 hsz (j := 0) rfl rfl
  have lt1 : ∀ x ∈ p1, x.block < W.heap.size := by obtain ⟨m, hm⟩ := h1; exact DataW.trod_lt m _ _ _ hm
  obtain ⟨s1, t1, a1, cap1, l1, w1⟩ := x_in (hval 1 50 v1 rfl rfl) h1 hsz (j := 1) rfl rfl
  have lt2 : ∀ x ∈ p2, x.block < W.heap.size := by obtain ⟨m, hm⟩ := h2; exact DataW.trod_lt m _ _ _ hm
  obtain ⟨a2, cap2, l2, w2⟩ := bools_in (hval 2 40 v2 rfl rfl) h2 hsz (j := 2) rfl rfl
  clear hA0 hval0
  obtain ⟨rfl, ar0, n0, sz0, wt0⟩ := w0
  obtain ⟨rfl, ar1, nn1, sz1⟩ := w1
  obtain ⟨rfl, ar2, nn2, sz2⟩ := w2
  refine (law_turns N0 a0 l0 cap0 s1 t1 a1 l1.length cap1 a2 l2 cap2 W sz0 n0 ar0 wt0 sz2 ar2).mono fun e W' ⟨he, hb⟩ => ?_
  subst he
  exact ⟨_, rfl, _, _, _, [], _, [], hW', trodAll_mk1 (shut_bool Try.underlying4 _), (trodAll_cons_mk (Below.trod laidOut (by kernel_rfl) (of_decide_eq_true (by kernel_rfl)) h0 hb lt0) (trodAll_cons_mk (Below.trod laidOut (by kernel_rfl) (of_decide_eq_true (by kernel_rfl)) h1 hb lt1) (trodAll_cons_mk (Below.trod laidOut (by kernel_rfl) (of_decide_eq_true (by kernel_rfl)) h2 hb lt2) trodAll_mk0))), rfl, hb.frame _, fun h => by cases h⟩
theorem row_holds : Rows.NearTurnsSaid :=
  OpenClaim.holds_of_wide 8 Try.f8 rfl rfl rfl rfl rfl rfl rfl ⟨rfl, rfl, rfl, rfl, rfl⟩ rfl rfl rfl rfl rfl (by kernel_rfl) Try.func8 (by kernel_rfl)
    (of_decide_eq_true (by kernel_rfl)) (by unfold Func.isWrapper; first | (rw [if_pos (by decide +kernel)]; kernel_rfl) | (rw [if_neg (by decide +kernel)]; exact ⟨rfl, rfl⟩))
    (fun os started H enc _ => lifted os started H enc)
end Go.Proofs.Ytomlmphdnoempaa.turns
namespace Go.Proofs.Ytomlmphdnoempaa
theorem nearTurns_holds : Rows.NearTurnsSaid := turns.row_holds
#print axioms nearTurns_holds
end Go.Proofs.Ytomlmphdnoempaa
