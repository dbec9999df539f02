/-
  FlowFewer: the walk.
-/
import Derived.Test.YtcomkdjngchmkaaLawIsCut
namespace Go.Proofs.Ytcomkdjngchmkaa
open Go.RowKit
theorem Ok.edge {N : Int} {l : List A} {s t : Int} {n u v : Nat} (h : Ok N l s t n u v) : ∀ k, k < l.length → ∃ (f t : Nat) (c : Int), (l.getD k A.zero) = ⟨(f : Int), (t : Int), c⟩ ∧ ed (edl l) k = ⟨f, t, c⟩ ∧ f < n ∧ t < n ∧ 0 ≤ c ∧ c < 4294967296 := fun k hk => by
  have hxe := edl_at hk
  have hxp := h.po (l.getD k A.zero) (by simp [List.getD, List.getElem?_eq_getElem hk])
  have hxn := h.g.ends k (by rw [edl_len]; exact hk)
  have hxc := h.g.cap k (by rw [edl_len]; exact hk)
  rw [hxe] at hxn hxc
  refine ⟨(l.getD k A.zero).f.toNat, (l.getD k A.zero).t.toNat, (l.getD k A.zero).w, ?_, hxe, hxn.1, hxn.2, hxc.1, hxc.2⟩
  rw [Int.toNat_of_nonneg hxp.1, Int.toNat_of_nonneg hxp.2]
/-- One node moved. -/
def flip (R : Nat → Bool) (k : Nat) (x : Nat) : Bool := if x = k then !R k else R x
/-- No cut with a node moved is less; none with a node taken out is as small. -/
theorem fewer_math {n : Nat} {E : List Ed} {s t : Nat} {fl rk : Nat → Int} (g : RN n E) (hs : s < n) (hF : Flow n E s t fl) (hR : Rk n E.length E fl 1 s t rk) (ht : rk t = -1) {k : Nat} (hk : k < n) (hks : k ≠ s) (hkt : k ≠ t) :
    net E fl s E.length ≤ capK E (flip (side rk) k) E.length ∧ (side rk k = true → capK E (flip (side rk) k) E.length ≠ net E fl s E.length) := by
  have hE := hR.stop hF rfl ht
  have rs : flip (side rk) k s = true := by unfold flip; rw [if_neg (fun e => hks e.symm)]; exact hE.rs
  have rt : flip (side rk) k t = false := by unfold flip; rw [if_neg (fun e => hkt e.symm)]; exact hE.rt
  refine ⟨hF.le_cut g hs rs rt, fun hk1 he => ?_⟩
  have hfull : Full E fl (flip (side rk) k) E.length := eq_full _ (fun j hj => ⟨hF.lo j hj, hF.hi j hj⟩) (by rw [he]; exact (hF.across g hs rs rt).symm)
  have := hR.inside rfl g.steps rs hfull (rk k).toNat k hk (side_true.1 hk1) (by omega)
  unfold flip at this
  rw [if_pos rfl, hk1] at this
  cases this
theorem flip_tab {rk : Nat → Int} {k : Nat} (x : Nat) : updV (fun v => Value.bool (side rk v)) k (.bool (!side rk k)) x = .bool (flip (side rk) k x) := by
  unfold flip
  by_cases e : x = k
  · subst e; rw [updV_self, if_pos rfl]
  · rw [updV_ne _ _ e, if_neg e]
theorem flip_back {rk : Nat → Int} {k : Nat} (x : Nat) : updV (fun v => Value.bool (flip (side rk) k v)) k (.bool (side rk k)) x = .bool (side rk x) := by
  by_cases e : x = k
  · subst e; rw [updV_self]
  · rw [updV_ne _ _ e]; unfold flip; rw [if_neg e]
set_option maxHeartbeats 3200000 in
set_option maxRecDepth 100000 in
theorem law_fewer (N : Int) (a : Option Addr) (l : List A) (cap : Nat) (s t : Int) (w : World) (sz : l.length * 24 ≤ 140737488351232) (hr : Arcs w a l) (hw : ∀ x, x ∈ l → 0 ≤ x.w ∧ x.w < 4294967296) :
    Calls Try.prog 6 #[.agg #[.int .i64 N, .slice a l.length cap], .int .i64 s, .int .i64 t] w fun e w' => e = .returned (.bool true) ∧ Below w.heap.size w w' := by
  have hb0 : Below w.heap.size w (w.alloc (.cells #[.int .i64 N, .slice a l.length cap] 24)) := (Below.refl _ _).alloc (Nat.le_refl _) _
  have hg := heap_top w (.cells #[.int .i64 N, .slice a l.length cap] 24)
  have hsz : (w.alloc (.cells #[.int .i64 N, .slice a l.length cap] 24)).heap.size = w.heap.size + 1 := by simp
  go_enter Try.func6, Try.ntmps6
  go_wp2_with fail
  generalize w.alloc (.cells #[.int .i64 N, .slice a l.length cap] 24) = W at *
  refine (works_any W).mono ?_
  rintro e w1 ⟨rfl, hb1⟩
  have hbw1 : Below w.heap.size w w1 := hb0.trans (hb1.mono (by omega))
  have hg1 := (hb1.block w.heap.size (by omega)).trans hg
  obtain ⟨⟨g0, g1⟩, gf0, gf1⟩ := two_cells hg1
  clear hb0 hb1 hg hsz
  go_wp2_with fail
  refine (large_any N a l.length cap w1).mono ?_
  rintro e w2 ⟨rfl, hb2⟩
  have hw1 := lt_of_block hg1
  have hbw2 : Below w.heap.size w w2 := hbw1.trans (hb2.mono (by omega))
  have hg2 := (hb2.block w.heap.size hw1).trans hg1
  have hw2 := lt_of_block hg2
  clear g0 g1 gf0 gf1
  obtain ⟨⟨g0, g1⟩, gf0, gf1⟩ := two_cells hg2
  cases hlg : decide (400 < l.length ∧ 60 < N) with
  | true =>
    clear hlg
    go_wp2_with fail
    go_ret
    exact ⟨rfl, hbw2⟩
  | false =>
    clear hlg hb2 hg1
    by_cases hN60 : 60 < N
    · go_wp2_with fail
      go_ret
      exact ⟨rfl, hbw2⟩
    · by_cases hE : flE N l s t = 0
      · obtain ⟨n, u, v, hO⟩ := flE_ok hE hw
        obtain rfl := hO.hn
        obtain rfl := hO.hs
        obtain rfl := hO.ht
        have HO := Lib.hid hO
        have HC := Lib.hid (cut_ok n a l cap w2 u v (hr.on hbw2) hE HO.out)
        clear hO hE
        go_wp2_with fail
        refine HC.out.mono ?_
        rintro e w4 ⟨fl, rk, bs, ve, rfl, hFl, hRk, hrt, hT, hown, hnil, hbs, hb4⟩
        have hRk' : Rk n (edl l).length (edl l) fl 1 u v rk := by rw [edl_len]; exact hRk
        have HFM := Lib.hid (fun k (hk : k < n) (h1 : k ≠ u) (h2 : k ≠ v) => fewer_math HO.out.g HO.out.un hFl hRk' hrt hk h1 h2)
        have hg4 := (hb4.block w.heap.size hw2).trans hg2
        have hbw4 : Below w.heap.size w w4 := hbw2.trans (hb4.mono (by omega))
        have hw4 := lt_of_block hg4
        clear g0 g1 gf0 gf1
        have HG4 := Lib.hid hg4
        have HBS : Hid (w.heap.size < bs) := by show _ < _; omega
        have HTS := Lib.hid hT
        have HBW4 := Lib.hid hbw4
        obtain ⟨V, HV⟩ := named (net (edl l) fl u (edl l).length)
        rw [HV.out] at HFM ⊢
        obtain ⟨b, o, hab⟩ : ∃ b o, 0 < l.length → a = some ⟨b, o, none⟩ ∧ b < w.heap.size ∧ ∀ j, j < l.length → (l.getD j A.zero).at w b (o + j * 3) := by
          rcases hr with rfl | ⟨b, o, h⟩
          · exact ⟨0, 0, fun h => absurd h (by simp)⟩
          · exact ⟨b, o, fun _ => h⟩
        have HAB := Lib.hid hab
        have HXX := Lib.hid HO.out.edge
        have hlen : l.length ≤ 16384 := by have := HO.out.g.lb; rwa [edl_len] at this
        have HCN : Hid (∀ R k, k ≤ l.length → 0 ≤ capK (edl l) R k ∧ capK (edl l) R k ≤ k * 4294967295) := fun R k hk => capK_nonneg HO.out.g R k (by rw [edl_len]; exact hk)
        rw [edl_len] at HFM
        clear hFl hRk hRk' hrt hT hown hnil hbs hb4 hw hbw1 hbw2 hbw4 hg2 hg4 HC hw1 hw2 hab hr hN60
        generalize hml : l.length = m at *
        go_wp2_with fail
        go_loopw [11] (fun i wr => ∃ k : Nat, k ≤ n ∧ i = .int .i64 k ∧ Hid (TbV wr bs n 4 (fun v => .bool (side rk v))) ∧ Hid (Fr (fun j => j = bs) w4 wr)) (fun i _ => n - (intOf i).toNat)
        case atStart => exact ⟨0, Nat.zero_le _, rfl, HTS, Fr.refl _ _⟩
        case round =>
          obtain ⟨k, hk, rfl, HT, HFR⟩ := hrel
          have hgr := (HFR.out.block _ (lt_of_block HG4.out) (Nat.ne_of_lt HBS.out)).trans HG4.out
          obtain ⟨⟨g0, g1⟩, gf0, gf1⟩ := two_cells hgr
          have hkb : k ≤ 1024 := by have := HO.out.g.nb; omega
          by_cases hlt : k < n
          · have hlt' : (k : Int) < n := by omega
            by_cases hku : k = u
            · have e1 : ((k : Int) == (u : Int)) = true := by rw [hku]; simp
              clear hku
              go_wp2_with fail
              exact ⟨⟨k + 1, hlt, by go_num, HT, HFR⟩, by simp [intOf]; omega⟩
            · have e0 : ((k : Int) == (u : Int)) = false := by rw [beq_eq_false_iff_ne]; omega
              by_cases hkv : k = v
              · have e1 : ((k : Int) == (v : Int)) = true := by rw [hkv]; simp
                clear hkv hku
                go_wp2_with fail
                exact ⟨⟨k + 1, hlt, by go_num, HT, HFR⟩, by simp [intOf]; omega⟩
              · have e1 : ((k : Int) == (v : Int)) = false := by rw [beq_eq_false_iff_ne]; omega
                obtain ⟨f1, f2⟩ := HFM.out k hlt hku hkv
                have d := HT.out.cell hlt
                have df := HT.out.free k
                have ht5 := (HT.out.set k (.bool (!side rk k))).congr (fun x _ => flip_tab x)
                have HBK := Lib.hid (fun x : Nat => flip_back (rk := rk) (k := k) x)
                obtain ⟨R2, HR2⟩ := named (flip (side rk) k)
                obtain ⟨wk, HWK⟩ := named (side rk k)
                rw [HWK.out] at d ht5 f2 HBK
                rw [HR2.out] at ht5 f1 f2 HBK
                have HT5 := Lib.hid ht5
                have HF5 : Hid (Fr (fun j => j = bs) w4 (wr.setCell ⟨bs, k, none⟩ (.bool (!wk)))) := HFR.out.setCell ⟨bs, k, none⟩ _ rfl
                have HF1 := Lib.hid f1
                have HF2 := Lib.hid f2
                have hg5 := (HF5.out.block _ (lt_of_block HG4.out) (Nat.ne_of_lt HBS.out)).trans HG4.out
                have HG5 := Lib.hid hg5
                obtain ⟨⟨i0, i1⟩, if0, if1⟩ := two_cells hg5
                clear ht5 f1 f2 hku hkv hgr hg5
                go_wp2_with fail
                have HBW5 : Hid (Below w.heap.size w (wr.setCell ⟨bs, k, none⟩ (.bool (!wk)))) := HBW4.out.trans (HF5.out.below HBW4.out.size (fun k h => by rw [h]; exact Nat.le_of_lt HBS.out))
                clear g0 g1 gf0 gf1 d df HT HFR i0 i1 if0 if1
                generalize wr.setCell ⟨bs, k, none⟩ (.bool (!wk)) = w5 at *
                have hw5 : w.heap.size < w5.heap.size := lt_of_block HG5.out
                go_loopw [64, 13] (fun i sm wx => ∃ j : Nat, j ≤ m ∧ i = .int .i64 j ∧ sm = .int .u64 (capK (edl l) R2 j) ∧ Hid (Below w5.heap.size w5 wx)) (fun i _ _ => m - (intOf i).toNat)
                case atStart => exact ⟨0, Nat.zero_le _, rfl, rfl, Below.refl _ _⟩
                case round =>
                  obtain ⟨j, hj, rfl, rfl, HB⟩ := hrel
                  by_cases hjm : j < m
                  · obtain ⟨rfl, hbl, hat⟩ := HAB.out (by omega)
                    obtain ⟨xf, xt, xc, hx, hxe, hfn, htn, hc0, hc1⟩ := HXX.out j hjm
                    have hat := hat j hjm
                    rw [hx] at hat
                    obtain ⟨x0, x1, x2⟩ := hat.on HBW5.out
                    have xb : b < w5.heap.size := by omega
                    have y0 := (HB.out.cell (p := ⟨b, o + j * 3, none⟩) xb).trans x0
                    have y1 := (HB.out.cell (p := ⟨b, o + j * 3 + 1, none⟩) xb).trans x1
                    have y2 := (HB.out.cell (p := ⟨b, o + j * 3 + 2, none⟩) xb).trans x2
                    simp only at y0 y1 y2
                    have hB5 : Below w5.heap.size w5 (wr.alloc (.cells #[.int .i64 (xf : Int), .int .i64 (xt : Int), .int .u32 xc] 52)) := HB.out.alloc HB.out.size _
                    have d1 := (HT5.out.same (hB5.block bs HT5.out.lt)).cell hfn
                    have d2 := (HT5.out.same (hB5.block bs HT5.out.lt)).cell htn
                    have hfn' : (xf : Int) < n := by omega
                    have htn' : (xt : Int) < n := by omega
                    have hjm' : (j : Int) < m := by omega
                    have HB5 := Lib.hid hB5
                    obtain ⟨c1, c2⟩ := HCN.out R2 j hj
                    have hca : capK (edl l) R2 (j + 1) = capK (edl l) R2 j + (if R2 xf = true ∧ R2 xt = false then xc else 0) := by simp only [capK, hxe]
                    clear x0 x1 x2 hx hxe hat hB5 HB
                    generalize R2 xf = su at *
                    generalize R2 xt = sv at *
                    generalize hCC : capK (edl l) R2 j = cc at *
                    cases su with
                    | true =>
                      cases sv with
                      | false =>
                        rw [if_pos ⟨rfl, rfl⟩] at hca
                        have HCS := Lib.hid hca
                        clear hca
                        go_wp2_with fail
                        exact ⟨⟨j + 1, hjm, by go_num, by rw [HCS.out], HB5⟩, by simp [intOf]; omega⟩
                      | true =>
                        rw [if_neg (by simp)] at hca
                        have HCS := Lib.hid hca
                        clear hca
                        go_wp2_with fail
                        exact ⟨⟨j + 1, hjm, by go_num, by rw [HCS.out, Int.add_zero], HB5⟩, by simp [intOf]; omega⟩
                    | false =>
                      rw [if_neg (by simp)] at hca
                      have HCS := Lib.hid hca
                      clear hca
                      go_wp2_with fail
                      exact ⟨⟨j + 1, hjm, by go_num, by rw [HCS.out, Int.add_zero], HB5⟩, by simp [intOf]; omega⟩
                  · obtain rfl : j = m := by omega
                    have T6 := HT5.out.same (HB.out.block bs HT5.out.lt)
                    have d := T6.cell hlt
                    have df := T6.free k
                    have HT7 := Lib.hid ((T6.set k (.bool wk)).congr (fun x _ => HBK.out x))
                    have HF7 : Hid (Fr (fun j => j = bs) w4 (wr.setCell ⟨bs, k, none⟩ (.bool wk))) := (HF5.out.trans ⟨HB.out.os, HB.out.tape, HB.out.output, HB.out.size, fun k hk _ => HB.out.block k hk⟩).setCell ⟨bs, k, none⟩ _ rfl
                    have hS1 := HF1.out
                    have hS2 := HF2.out
                    generalize hCC : capK (edl l) R2 j = S at *
                    have hS3 : ¬ S < V := by omega
                    generalize R2 k = rr at *
                    clear T6
                    cases wk with
                    | true =>
                      have hS4 : (S == V) = false := by rw [beq_eq_false_iff_ne]; exact hS2 rfl
                      clear hS1 hS2
                      go_wp2_with fail
                      exact ⟨⟨k + 1, hlt, by go_num, HT7, HF7⟩, by simp [intOf]; omega⟩
                    | false =>
                      clear hS1 hS2
                      go_wp2_with fail
                      exact ⟨⟨k + 1, hlt, by go_num, HT7, HF7⟩, by simp [intOf]; omega⟩
          · obtain rfl : k = n := by omega
            go_wp2_with fail
            go_ret
            exact ⟨rfl, HBW4.out.trans (HFR.out.below HBW4.out.size (fun k h => by rw [h]; exact Nat.le_of_lt HBS.out))⟩
      · have HC := Lib.hid (cut_bad N a l cap w2 s t (by omega) (hr.on hbw2) hE)
        generalize flE N l s t = E at *
        have e1 : (E != 0) = true := by simpa using hE
        have e2 : (E == 0) = false := by rw [beq_eq_false_iff_ne]; exact hE
        clear hE
        go_wp2_with fail
        refine HC.out.mono ?_
        rintro e w4 ⟨rfl, hb4⟩
        have hbw4 : Below w.heap.size w w4 := hbw2.trans (hb4.mono (by omega))
        go_wp2_with fail
        go_ret
        exact ⟨rfl, hbw4⟩
end Go.Proofs.Ytcomkdjngchmkaa
