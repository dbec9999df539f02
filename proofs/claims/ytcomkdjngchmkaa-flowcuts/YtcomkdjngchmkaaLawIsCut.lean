/-
  FlowIsCut: the walk.
-/
import Derived.Test.YtcomkdjngchmkaaWorks
namespace Go.Proofs.Ytcomkdjngchmkaa
open Go.RowKit
theorem hits_more (q : Nat → Bool) (k : Nat) : ∀ m, k ≤ m → ∃ r, hits q m = hits q k ++ r := by
  intro m
  induction m with
  | zero =>
    intro h
    have hk : k = 0 := by omega
    exact ⟨[], by rw [hk]; simp⟩
  | succ m ih =>
    intro h
    by_cases e : k = m + 1
    · subst e; exact ⟨[], by simp⟩
    · obtain ⟨r, hr⟩ := ih (by omega)
      cases hq : q m with
      | true => exact ⟨r ++ [(m : Int)], by rw [hits_t hq, hr]; simp⟩
      | false => exact ⟨r, by rw [hits_f hq, hr]⟩
theorem hits_at {q : Nat → Bool} {k m : Nat} (hk : k < m) (hq : q k = true) : (hits q k).length < (hits q m).length ∧ (hits q m).getD (hits q k).length 0 = (k : Int) := by
  obtain ⟨r, hr⟩ := hits_more q (k + 1) m (by omega)
  rw [hits_t hq] at hr
  rw [hr]
  constructor
  · simp
  · simp [List.getD]
theorem capK_nonneg {n : Nat} {E : List Ed} (g : RN n E) (R : Nat → Bool) : ∀ k, k ≤ E.length → 0 ≤ capK E R k ∧ capK E R k ≤ k * 4294967295
  | 0, _ => ⟨Int.le_refl _, by simp [capK]⟩
  | k + 1, h => by
    have h1 := capK_nonneg g R k (by omega)
    have h2 := g.cap k (by omega)
    simp only [capK]
    split <;> omega
theorem own_cell {w : World} {base : Nat} {a : Option Addr} {n cap : Nat} {ys : List Int} (h : w.ownsRow base 3 1 (.slice a n cap) n (cellsI ys)) (hl : ys.length = n) {j : Nat} (hj : j < n) : ∃ g, a = some ⟨g, 0, none⟩ ∧ g < w.heap.size ∧ base ≤ g ∧ w.cell? ⟨g, j, none⟩ = some (.int .i64 (ys.getD j 0)) := by
  rcases h.2 with ⟨h1, h2⟩ | ⟨g, c, cur, h1, h2, h3, _⟩
  · omega
  · injection h1 with ha hb hc
    subst ha
    have := World.ownsRow.cellAt h j (by omega)
    refine ⟨g, rfl, lt_of_block h3, h2, ?_⟩
    rw [cellsI_getD ys j (by omega)] at this
    exact this
set_option maxHeartbeats 3200000 in
set_option maxRecDepth 100000 in
theorem law_iscut (N : Int) (a : Option Addr) (l : List A) (cap : Nat) (s t : Int) (w : World) (sz : l.length * 24 ≤ 140737488351232) (hr : Arcs w a l) (hw : ∀ x, x ∈ l → 0 ≤ x.w ∧ x.w < 4294967296) :
    Calls Try.prog 5 #[.agg #[.int .i64 N, .slice a l.length cap], .int .i64 s, .int .i64 t] w fun e w' => e = .returned (.bool true) ∧ Below w.heap.size w w' := by
  have hb0 : Below w.heap.size w (w.alloc (.cells #[.int .i64 N, .slice a l.length cap] 24)) := (Below.refl _ _).alloc (Nat.le_refl _) _
  have hg := heap_top w (.cells #[.int .i64 N, .slice a l.length cap] 24)
  have hsz : (w.alloc (.cells #[.int .i64 N, .slice a l.length cap] 24)).heap.size = w.heap.size + 1 := by simp
  have HAR := Lib.hid hr
  go_enter Try.func5, Try.ntmps5
  go_wp2_with fail
  generalize w.alloc (.cells #[.int .i64 N, .slice a l.length cap] 24) = W at *
  refine (works_any W).mono ?_
  rintro e w1 ⟨rfl, hb1⟩
  have hbw1 : Below w.heap.size w w1 := hb0.trans (hb1.mono (by omega))
  have hg1 := (hb1.block w.heap.size (by omega)).trans hg
  obtain ⟨⟨g0, g1⟩, gf0, gf1⟩ := two_cells hg1
  clear hb0 hb1 hg hsz
  go_wp2_with fail
  refine (large_any N a l.length cap w1).mono ?_
  rintro e w2 ⟨rfl, hb2⟩
  have hw1 := lt_of_block hg1
  have hbw2 : Below w.heap.size w w2 := hbw1.trans (hb2.mono (by omega))
  have hg2 := (hb2.block w.heap.size hw1).trans hg1
  have hw2 := lt_of_block hg2
  clear g0 g1 gf0 gf1
  obtain ⟨⟨g0, g1⟩, gf0, gf1⟩ := two_cells hg2
  cases hlg : decide (400 < l.length ∧ 60 < N) with
  | true =>
    clear hlg
    go_wp2_with fail
    go_ret
    exact ⟨rfl, hbw2⟩
  | false =>
    clear hlg hb2 hg1
    have HBW2 := Lib.hid hbw2
    by_cases hE : flE N l s t = 0
    · obtain ⟨n, u, v, hO⟩ := flE_ok hE hw
      obtain rfl := hO.hn
      obtain rfl := hO.hs
      obtain rfl := hO.ht
      have HO := Lib.hid hO
      have HM := Lib.hid (max_ok n a l cap w2 u v (hr.on hbw2) hE hO)
      clear hO
      go_wp2_with fail
      refine HM.out.mono ?_
      rintro e w3 ⟨fl, rk, bf, rfl, hFl, hRk, hrt, hT, hbf, hb3⟩
      have hg3 := (hb3.block w.heap.size hw2).trans hg2
      have hbw3 : Below w.heap.size w w3 := hbw2.trans (hb3.mono (by omega))
      have hw3 := lt_of_block hg3
      have HC := Lib.hid (cut_ok n a l cap w3 u v (hr.on hbw3) hE HO.out)
      have HE1 := Lib.hid (hRk.stop hFl (edl_len l) hrt)
      have HT := Lib.hid hT
      clear g0 g1 gf0 gf1
      obtain ⟨⟨g0, g1⟩, gf0, gf1⟩ := two_cells hg3
      obtain ⟨V, HV⟩ := named (net (edl l) fl u (edl l).length)
      rw [HV.out]
      clear hFl hRk hrt hT
      go_wp2_with fail
      refine HC.out.mono ?_
      rintro e w4 ⟨fl2, rk2, bs, ve, rfl, hFl, hRk, hrt, hT, hown, hnil, hbs, hb4⟩
      have hE2 := hRk.stop hFl (edl_len l) hrt
      have hsame := HE1.out.same hE2 HO.out.g HO.out.un
      rw [show net (edl l) fl2 u (edl l).length = V from hsame.1.symm.trans HV.out]
      have HCAP := Lib.hid ((hE2.value HO.out.g HO.out.un).symm.trans (hsame.1.symm.trans HV.out))
      have HFULL := Lib.hid hsame.2
      have hg4 := (hb4.block w.heap.size hw3).trans hg3
      have hbw4 : Below w.heap.size w w4 := hbw3.trans (hb4.mono (by omega))
      have hw4 := lt_of_block hg4
      have s1 := hT.cell HO.out.un
      have s2 := hT.cell HO.out.vn
      rw [hE2.rs] at s1
      rw [hE2.rt] at s2
      clear g0 g1 gf0 gf1
      obtain ⟨⟨g0, g1⟩, gf0, gf1⟩ := two_cells hg4
      have hT3 := HT.out.same (hb4.block bf HT.out.lt)
      have HTF := Lib.hid hT3
      have HTS := Lib.hid hT
      have HOW := Lib.hid hown
      have HBW4 := Lib.hid hbw4
      obtain ⟨av, cv, hve⟩ := own_slice hown
      subst hve
      have hun : (u : Int) < n := by have := HO.out.un; omega
      have hvn : (v : Int) < n := by have := HO.out.vn; omega
      have hV1 : (V == V) = true := by simp
      have hV2 : (V != V) = false := by simp
      have hm1 : ((l.length : Int) != l.length) = false := by simp
      have hn1 : ((n : Int) != n) = false := by simp
      have hlen : l.length ≤ 16384 := by have := HO.out.g.lb; rwa [edl_len] at this
      have HQL := Lib.hid (hits_len (outQ (edl l) (side rk2)) l.length)
      rw [edl_len] at HCAP HFULL
      obtain ⟨q, HQ⟩ := named (outQ (edl l) (side rk2))
      rw [HQ.out] at HOW HQL ⊢
      obtain ⟨M, HML⟩ := named (hits q l.length).length
      rw [HML.out] at HOW HQL ⊢
      have hM : M ≤ 16384 := by have := HQL.out; omega
      clear hFl hRk hrt hT hown hnil hbs hb4 hE2 hsame hT3 hE hw hbw1 hbw2 hbw3 hbw4 hb3 hg2 hg3 HM HC HE1 HT HBW2 HV HAR hw1 hw2 hw3 hbf
      go_wp2_with fail
      clear s1 s2 g0 g1 gf0 gf1
      obtain ⟨b, o, hab⟩ : ∃ b o, 0 < l.length → a = some ⟨b, o, none⟩ ∧ b < w.heap.size ∧ ∀ j, j < l.length → (l.getD j A.zero).at w b (o + j * 3) := by
        rcases hr with rfl | ⟨b, o, h⟩
        · exact ⟨0, 0, fun h => absurd h (by simp)⟩
        · exact ⟨b, o, fun _ => h⟩
      have HAB := Lib.hid hab
      have HXX : Hid (∀ k, k < l.length → ∃ (f t : Nat) (c : Int), (l.getD k A.zero) = ⟨(f : Int), (t : Int), c⟩ ∧ ed (edl l) k = ⟨f, t, c⟩ ∧ f < n ∧ t < n ∧ 0 ≤ c ∧ c < 4294967296) := fun k hk => by
        have hxe := edl_at hk
        have hxp := HO.out.po (l.getD k A.zero) (by simp [List.getD, List.getElem?_eq_getElem hk])
        have hxn := HO.out.g.ends k (by rw [edl_len]; exact hk)
        have hxc := HO.out.g.cap k (by rw [edl_len]; exact hk)
        rw [hxe] at hxn hxc
        refine ⟨(l.getD k A.zero).f.toNat, (l.getD k A.zero).t.toNat, (l.getD k A.zero).w, ?_, hxe, hxn.1, hxn.2, hxc.1, hxc.2⟩
        rw [Int.toNat_of_nonneg hxp.1, Int.toNat_of_nonneg hxp.2]
      clear hab hr
      have HCN : Hid (∀ k, k ≤ l.length → 0 ≤ capK (edl l) (side rk2) k ∧ capK (edl l) (side rk2) k ≤ k * 4294967295) := fun k hk => capK_nonneg HO.out.g (side rk2) k (by rw [edl_len]; exact hk)
      generalize hml : l.length = m at *
      go_loopw [101, 14, 15] (fun i sm at' wr => ∃ k : Nat, k ≤ m ∧ i = .int .i64 k ∧ sm = .int .u64 (capK (edl l) (side rk2) k) ∧ at' = .int .i64 (hits q k).length ∧ Hid (Below w4.heap.size w4 wr)) (fun i _ _ _ => m - (intOf i).toNat)
      case atStart => exact ⟨0, Nat.zero_le _, rfl, rfl, rfl, Below.refl _ _⟩
      case round =>
        obtain ⟨k, hk, rfl, rfl, rfl, HB⟩ := hrel
        by_cases hlt : k < m
        · obtain ⟨rfl, hbl, hat⟩ := HAB.out (by omega)
          obtain ⟨xf, xt, xc, hx, hxe, hfn, htn, hc0, hc1⟩ := HXX.out k hlt
          have hat := hat k hlt
          rw [hx] at hat
          obtain ⟨x0, x1, x2⟩ := hat.on HBW4.out
          have xb : b < w4.heap.size := by omega
          have y0 := (HB.out.cell (p := ⟨b, o + k * 3, none⟩) xb).trans x0
          have y1 := (HB.out.cell (p := ⟨b, o + k * 3 + 1, none⟩) xb).trans x1
          have y2 := (HB.out.cell (p := ⟨b, o + k * 3 + 2, none⟩) xb).trans x2
          simp only at y0 y1 y2
          have hqk : q k = (side rk2 xf && !side rk2 xt) := by rw [← HQ.out]; unfold outQ; rw [hxe]
          have hB5 : Below w4.heap.size w4 (wr.alloc (.cells #[.int .i64 (xf : Int), .int .i64 (xt : Int), .int .u32 xc] 52)) := HB.out.alloc HB.out.size _
          have d1 := (HTS.out.same (hB5.block bs HTS.out.lt)).cell hfn
          have d2 := (HTS.out.same (hB5.block bs HTS.out.lt)).cell htn
          have d3 := (HTF.out.same (hB5.block bf HTF.out.lt)).cell hlt
          have hfn' : (xf : Int) < n := by omega
          have htn' : (xt : Int) < n := by omega
          have hkm : (k : Int) < m := by omega
          have HB5 := Lib.hid hB5
          have hcn := HCN.out k hk
          have hca : capK (edl l) (side rk2) (k + 1) = capK (edl l) (side rk2) k + (if side rk2 xf = true ∧ side rk2 xt = false then xc else 0) := by simp only [capK, hxe]
          have hful := HFULL.out k hlt
          rw [hxe] at hful
          simp only at hful
          have hkk : ((k : Int) != k) = false := by simp
          have hxx : (xc != xc) = false := by simp
          have HHL := Lib.hid (hits_len q k)
          clear x0 x1 x2 hx hxe hat hB5 HB
          generalize side rk2 xf = su at *
          generalize side rk2 xt = sv at *
          generalize fl k = flk at *
          have HCA := Lib.hid hca
          have HFU := Lib.hid hful
          clear hca hful
          generalize hCC : capK (edl l) (side rk2) k = cc at *
          obtain ⟨c1, c2⟩ := hcn
          cases su with
          | true =>
            cases sv with
            | false =>
              have hq0 : q k = true := by rw [hqk]; rfl
              obtain ⟨h1, h2⟩ := hits_at hlt hq0
              have HHT := Lib.hid (hits_t hq0)
              have hfx := HFU.out.1 rfl rfl
              subst hfx
              have hcs := HCA.out
              rw [if_pos ⟨rfl, rfl⟩] at hcs
              have HCS := Lib.hid hcs
              rw [HML.out] at h1
              obtain ⟨gg, rfl, hgl, -, hcell⟩ := own_cell HOW.out HML.out h1
              rw [h2] at hcell
              have hcell2 := (HB5.out.cell (p := ⟨gg, (hits q k).length, none⟩) hgl).trans hcell
              obtain ⟨at0, HAT⟩ := named (hits q k).length
              rw [HAT.out] at h1 hcell2 ⊢
              have hatM : (at0 : Int) < M := by omega
              have hatM2 : ¬ (M : Int) ≤ at0 := by omega
              have HN1 : Hid ((hits q (k + 1)).length = at0 + 1) := by show _ = _; rw [HHT.out]; simp [HAT.out]
              clear hcell hcs h2 hq0 hqk
              go_wp2_with fail
              go_quiet (fail)
              go_wp2_with fail
              exact ⟨⟨k + 1, hlt, by go_num, by rw [HCS.out], by rw [HN1.out]; go_num, ⟨HB5.out.os, HB5.out.tape, HB5.out.output, HB5.out.size, HB5.out.block⟩⟩, by simp [intOf]; omega⟩
            | true =>
              have hq0 : q k = false := by rw [hqk]; rfl
              have HHT := Lib.hid (hits_f hq0)
              have hcs := HCA.out
              rw [if_neg (by simp)] at hcs
              have HCS := Lib.hid hcs
              clear hcs hq0 hqk
              go_wp2_with fail
              exact ⟨⟨k + 1, hlt, by go_num, by rw [HCS.out, Int.add_zero], by rw [HHT.out], HB5⟩, by simp [intOf]; omega⟩
          | false =>
            have hq0 : q k = false := by rw [hqk]; rfl
            have HHT := Lib.hid (hits_f hq0)
            have hcs := HCA.out
            rw [if_neg (by simp)] at hcs
            have HCS := Lib.hid hcs
            clear hcs hq0 hqk
            cases sv with
            | false =>
              go_wp2_with fail
              exact ⟨⟨k + 1, hlt, by go_num, by rw [HCS.out, Int.add_zero], by rw [HHT.out], HB5⟩, by simp [intOf]; omega⟩
            | true =>
              have hfx := HFU.out.2 rfl rfl
              subst hfx
              go_wp2_with fail
              exact ⟨⟨k + 1, hlt, by go_num, by rw [HCS.out, Int.add_zero], by rw [HHT.out], HB5⟩, by simp [intOf]; omega⟩
        · obtain rfl : k = m := by omega
          have hMM : (((hits q k).length : Int) == (M : Int)) = true := by rw [HML.out]; simp
          have hcv := HCAP.out
          rw [hcv]
          go_wp2_with fail
          go_ret
          exact ⟨rfl, HBW4.out.trans (HB.out.mono (Nat.le_of_lt hw4))⟩
    · have HM := Lib.hid (max_bad N a l cap w2 s t (by omega) (hr.on hbw2) hE)
      have HC := Lib.hid (fun (w3 : World) (h : Below w.heap.size w w3) => cut_bad N a l cap w3 s t (by omega) (hr.on h) hE)
      generalize flE N l s t = E at *
      have e1 : (E != 0) = true := by simpa using hE
      have e2 : (E == 0) = false := by rw [beq_eq_false_iff_ne]; exact hE
      have e3 : (E == E) = true := by simp
      go_wp2_with fail
      refine HM.out.mono ?_
      rintro e w3 ⟨rfl, hb3⟩
      have hg3 := (hb3.block w.heap.size hw2).trans hg2
      have hbw3 : Below w.heap.size w w3 := hbw2.trans (hb3.mono (by omega))
      have hw3 := lt_of_block hg3
      clear g0 g1 gf0 gf1
      obtain ⟨⟨g0, g1⟩, gf0, gf1⟩ := two_cells hg3
      go_wp2_with fail
      refine (HC.out w3 hbw3).mono ?_
      rintro e w4 ⟨rfl, hb4⟩
      have hbw4 : Below w.heap.size w w4 := hbw3.trans (hb4.mono (by omega))
      clear hE
      go_wp2_with fail
      go_ret
      exact ⟨rfl, hbw4⟩
end Go.Proofs.Ytcomkdjngchmkaa
