/-
  FlowTurns: the walk.
-/
import Derived.Test.YtcomkdjngchmkaaRow
import Derived.Test.YtcomkdjngchmkaaLawFewer
namespace Go.Proofs.Ytcomkdjngchmkaa
open Go.RowKit
/-- An edge turned about. -/
def A.turn (x : A) : A := ⟨x.t, x.f, x.w⟩
def turned (l : List A) : List A := l.map A.turn
theorem turned_len (l : List A) : (turned l).length = l.length := by simp [turned]
theorem turned_okA {N : Int} (x : A) : okA N x.turn = okA N x := by simp [okA, A.turn, Bool.and_comm]
theorem turned_chk (N : Int) (l : List A) : chkE N (turned l) = chkE N l := by
  unfold chkE
  rw [turned_len]
  have : (turned l).all (okA N) = l.all (okA N) := by
    unfold turned
    rw [List.all_map]
    congr 1
    funext x
    exact turned_okA x
  rw [this]
theorem turned_fl (N : Int) (l : List A) (s t : Int) : flE N (turned l) t s = flE N l s t := by
  unfold flE
  rw [turned_chk]
  by_cases h1 : chkE N l = 0
  · rw [if_pos h1, if_pos h1]
    by_cases h2 : okV N s = true
    · by_cases h3 : okV N t = true
      · rw [if_pos h2, if_pos h3, if_pos h3, if_pos h2]
        by_cases h4 : s = t
        · rw [if_pos h4, if_pos h4.symm]
        · rw [if_neg h4, if_neg (fun e => h4 e.symm)]
      · rw [if_neg h3, if_neg h3, if_pos h2]
    · by_cases h3 : okV N t = true
      · rw [if_pos h3, if_neg h2, if_neg h2]
      · rw [if_neg h3, if_neg h2]
  · rw [if_neg h1, if_neg h1]
theorem turned_edge {l : List A} {k : Nat} (hk : k < l.length) : ed (edl (turned l)) k = ⟨(ed (edl l) k).t, (ed (edl l) k).f, (ed (edl l) k).c⟩ := by
  rw [edl_at (by rw [turned_len]; exact hk), edl_at hk]
  have : (turned l).getD k A.zero = (l.getD k A.zero).turn := by
    simp [turned, List.getD, List.getElem?_eq_getElem hk]
  rw [this]
  rfl
theorem turned_cap (l : List A) (R : Nat → Bool) : ∀ k, k ≤ l.length → capK (edl (turned l)) (fun v => !R v) k = capK (edl l) R k
  | 0, _ => rfl
  | k + 1, h => by
    simp only [capK]
    rw [turned_cap l R k (by omega), turned_edge (by omega)]
    simp only
    cases R (ed (edl l) k).f <;> cases R (ed (edl l) k).t <;> simp
theorem turned_net (l : List A) (fl : Nat → Int) (v : Nat) : ∀ k, k ≤ l.length → net (edl (turned l)) fl v k = - net (edl l) fl v k
  | 0, _ => rfl
  | k + 1, h => by
    simp only [net]
    rw [turned_net l fl v k (by omega), turned_edge (by omega)]
    simp only
    omega
theorem turned_ended {n : Nat} {l : List A} {s t : Nat} {fl : Nat → Int} {R : Nat → Bool} (h : Ended n (edl l) s t fl R) : Ended n (edl (turned l)) t s fl (fun v => !R v) := by
  have hl : (edl (turned l)).length = (edl l).length := by rw [edl_len, edl_len, turned_len]
  refine ⟨⟨fun j hj => h.fw.lo j (by omega), fun j hj => ?_, fun v hv h1 h2 => ?_⟩, by simp [h.rt], by simp [h.rs], fun j hj => ?_⟩
  · rw [hl, edl_len] at hj
    rw [turned_edge hj]
    exact h.fw.hi j (by rw [edl_len]; exact hj)
  · rw [hl, turned_net l fl v _ (by rw [edl_len]; exact Nat.le_refl _), h.fw.mid v hv h2 h1]
    rfl
  · rw [hl, edl_len] at hj
    rw [turned_edge hj]
    have := h.full j (by rw [edl_len]; exact hj)
    simp only
    exact ⟨fun h1 h2 => this.1 (by simpa using h2) (by simpa using h1), fun h1 h2 => this.2 (by simpa using h2) (by simpa using h1)⟩
/-- As much flows from t to s. -/
theorem turned_value {n : Nat} {l : List A} {s t : Nat} {f1 f2 : Nat → Int} {R1 R2 : Nat → Bool} (g : RN n (edl l)) (g2 : RN n (edl (turned l))) (hs : s < n) (ht : t < n) (h1 : Ended n (edl l) s t f1 R1) (h2 : Ended n (edl (turned l)) t s f2 R2) : net (edl (turned l)) f2 t (edl (turned l)).length = net (edl l) f1 s (edl l).length := by
  have h3 := turned_ended h1
  rw [(h2.same h3 g2 ht).1, h3.value g2 ht, h1.value g hs]
  have hl : (edl (turned l)).length = (edl l).length := by rw [edl_len, edl_len, turned_len]
  rw [hl]
  exact turned_cap l R1 _ (by rw [edl_len]; exact Nat.le_refl _)
theorem turned_step {l : List A} {k : Nat} (hk : k < l.length) : turned (l.take (k + 1)) = turned (l.take k) ++ [(l.getD k A.zero).turn] := by
  unfold turned
  rw [List.take_succ_eq_append_getElem hk, List.map_append]
  have e : l.getD k A.zero = l[k] := by simp [List.getD, List.getElem?_eq_getElem hk]
  rw [e]
  rfl
theorem edge_new (w : World) (x : A) : ∀ j u, (cellsA [x])[j]? = some u → (w.alloc (.cells #[.int .i64 x.f, .int .i64 x.t, .int .u32 x.w] 52)).cell? ((⟨w.heap.size, 0, none⟩ : Addr).add j) = some u := by
  intro j u hu
  match j, hu with
  | 0, hu => simp [cellsA] at hu; subst hu; simp [Addr.add]
  | 1, hu => simp [cellsA] at hu; subst hu; simp [Addr.add]
  | 2, hu => simp [cellsA] at hu; subst hu; simp [Addr.add]
theorem own_set {w : World} {base : Nat} {e : TypeId} {size : Nat} {v : Value} {n : Nat} {xs : List Value} (h : w.ownsRow base e size v n xs) (p : Addr) (u : Value) (hp : p.block < base) : (w.setCell p u).ownsRow base e size v n xs := by
  refine ⟨h.1, ?_⟩
  rcases h.2 with h' | ⟨g, c, cur, h1, h2, h3, h4⟩
  · exact Or.inl h'
  · exact Or.inr ⟨g, c, cur, h1, h2, (Below.heap_setCell w p u g (fun e => by omega)).trans h3, h4⟩
theorem turned_w {l : List A} (h : ∀ x, x ∈ l → 0 ≤ x.w ∧ x.w < 4294967296) : ∀ x, x ∈ turned l → 0 ≤ x.w ∧ x.w < 4294967296 := fun x hx => by
  obtain ⟨y, hy, rfl⟩ := List.mem_map.1 hx
  exact h y hy
set_option maxHeartbeats 3200000 in
set_option maxRecDepth 100000 in
theorem law_turns (N : Int) (a : Option Addr) (l : List A) (cap : Nat) (s t : Int) (w : World) (sz : l.length * 24 ≤ 140737488351232) (hr : Arcs w a l) (hw : ∀ x, x ∈ l → 0 ≤ x.w ∧ x.w < 4294967296) :
    Calls Try.prog 8 #[.agg #[.int .i64 N, .slice a l.length cap], .int .i64 s, .int .i64 t] w fun e w' => e = .returned (.bool true) ∧ Below w.heap.size w w' := by
  obtain ⟨i0, hi, hz0, hz1, hz2⟩ := info_parts info52
  have hb0 : Below w.heap.size w (w.alloc (.cells #[.int .i64 N, .slice a l.length cap] 24)) := (Below.refl _ _).alloc (Nat.le_refl _) _
  have hg := heap_top w (.cells #[.int .i64 N, .slice a l.length cap] 24)
  have hsz : (w.alloc (.cells #[.int .i64 N, .slice a l.length cap] 24)).heap.size = w.heap.size + 1 := by simp
  go_enter Try.func8, Try.ntmps8
  go_wp2_with fail
  generalize w.alloc (.cells #[.int .i64 N, .slice a l.length cap] 24) = W at *
  refine (works_any W).mono ?_
  rintro e w1 ⟨rfl, hb1⟩
  have hbw1 : Below w.heap.size w w1 := hb0.trans (hb1.mono (by omega))
  have hg1 := (hb1.block w.heap.size (by omega)).trans hg
  obtain ⟨⟨g0, g1⟩, gf0, gf1⟩ := two_cells hg1
  clear hb0 hb1 hg hsz
  go_wp2_with fail
  refine (large_any N a l.length cap w1).mono ?_
  rintro e w2 ⟨rfl, hb2⟩
  have hw1 := lt_of_block hg1
  have hbw2 : Below w.heap.size w w2 := hbw1.trans (hb2.mono (by omega))
  have hg2 := (hb2.block w.heap.size hw1).trans hg1
  have hw2 := lt_of_block hg2
  clear g0 g1 gf0 gf1
  obtain ⟨⟨g0, g1⟩, gf0, gf1⟩ := two_cells hg2
  cases hlg : decide (400 < l.length ∧ 60 < N) with
  | true =>
    clear hlg
    go_wp2_with fail
    go_ret
    exact ⟨rfl, hbw2⟩
  | false =>
    clear hlg hb2 hg1
    have hg3 := (Below.heap_alloc w2 (.cells #[.int .i64 N, .slice none 0 0] 24) w.heap.size hw2).trans hg2
    obtain ⟨⟨i0', i1'⟩, if0, if1⟩ := two_cells hg3
    go_wp2_with fail
    have hgm := heap_top w2 (.cells #[.int .i64 N, .slice none 0 0] 24)
    have HBW3 : Hid (Below w.heap.size w (w2.alloc (.cells #[.int .i64 N, .slice none 0 0] 24))) := hbw2.alloc (by omega) _
    have HS3 : Hid ((w2.alloc (.cells #[.int .i64 N, .slice none 0 0] 24)).heap.size = w2.heap.size + 1) := by show _ = _; simp
    have HGM := Lib.hid hgm
    have HG3 := Lib.hid hg3
    clear g0 g1 gf0 gf1 hgm hg3 i0' i1' if0 if1 hbw1 hg2 hbw2
    generalize hbm : w2.heap.size = bm at *
    generalize w2.alloc (.cells #[.int .i64 N, .slice none 0 0] 24) = w3 at *
    obtain ⟨b, o, hab⟩ : ∃ b o, 0 < l.length → a = some ⟨b, o, none⟩ ∧ b < w.heap.size ∧ ∀ j, j < l.length → (l.getD j A.zero).at w b (o + j * 3) := by
      rcases hr with rfl | ⟨b, o, h⟩
      · exact ⟨0, 0, fun h => absurd h (by simp)⟩
      · exact ⟨b, o, fun _ => h⟩
    have HAB := Lib.hid hab
    clear hab
    go_loopw [26] (fun i wr => ∃ (k : Nat) (a2 : Option Addr) (c2 : Nat), k ≤ l.length ∧ i = .int .i64 k ∧ Hid (wr.heap[bm]? = some (.cells #[.int .i64 N, .slice a2 k c2] 24)) ∧ Hid (OwnA wr (bm + 1) a2 c2 (turned (l.take k))) ∧ Hid (Below bm w3 wr)) (fun i _ => l.length - (intOf i).toNat)
    case atStart => exact ⟨0, none, 0, Nat.zero_le _, rfl, HGM, OwnA.nil _ _, Below.refl _ _⟩
    case round =>
      obtain ⟨k, a2, c2, hk, rfl, HGR, HOW, HB⟩ := hrel
      by_cases hlt : k < l.length
      · obtain ⟨rfl, hbl, hat⟩ := HAB.out (by omega)
        obtain ⟨x0, x1, x2⟩ := (hat k hlt).on HBW3.out
        have xb : b < bm := by omega
        have y0 := (HB.out.cell (p := ⟨b, o + k * 3, none⟩) xb).trans x0
        have y1 := (HB.out.cell (p := ⟨b, o + k * 3 + 1, none⟩) xb).trans x1
        have y2 := (HB.out.cell (p := ⟨b, o + k * 3 + 2, none⟩) xb).trans x2
        have HST := Lib.hid (turned_step hlt)
        have HTK : Hid ((turned (l.take k)).length = k) := by show _ = _; rw [turned_len, List.length_take]; omega
        generalize l.getD k A.zero = x at *
        have hlt' : (k : Int) < l.length := by omega
        have hbr := lt_of_block HGR.out
        have hgx := (Below.heap_alloc wr (.cells #[.int .i64 x.f, .int .i64 x.t, .int .u32 x.w] 52) bm hbr).trans HGR.out
        obtain ⟨⟨m0, m1⟩, mf0, mf1⟩ := two_cells hgx
        have hown := HOW.out
        unfold OwnA at hown
        rw [HTK.out] at hown
        have hx1 := edge_new (wr.alloc (.cells #[.int .i64 x.f, .int .i64 x.t, .int .u32 x.w] 52)) x.turn
        rw [show (wr.alloc (.cells #[.int .i64 x.f, .int .i64 x.t, .int .u32 x.w] 52)).heap.size = wr.heap.size + 1 by simp] at hx1
        have HX1 := Lib.hid hx1
        have HAP := Lib.hid (cellsA_append (turned (l.take k)) [x.turn])
        rw [← HST.out] at HAP
        have HT2 : Hid ((turned (l.take (k + 1))).length = k + 1) := by show _ = _; rw [turned_len, List.length_take]; omega
        have HGB := Lib.hid HGR.out
        have hBe : Below bm w3 ((wr.alloc (.cells #[.int .i64 x.f, .int .i64 x.t, .int .u32 x.w] 52)).alloc (.cells #[.int .i64 x.t, .int .i64 x.f, .int .u32 x.w] 52)) := (HB.out.alloc (by omega) _).alloc (by simp; omega) _
        have HBE := Lib.hid hBe
        have hg2 := (Below.heap_alloc (wr.alloc (.cells #[.int .i64 x.f, .int .i64 x.t, .int .u32 x.w] 52)) (.cells #[.int .i64 x.t, .int .i64 x.f, .int .u32 x.w] 52) bm (by simp; omega)).trans hgx
        have HG2 := Lib.hid hg2
        clear x0 x1 x2 hat hgx hx1 HOW hBe hg2
        go_wp2_with (at_builtin; refine wpList_append_own _ rfl (.tmp 31) (.tmp 39) 22 rfl (bm + 1) 52 i0 _ 3 24 Try.underlying22 hi hz0 hz1 hz2 rfl (by decide) (.slice a2 k c2) k (cellsA (turned (l.take k))) rfl ((hown.alloc _).alloc _) ⟨wr.heap.size + 1, 0, none⟩ 1 1 (cellsA [x.turn]) rfl rfl HX1.out (cellsA_one _) (by unfold maxLen; omega) (by omega) (by simp; omega) ?_; intro v6 w6 hown6 hgrow6 hnil6; obtain ⟨g6, c6, hv6, hg6, hc6, hs6, hm6⟩ := own_shape hown6 (fun e => by have := hnil6.1 e; simp at this); rw [hv6] at hown6 ⊢; clear hnil6 hv6; have hb6 : Below (bm + 1) ((wr.alloc (.cells #[.int .i64 x.f, .int .i64 x.t, .int .u32 x.w] 52)).alloc (.cells #[.int .i64 x.t, .int .i64 x.f, .int .u32 x.w] 52)) w6 := (Below.refl _ _).grown hgrow6 (by simp; omega) (by intro k hk; have := (hown.lt k hk).1; omega); have hgm6 := (hb6.block bm (Nat.lt_succ_self _)).trans HG2.out; obtain ⟨⟨n0, n1⟩, nf0, nf1⟩ := two_cells hgm6)
        have hcell := heap_setCell_same w6 bm 1 _ _ (.slice (some ⟨g6, 0, none⟩) (k + 1) c6) hgm6
        have hset := own_set hown6 ⟨bm, 1, none⟩ (.slice (some ⟨g6, 0, none⟩) (k + 1) c6) (Nat.lt_succ_self _)
        rw [← HAP.out] at hset
        refine ⟨⟨k + 1, some ⟨g6, 0, none⟩, c6, hlt, by go_num, ?_, ?_, (HBE.out.trans (hb6.mono (Nat.le_succ _))).setCell (Nat.le_refl _) _⟩, by simp [intOf]; omega⟩
        · show _ = _
          rw [hcell]
          simp
        · show _
          unfold OwnA
          rw [HT2.out]
          exact hset
      · obtain rfl : k = l.length := by omega
        have htk : turned (l.take l.length) = turned l := by rw [List.take_length]
        rw [htk] at HOW
        have hbwr : Below w.heap.size w wr := HBW3.out.trans (HB.out.mono (by omega))
        have hgr := (HB.out.block w.heap.size hw2).trans HG3.out
        obtain ⟨⟨g0, g1⟩, gf0, gf1⟩ := two_cells hgr
        have hA2 := HOW.out.arcs
        have hwr := lt_of_block hgr
        have hbr := lt_of_block HGR.out
        by_cases hE : flE N l s t = 0
        · obtain ⟨n, u, v, hO⟩ := flE_ok hE hw
          obtain rfl := hO.hn
          obtain rfl := hO.hs
          obtain rfl := hO.ht
          have hE2 : flE n (turned l) v u = 0 := by rw [turned_fl]; exact hE
          obtain ⟨n', v', u', hO2⟩ := flE_ok hE2 (turned_w hw)
          obtain rfl : n' = n := by have := hO2.hn; omega
          obtain rfl : v' = v := by have := hO2.hs; omega
          obtain rfl : u' = u := by have := hO2.ht; omega
          have HO := Lib.hid hO
          have HO2 := Lib.hid hO2
          have HM := Lib.hid (max_ok n' a l cap wr u' v' (hr.on hbwr) hE hO)
          have HM2 := Lib.hid (fun (w5 : World) (h : Below wr.heap.size wr w5) => max_ok n' a2 (turned l) c2 w5 v' u' (hA2.on h) hE2 hO2)
          rw [turned_len] at HM2
          clear hO hO2 hE hE2 hA2
          go_wp2_with fail
          refine HM.out.mono ?_
          rintro e w5 ⟨fl, rk, bf, rfl, hFl, hRk, hrt, hT, hbf, hb5⟩
          have hgm := (hb5.block bm hbr).trans HGR.out
          obtain ⟨⟨m0, m1⟩, mf0, mf1⟩ := two_cells hgm
          have HE1 := Lib.hid (hRk.stop hFl (edl_len l) hrt)
          obtain ⟨V, HV⟩ := named (net (edl l) fl u' (edl l).length)
          rw [HV.out]
          have HB5 := Lib.hid hb5
          clear hFl hRk hrt hT hb5 g0 g1 gf0 gf1
          go_wp2_with fail
          refine (HM2.out w5 HB5.out).mono ?_
          rintro e w6 ⟨fl2, rk2, bf2, rfl, hFl, hRk, hrt, hT, hbf2, hb6⟩
          have hE2 := hRk.stop hFl ((edl_len _).trans (turned_len l)) hrt
          rw [turned_value HO.out.g HO2.out.g HO.out.un HO.out.vn HE1.out hE2, HV.out]
          have hVV : (V == V) = true := by simp
          have hbe : Below w.heap.size w w6 := (hbwr.trans (HB5.out.mono (by omega))).trans (hb6.mono (by have := HB5.out.size; omega))
          have HBE := Lib.hid hbe
          clear hFl hRk hrt hT hb6 hE2 hbe
          go_wp2_with fail
          go_ret
          exact ⟨rfl, HBE.out⟩
        · have hE2 : flE N (turned l) t s ≠ 0 := by rw [turned_fl]; exact hE
          have HM := Lib.hid (max_bad N a l cap wr s t (by omega) (hr.on hbwr) hE)
          have HM2 := Lib.hid (fun (w5 : World) (h : Below wr.heap.size wr w5) => max_bad N a2 (turned l) c2 w5 t s (by rw [turned_len]; omega) (hA2.on h) hE2)
          rw [turned_len, turned_fl] at HM2
          generalize flE N l s t = E at *
          have hEE : (E == E) = true := by simp
          clear hE hE2 hA2
          go_wp2_with fail
          refine HM.out.mono ?_
          rintro e w5 ⟨rfl, hb5⟩
          have hgm := (hb5.block bm hbr).trans HGR.out
          obtain ⟨⟨m0, m1⟩, mf0, mf1⟩ := two_cells hgm
          have HB5 := Lib.hid hb5
          clear hb5 g0 g1 gf0 gf1
          go_wp2_with fail
          refine (HM2.out w5 HB5.out).mono ?_
          rintro e w6 ⟨rfl, hb6⟩
          have hbe : Below w.heap.size w w6 := (hbwr.trans (HB5.out.mono (by omega))).trans (hb6.mono (by have := HB5.out.size; omega))
          have HBE := Lib.hid hbe
          clear hb6 hbe
          go_wp2_with fail
          go_ret
          exact ⟨rfl, HBE.out⟩
end Go.Proofs.Ytcomkdjngchmkaa
