/-
  CellTells: the walk.
-/
import Derived.Test.YtpmjbeiclmllmaaZRc
import Derived.Test.YtpmjbeiclmllmaaZCq
import Derived.Test.YtpmjbeiclmllmaaZCp
namespace Go.Proofs.Ytpmjbeiclmllmaa
open Go.RowKit
/-- What is lent and copied, as it lies. -/
structure TlS (W w : World) (bg bn g c : Nat) (xa : Option Addr) (xc : Nat) (ya : Option Addr) (Y : List Cl) (yc : Nat) (N : Int) (l : List A) (bs : List Int) (C : List Cl) : Prop where
  be : Below W.heap.size W w
  bg : w.heap[bg]? = some (.cells #[.int .i64 N, .slice (some ⟨g, 0, none⟩) l.length c] 24)
  bn : w.heap[bn]? = some (.cells #[.slice xa bs.length xc, .slice ya C.length yc] 28)
  still : Still w g l
  c1 : l.length < c
  c2 : c ≤ 9223372036854775807
  ints : Ints w xa bs
  rws : Rws w ya Y
  eq : csl Y = csl C
  len : Y.length = C.length
theorem in_len {N : Int} {l : List A} {bs : List Int} {cs : List (List Int)} {k x : Int} : (inV N l bs cs k x).length ≤ 8192 := by
  unfold inV
  split
  · rename_i h
    have h1 := (chk_zero (inE_zero h).1.1).2.2.1
    have h2 := cho_len (arP l (hld (lvl cs (k.toNat - 1)) x)) l.length
    unfold arL
    omega
  · simp
theorem bt_len {N : Int} {l : List A} {bs : List Int} {cs : List (List Int)} {k x : Int} : (btV N l bs cs k x).length ≤ 8192 := by
  unfold btV
  split
  · rename_i h
    have h0 : inE N l bs cs k x = 0 := by
      unfold btE at h
      split at h
      · rename_i h1; exact absurd h h1
      · rename_i h1; simpa using h1
    have h1 := (chk_zero (inE_zero h0).1.1).2.2.1
    have h2 := cho_len (arP l (btP (lvl cs (k.toNat - 1)) (lvl cs (k.toNat - 2)) x)) l.length
    unfold arL
    omega
  · simp
theorem still_typed {w : World} {g b i : Nat} {l : List A} {u : Value} (h : Still w g l) (hne : g ≠ b) : Still (w.setCell ⟨b, i, none⟩ u) g l := fun j hj => by
  have e : ∀ k, (w.setCell ⟨b, i, none⟩ u).cell? ⟨g, k, none⟩ = w.cell? ⟨g, k, none⟩ := fun k => World.cell?_of_block (a := ⟨g, k, none⟩) (Below.heap_setCell w ⟨b, i, none⟩ u g hne)
  obtain ⟨h1, h2, h3⟩ := h j hj
  exact ⟨(e _).trans h1, (e _).trans h2, (e _).trans h3⟩
theorem tls_of {W0 w : World} {bg bn g c : Nat} {xa : Option Addr} {xc : Nat} {ya : Option Addr} {Y : List Cl} {yc : Nat} {N : Int} {l : List A} {bs : List Int} {C : List Cl} (hb : Below W0.heap.size W0 w) (hg : w.heap[bg]? = some (.cells #[.int .i64 0, .slice none 0 0] 24)) (hgB : W0.heap.size ≤ bg) (hn : w.heap[bn]? = some (.cells #[.slice none 0 0, .slice none 0 0] 28)) (hnB : W0.heap.size ≤ bn) (hne : bg ≠ bn) (hst : Still w g l) (hc1 : l.length < c) (hc2 : c ≤ 9223372036854775807) (hcp : ∃ B, CpO w B xa bs xc ya Y C yc) (hCb : ∀ j, j < C.length → (cl C j).xs.length ≤ 9223372036854775807) :
    TlS W0 ((((w.setCell ⟨bg, 0, none⟩ (.int .i64 N)).setCell ⟨bg, 1, none⟩ (.slice (some ⟨g, 0, none⟩) l.length c)).setCell ⟨bn, 0, none⟩ (.slice xa bs.length xc)).setCell ⟨bn, 1, none⟩ (.slice ya C.length yc)) bg bn g c xa xc ya Y yc N l bs C := by
  have h0 := hst 0 (by omega)
  have e1 : g ≠ bg := by
    rintro rfl
    have := h0.2.1
    rw [(two_cells hg).1.2] at this
    cases this
  have e2 : g ≠ bn := by
    rintro rfl
    have := h0.1
    rw [(two_cells hn).1.1] at this
    cases this
  have g1 := heap_setCell_same w bg 0 _ _ (.int .i64 N) hg
  have g2 := heap_setCell_same _ bg 1 _ _ (.slice (some ⟨g, 0, none⟩) l.length c) g1
  have n1 : ((w.setCell ⟨bg, 0, none⟩ (.int .i64 N)).setCell ⟨bg, 1, none⟩ (.slice (some ⟨g, 0, none⟩) l.length c)).heap[bn]? = some (.cells #[.slice none 0 0, .slice none 0 0] 28) := (Below.heap_setCell _ ⟨bg, 1, none⟩ _ bn (fun h => hne h.symm)).trans ((Below.heap_setCell _ ⟨bg, 0, none⟩ _ bn (fun h => hne h.symm)).trans hn)
  have n2 := heap_setCell_same _ bn 0 _ _ (.slice xa bs.length xc) n1
  have n3 := heap_setCell_same _ bn 1 _ _ (.slice ya C.length yc) n2
  have g3 := (Below.heap_setCell _ ⟨bn, 1, none⟩ (.slice ya C.length yc) bg hne).trans ((Below.heap_setCell _ ⟨bn, 0, none⟩ (.slice xa bs.length xc) bg hne).trans g2)
  obtain ⟨B, hc⟩ := hcp
  have c1 := hc.far (i := 0) hg (by decide) (by decide) (.int .i64 N)
  have c2 := c1.far (i := 1) g1 (by decide) (by decide) (.slice (some ⟨g, 0, none⟩) l.length c)
  have c3 := c2.far (i := 0) n1 (by decide) (by decide) (.slice xa bs.length xc)
  have c4 := c3.far (i := 1) n2 (by decide) (by decide) (.slice ya C.length yc)
  obtain ⟨r1, r2⟩ := c4.rws hCb
  exact ⟨(((hb.setCell (p := ⟨bg, 0, none⟩) hgB _).setCell (p := ⟨bg, 1, none⟩) hgB _).setCell (p := ⟨bn, 0, none⟩) hnB _).setCell (p := ⟨bn, 1, none⟩) hnB _, by rw [g3]; simp, by rw [n3]; simp, still_typed (still_typed (still_typed (still_typed hst e1) e1) e2) e2, hc1, hc2, ints_own c4.1, r1, r2, c4.2.2.1⟩
set_option maxRecDepth 100000 in
set_option maxHeartbeats 6400000 in
theorem tells_any (N : Int) (a : Option Addr) (l : List A) (cap : Nat) (ba : Option Addr) (bs : List Int) (bc : Nat) (ca : Option Addr) (C : List Cl) (cc : Nat) (lv ce ve : Int) (w : World) (hlen : l.length * 24 ≤ 140737488351232) (hblen : bs.length * 8 ≤ 140737488351232) (hna : a = none → l = [] ∧ cap = 0) (hnb : ba = none → bs = [] ∧ bc = 0) (hRB : RwB C) (hr : Arcs w a l) (hi : Ints w ba bs) (hR : Rws w ca C) :
    Calls Try.prog 3 #[.agg #[.int .i64 N, .slice a l.length cap], .agg #[.slice ba bs.length bc, .slice ca C.length cc], .agg #[.int .i64 lv, .int .i64 ce, .int .i64 ve]] w fun e w' => e = .returned (.bool true) ∧ Below w.heap.size w w' := by
  have hl : l.length ≤ 9223372036854775807 := by omega
  have hbl : bs.length ≤ 9223372036854775807 := by omega
  obtain ⟨hg0, hg1, hg2, hb0, hsz⟩ := top3 w (.cells #[.int .i64 N, .slice a l.length cap] 24) (.cells #[.slice ba bs.length bc, .slice ca C.length cc] 28) (.cells #[.int .i64 lv, .int .i64 ce, .int .i64 ve] 30)
  have HGN0 : Hid (GN (((w.alloc (.cells #[.int .i64 N, .slice a l.length cap] 24)).alloc (.cells #[.slice ba bs.length bc, .slice ca C.length cc] 28)).alloc (.cells #[.int .i64 lv, .int .i64 ce, .int .i64 ve] 30)) w.heap.size N a l cap ba bs bc ca C cc) := ⟨hg0, hg1, hr.on hb0, hi.on hb0, hR.on hb0⟩
  have HB0 := Lib.hid hb0
  have HG2 := Lib.hid hg2
  have HNA := Lib.hid hna
  have HNB := Lib.hid hnb
  have HRB := Lib.hid hRB
  generalize hp : w.heap.size = p at *
  obtain ⟨g0, g1, g2, g3⟩ := HGN0.out.cells
  go_enter Try.func3, Try.ntmps3
  go_wp2_with fail
  generalize hW : (((w.alloc (.cells #[.int .i64 N, .slice a l.length cap] 24)).alloc (.cells #[.slice ba bs.length bc, .slice ca C.length cc] 28)).alloc (.cells #[.int .i64 lv, .int .i64 ce, .int .i64 ve] 30)) = W at *
  clear hW hg0 hg1 hg2 hb0 hr hi hR hna hnb hRB
  refine (large_any N a l cap W hl HGN0.out.arcs).mono ?_
  rintro e w1 ⟨rfl, hb1⟩
  have HB1 := Lib.hid hb1
  have HEND : Hid (∀ wr, Below W.heap.size W wr → Below p w wr) := fun wr h => HB0.out.trans (h.mono (by omega))
  clear hb1 g0 g1 g2 g3
  obtain ⟨V, HV⟩ := named (lgB N l)
  rw [HV.out]
  rcases V with _ | _
  rotate_left
  · go_wp2_with fail
    refine (works_any w1).mono ?_
    rintro e w2 ⟨rfl, hb2⟩
    have HB2 : Hid (Below W.heap.size W w2) := HB1.out.trans (hb2.mono HB1.out.size)
    clear hb2
    go_wp2_with fail
    go_ret
    exact ⟨rfl, HEND.out _ HB2.out⟩
  have HGN1 := Lib.hid (HGN0.out.on HB1.out)
  obtain ⟨g0, g1, g2, g3⟩ := HGN1.out.cells
  generalize hW0 : w1 = W0 at *
  clear hW0
  have HLG : Hid (∀ W2, Below W0.heap.size W0 W2 → Calls Try.prog 13 #[.agg #[.int .i64 N, .slice a l.length cap]] W2 fun e w' => Lent W2 w' e N l) := fun W2 hb => lend_any N a l cap W2 hlen HNA.out (HGN1.out.on hb).arcs
  have HCN : Hid (∀ W2, Below W0.heap.size W0 W2 → Calls Try.prog 14 #[.agg #[.slice ba bs.length bc, .slice ca C.length cc]] W2 fun e w' => CpI W2 w' e bs C) := fun W2 hb => copyNest_any ba bs bc ca C cc W2 hblen HNB.out (HGN1.out.on hb).ints (HGN1.out.on hb).rws HRB.out
  have hp0 : p + 1 < W0.heap.size := lt_of_block HGN1.out.n
  have HSS : Hid (∀ W2, Below W0.heap.size W0 W2 → W2.cell? ⟨p, 0, none⟩ = some (.int .i64 N) ∧ W2.cell? ⟨p, 1, none⟩ = some (.slice a l.length cap) ∧ W2.cell? ⟨p + 1, 0, none⟩ = some (.slice ba bs.length bc) ∧ W2.cell? ⟨p + 1, 1, none⟩ = some (.slice ca C.length cc)) := fun W2 hb => (HGN1.out.on hb).cells
  have HCB : Hid (∀ j, j < C.length → (cl C j).xs.length ≤ 9223372036854775807) := fun j hj => (HGN1.out.rws.2 j hj).2
  have HB00 : Hid (Below W0.heap.size W0 W0.drew) := (Below.refl _ _).drew
  go_wp2_with fail
  go_cut [7, 8] (fun s7 s8 wc => ∃ (bg bn g c : Nat) (xa : Option Addr) (xc : Nat) (ya : Option Addr) (Y : List Cl) (yc : Nat), s7 = .pointer (some ⟨bg, 0, none⟩) ∧ s8 = .pointer (some ⟨bn, 0, none⟩) ∧ Hid (TlS W0 wc bg bn g c xa xc ya Y yc N l bs C))
  case first =>
    refine wp_region_held_drew (S := fun w' => w'.cell? ⟨p, 0, none⟩ = some (.int .i64 N) ∧ w'.cell? ⟨p, 1, none⟩ = some (.slice a l.length cap) ∧ w'.cell? ⟨p + 1, 0, none⟩ = some (.slice ba bs.length bc) ∧ w'.cell? ⟨p + 1, 1, none⟩ = some (.slice ca C.length cc)) (by kernel_rfl) (HSS.out _ HB00.out) ?_
    intro hS0
    generalize W0.drew = Wd at *
    simp only [List.size_toArray, List.length_cons, List.length_nil]
    refine wpAnyH_take (i := 0) (v := ?_) rfl (by kernel_rfl) (by decide +kernel) (by decide +kernel) (fun _ _ _ h => h) (Or.inl ⟨by rfl, ?_⟩) (by assumption) ?_
    rotate_left
    · intro w hSw
      (try dsimp only at hSw)
      go_simp
      (try with_reducible rfl)
    try simp only [Act.put, List.getElem_toArray, List.getElem_cons_zero, List.setIfInBounds_toArray, List.set_cons_zero, List.set_cons_succ]
    refine wpAnyH_take (i := 2) (v := ?_) rfl (by kernel_rfl) (by decide +kernel) (by decide +kernel) (fun _ _ _ h => h) (Or.inl ⟨by rfl, ?_⟩) (by assumption) ?_
    rotate_left
    · intro w hSw
      (try dsimp only at hSw)
      go_simp
      (try with_reducible rfl)
    try simp only [Act.put, List.getElem_toArray, List.getElem_cons_zero, List.getElem_cons_succ, List.setIfInBounds_toArray, List.set_cons_zero, List.set_cons_succ]
    refine wpAnyH_ready (rs := [1, 4, 5]) (by kernel_rfl) (by simp) ?_
    refine AllReadyH.cons rfl (fun K hK => ?_) (AllReadyH.cons rfl (fun K hK => ?_) (AllReadyH.cons rfl (fun K hK => ?_) (AllReadyH.nil)))
    · skip
      rw [if_pos (by rfl)]
      go_simp
      refine (HLG.out Wd HB00.out).mono ?_
      rintro e w11 ⟨g, c, rfl, hc1, hc2, hown, hbn⟩
      have HST1 := Lib.hid (still_own hown)
      have HBW1 : Hid (Below W0.heap.size W0 w11) := HB00.out.trans (hbn.mono HB00.out.size)
      refine hK.out _ _ (HSS.out _ HBW1.out) (fun _ => ?_)
      clear hK K
      try simp only [Act.put, List.getElem_toArray, List.getElem_cons_zero, List.getElem_cons_succ, List.setIfInBounds_toArray, List.set_cons_zero, List.set_cons_succ]
      clear hbn
      refine wpAnyH_ready (rs := [3, 4, 5]) (by kernel_rfl) (by simp) ?_
      refine AllReadyH.cons rfl (fun K hK => ?_) (AllReadyH.cons rfl (fun K hK => ?_) (AllReadyH.cons rfl (fun K hK => ?_) (AllReadyH.nil)))
      · skip
        rw [if_pos (by rfl)]
        go_simp
        refine (HCN.out w11 HBW1.out).mono ?_
        rintro e w23 ⟨xa, xc, ya, Y, yc, rfl, hcpo, hbn⟩
        have HCP2 : Hid (∃ B, CpO w23 B xa bs xc ya Y C yc) := ⟨_, hcpo⟩
        clear hcpo
        have HBW2 : Hid (Below W0.heap.size W0 w23) := HBW1.out.trans (hbn.mono HBW1.out.size)
        have HST2 := Lib.hid (HST1.out.on hbn)
        refine hK.out _ _ (HSS.out _ HBW2.out) (fun _ => ?_)
        clear hK K
        try simp only [Act.put, List.getElem_toArray, List.getElem_cons_zero, List.getElem_cons_succ, List.setIfInBounds_toArray, List.set_cons_zero, List.set_cons_succ]
        clear hbn
        refine wpAnyH_ready (rs := [4, 5]) (by kernel_rfl) (by simp) ?_
        refine AllReadyH.cons rfl (fun K hK => ?_) (AllReadyH.cons rfl (fun K hK => ?_) (AllReadyH.nil))
        · skip
          go_simp
          have hbn : Below w23.heap.size w23 (w23.alloc (.cells #[.int .i64 0, .slice none 0 0] 24)) := (Below.refl _ _).alloc (Nat.le_refl _) _
          have HBG3 : Hid ((w23.alloc (.cells #[.int .i64 0, .slice none 0 0] 24)).heap[w23.heap.size]? = some (.cells #[.int .i64 0, .slice none 0 0] 24) ∧ W0.heap.size ≤ w23.heap.size) := ⟨heap_top w23 _, HBW2.out.size⟩
          have HBW3 : Hid (Below W0.heap.size W0 (w23.alloc (.cells #[.int .i64 0, .slice none 0 0] 24))) := HBW2.out.trans (hbn.mono HBW2.out.size)
          have HST3 := Lib.hid (HST2.out.on hbn)
          have HCP3 : Hid (∃ B, CpO (w23.alloc (.cells #[.int .i64 0, .slice none 0 0] 24)) B xa bs xc ya Y C yc) := HCP2.out.imp (fun _ h => h.on hbn)
          refine hK.out _ _ (HSS.out _ HBW3.out) (fun _ => ?_)
          clear hK K
          try simp only [Act.put, List.getElem_toArray, List.getElem_cons_zero, List.getElem_cons_succ, List.setIfInBounds_toArray, List.set_cons_zero, List.set_cons_succ]
          generalize w23.heap.size = bg at *
          generalize w23.alloc (.cells #[.int .i64 0, .slice none 0 0] 24) = w34 at *
          clear hbn
          refine wpAnyH_ready (rs := [5]) (by kernel_rfl) (by simp) ?_
          refine AllReadyH.cons rfl (fun K hK => ?_) (AllReadyH.nil)
          · skip
            go_simp
            have hbn : Below w34.heap.size w34 (w34.alloc (.cells #[.slice none 0 0, .slice none 0 0] 28)) := (Below.refl _ _).alloc (Nat.le_refl _) _
            have HBN4 : Hid ((w34.alloc (.cells #[.slice none 0 0, .slice none 0 0] 28)).heap[w34.heap.size]? = some (.cells #[.slice none 0 0, .slice none 0 0] 28) ∧ W0.heap.size ≤ w34.heap.size) := ⟨heap_top w34 _, HBW3.out.size⟩
            have HBW4 : Hid (Below W0.heap.size W0 (w34.alloc (.cells #[.slice none 0 0, .slice none 0 0] 28))) := HBW3.out.trans (hbn.mono HBW3.out.size)
            have HST4 := Lib.hid (HST3.out.on hbn)
            have HCP4 : Hid (∃ B, CpO (w34.alloc (.cells #[.slice none 0 0, .slice none 0 0] 28)) B xa bs xc ya Y C yc) := HCP3.out.imp (fun _ h => h.on hbn)
            have HBG4 : Hid ((w34.alloc (.cells #[.slice none 0 0, .slice none 0 0] 28)).heap[bg]? = some (.cells #[.int .i64 0, .slice none 0 0] 24) ∧ W0.heap.size ≤ bg) := ⟨(hbn.block _ (lt_of_block HBG3.out.1)).trans HBG3.out.1, HBG3.out.2⟩
            have hne : bg ≠ w34.heap.size := Nat.ne_of_lt (lt_of_block HBG3.out.1)
            refine hK.out _ _ (HSS.out _ HBW4.out) (fun _ => ?_)
            clear hK K
            try simp only [Act.put, List.getElem_toArray, List.getElem_cons_zero, List.getElem_cons_succ, List.setIfInBounds_toArray, List.set_cons_zero, List.set_cons_succ]
            generalize w34.heap.size = bn at *
            generalize w34.alloc (.cells #[.slice none 0 0, .slice none 0 0] 28) = w45 at *
            clear hbn
            have HTL := Lib.hid (tls_of HBW4.out HBG4.out.1 HBG4.out.2 HBN4.out.1 HBN4.out.2 hne HST4.out hc1 hc2 HCP4.out (N := N) (c := c) (xc := xc) (yc := yc) HCB.out)
            obtain ⟨⟨z0, z1⟩, zf0, zf1⟩ := two_cells HBG4.out.1
            have HZN : Hid (((w45.setCell ⟨bg, 0, none⟩ (.int .i64 N)).setCell ⟨bg, 1, none⟩ (.slice (some ⟨g, 0, none⟩) l.length c)).heap[bn]? = some (.cells #[.slice none 0 0, .slice none 0 0] 28)) := (Below.heap_setCell _ ⟨bg, 1, none⟩ _ bn (fun h => hne h.symm)).trans ((Below.heap_setCell _ ⟨bg, 0, none⟩ _ bn (fun h => hne h.symm)).trans HBN4.out.1)
            obtain ⟨⟨y0, y1⟩, yf0, yf1⟩ := two_cells HZN.out
            have HB61 : Hid (Below W0.heap.size W0 ((w45.setCell ⟨bg, 0, none⟩ (.int .i64 N)).setCell ⟨bg, 1, none⟩ (.slice (some ⟨g, 0, none⟩) l.length c))) := (HBW4.out.setCell (p := ⟨bg, 0, none⟩) HBG4.out.2 _).setCell (p := ⟨bg, 1, none⟩) HBG4.out.2 _
            refine wpAnyH_ready (rs := [6]) (by kernel_rfl) (by simp) ?_
            refine AllReadyH.cons rfl (fun K hK => ?_) AllReadyH.nil
            go_simp
            refine hK.out _ _ (HSS.out _ HB61.out) (fun _ => ?_)
            clear hK K
            try simp only [Act.put, List.getElem_toArray, List.getElem_cons_zero, List.getElem_cons_succ, List.setIfInBounds_toArray, List.set_cons_zero, List.set_cons_succ]
            refine wpAnyH_ready (rs := [7]) (by kernel_rfl) (by simp) ?_
            refine AllReadyH.cons rfl (fun K hK => ?_) AllReadyH.nil
            go_simp
            refine hK.out _ _ (HSS.out _ HTL.out.be) (fun _ => ?_)
            clear hK K
            try simp only [Act.put, List.getElem_toArray, List.getElem_cons_zero, List.getElem_cons_succ, List.setIfInBounds_toArray, List.set_cons_zero, List.set_cons_succ]
            refine wpAnyH_done (by kernel_rfl) ?_ _
            go_wp2_with fail
            go_meet
            case rel => exact ⟨bg, bn, g, c, xa, xc, ya, Y, yc, rfl, rfl, HTL⟩
        · skip
          go_simp
          have hbn : Below w23.heap.size w23 (w23.alloc (.cells #[.slice none 0 0, .slice none 0 0] 28)) := (Below.refl _ _).alloc (Nat.le_refl _) _
          have HBN3 : Hid ((w23.alloc (.cells #[.slice none 0 0, .slice none 0 0] 28)).heap[w23.heap.size]? = some (.cells #[.slice none 0 0, .slice none 0 0] 28) ∧ W0.heap.size ≤ w23.heap.size) := ⟨heap_top w23 _, HBW2.out.size⟩
          have HBW3 : Hid (Below W0.heap.size W0 (w23.alloc (.cells #[.slice none 0 0, .slice none 0 0] 28))) := HBW2.out.trans (hbn.mono HBW2.out.size)
          have HST3 := Lib.hid (HST2.out.on hbn)
          have HCP3 : Hid (∃ B, CpO (w23.alloc (.cells #[.slice none 0 0, .slice none 0 0] 28)) B xa bs xc ya Y C yc) := HCP2.out.imp (fun _ h => h.on hbn)
          refine hK.out _ _ (HSS.out _ HBW3.out) (fun _ => ?_)
          clear hK K
          try simp only [Act.put, List.getElem_toArray, List.getElem_cons_zero, List.getElem_cons_succ, List.setIfInBounds_toArray, List.set_cons_zero, List.set_cons_succ]
          generalize w23.heap.size = bn at *
          generalize w23.alloc (.cells #[.slice none 0 0, .slice none 0 0] 28) = w35 at *
          clear hbn
          refine wpAnyH_ready (rs := [4]) (by kernel_rfl) (by simp) ?_
          refine AllReadyH.cons rfl (fun K hK => ?_) (AllReadyH.nil)
          · skip
            go_simp
            have hbn : Below w35.heap.size w35 (w35.alloc (.cells #[.int .i64 0, .slice none 0 0] 24)) := (Below.refl _ _).alloc (Nat.le_refl _) _
            have HBG4 : Hid ((w35.alloc (.cells #[.int .i64 0, .slice none 0 0] 24)).heap[w35.heap.size]? = some (.cells #[.int .i64 0, .slice none 0 0] 24) ∧ W0.heap.size ≤ w35.heap.size) := ⟨heap_top w35 _, HBW3.out.size⟩
            have HBW4 : Hid (Below W0.heap.size W0 (w35.alloc (.cells #[.int .i64 0, .slice none 0 0] 24))) := HBW3.out.trans (hbn.mono HBW3.out.size)
            have HST4 := Lib.hid (HST3.out.on hbn)
            have HCP4 : Hid (∃ B, CpO (w35.alloc (.cells #[.int .i64 0, .slice none 0 0] 24)) B xa bs xc ya Y C yc) := HCP3.out.imp (fun _ h => h.on hbn)
            have HBN4 : Hid ((w35.alloc (.cells #[.int .i64 0, .slice none 0 0] 24)).heap[bn]? = some (.cells #[.slice none 0 0, .slice none 0 0] 28) ∧ W0.heap.size ≤ bn) := ⟨(hbn.block _ (lt_of_block HBN3.out.1)).trans HBN3.out.1, HBN3.out.2⟩
            have hne : w35.heap.size ≠ bn := Nat.ne_of_gt (lt_of_block HBN3.out.1)
            refine hK.out _ _ (HSS.out _ HBW4.out) (fun _ => ?_)
            clear hK K
            try simp only [Act.put, List.getElem_toArray, List.getElem_cons_zero, List.getElem_cons_succ, List.setIfInBounds_toArray, List.set_cons_zero, List.set_cons_succ]
            generalize w35.heap.size = bg at *
            generalize w35.alloc (.cells #[.int .i64 0, .slice none 0 0] 24) = w44 at *
            clear hbn
            have HTL := Lib.hid (tls_of HBW4.out HBG4.out.1 HBG4.out.2 HBN4.out.1 HBN4.out.2 hne HST4.out hc1 hc2 HCP4.out (N := N) (c := c) (xc := xc) (yc := yc) HCB.out)
            obtain ⟨⟨z0, z1⟩, zf0, zf1⟩ := two_cells HBG4.out.1
            have HZN : Hid (((w44.setCell ⟨bg, 0, none⟩ (.int .i64 N)).setCell ⟨bg, 1, none⟩ (.slice (some ⟨g, 0, none⟩) l.length c)).heap[bn]? = some (.cells #[.slice none 0 0, .slice none 0 0] 28)) := (Below.heap_setCell _ ⟨bg, 1, none⟩ _ bn (fun h => hne h.symm)).trans ((Below.heap_setCell _ ⟨bg, 0, none⟩ _ bn (fun h => hne h.symm)).trans HBN4.out.1)
            obtain ⟨⟨y0, y1⟩, yf0, yf1⟩ := two_cells HZN.out
            have HB61 : Hid (Below W0.heap.size W0 ((w44.setCell ⟨bg, 0, none⟩ (.int .i64 N)).setCell ⟨bg, 1, none⟩ (.slice (some ⟨g, 0, none⟩) l.length c))) := (HBW4.out.setCell (p := ⟨bg, 0, none⟩) HBG4.out.2 _).setCell (p := ⟨bg, 1, none⟩) HBG4.out.2 _
            refine wpAnyH_ready (rs := [6]) (by kernel_rfl) (by simp) ?_
            refine AllReadyH.cons rfl (fun K hK => ?_) AllReadyH.nil
            go_simp
            refine hK.out _ _ (HSS.out _ HB61.out) (fun _ => ?_)
            clear hK K
            try simp only [Act.put, List.getElem_toArray, List.getElem_cons_zero, List.getElem_cons_succ, List.setIfInBounds_toArray, List.set_cons_zero, List.set_cons_succ]
            refine wpAnyH_ready (rs := [7]) (by kernel_rfl) (by simp) ?_
            refine AllReadyH.cons rfl (fun K hK => ?_) AllReadyH.nil
            go_simp
            refine hK.out _ _ (HSS.out _ HTL.out.be) (fun _ => ?_)
            clear hK K
            try simp only [Act.put, List.getElem_toArray, List.getElem_cons_zero, List.getElem_cons_succ, List.setIfInBounds_toArray, List.set_cons_zero, List.set_cons_succ]
            refine wpAnyH_done (by kernel_rfl) ?_ _
            go_wp2_with fail
            go_meet
            case rel => exact ⟨bg, bn, g, c, xa, xc, ya, Y, yc, rfl, rfl, HTL⟩
      · skip
        go_simp
        have hbn : Below w11.heap.size w11 (w11.alloc (.cells #[.int .i64 0, .slice none 0 0] 24)) := (Below.refl _ _).alloc (Nat.le_refl _) _
        have HBG2 : Hid ((w11.alloc (.cells #[.int .i64 0, .slice none 0 0] 24)).heap[w11.heap.size]? = some (.cells #[.int .i64 0, .slice none 0 0] 24) ∧ W0.heap.size ≤ w11.heap.size) := ⟨heap_top w11 _, HBW1.out.size⟩
        have HBW2 : Hid (Below W0.heap.size W0 (w11.alloc (.cells #[.int .i64 0, .slice none 0 0] 24))) := HBW1.out.trans (hbn.mono HBW1.out.size)
        have HST2 := Lib.hid (HST1.out.on hbn)
        refine hK.out _ _ (HSS.out _ HBW2.out) (fun _ => ?_)
        clear hK K
        try simp only [Act.put, List.getElem_toArray, List.getElem_cons_zero, List.getElem_cons_succ, List.setIfInBounds_toArray, List.set_cons_zero, List.set_cons_succ]
        generalize w11.heap.size = bg at *
        generalize w11.alloc (.cells #[.int .i64 0, .slice none 0 0] 24) = w24 at *
        clear hbn
        refine wpAnyH_ready (rs := [3, 5]) (by kernel_rfl) (by simp) ?_
        refine AllReadyH.cons rfl (fun K hK => ?_) (AllReadyH.cons rfl (fun K hK => ?_) (AllReadyH.nil))
        · skip
          rw [if_pos (by rfl)]
          go_simp
          refine (HCN.out w24 HBW2.out).mono ?_
          rintro e w33 ⟨xa, xc, ya, Y, yc, rfl, hcpo, hbn⟩
          have HCP3 : Hid (∃ B, CpO w33 B xa bs xc ya Y C yc) := ⟨_, hcpo⟩
          clear hcpo
          have HBW3 : Hid (Below W0.heap.size W0 w33) := HBW2.out.trans (hbn.mono HBW2.out.size)
          have HST3 := Lib.hid (HST2.out.on hbn)
          have HBG3 : Hid (w33.heap[bg]? = some (.cells #[.int .i64 0, .slice none 0 0] 24) ∧ W0.heap.size ≤ bg) := ⟨(hbn.block _ (lt_of_block HBG2.out.1)).trans HBG2.out.1, HBG2.out.2⟩
          refine hK.out _ _ (HSS.out _ HBW3.out) (fun _ => ?_)
          clear hK K
          try simp only [Act.put, List.getElem_toArray, List.getElem_cons_zero, List.getElem_cons_succ, List.setIfInBounds_toArray, List.set_cons_zero, List.set_cons_succ]
          clear hbn
          refine wpAnyH_ready (rs := [5]) (by kernel_rfl) (by simp) ?_
          refine AllReadyH.cons rfl (fun K hK => ?_) (AllReadyH.nil)
          · skip
            go_simp
            have hbn : Below w33.heap.size w33 (w33.alloc (.cells #[.slice none 0 0, .slice none 0 0] 28)) := (Below.refl _ _).alloc (Nat.le_refl _) _
            have HBN4 : Hid ((w33.alloc (.cells #[.slice none 0 0, .slice none 0 0] 28)).heap[w33.heap.size]? = some (.cells #[.slice none 0 0, .slice none 0 0] 28) ∧ W0.heap.size ≤ w33.heap.size) := ⟨heap_top w33 _, HBW3.out.size⟩
            have HBW4 : Hid (Below W0.heap.size W0 (w33.alloc (.cells #[.slice none 0 0, .slice none 0 0] 28))) := HBW3.out.trans (hbn.mono HBW3.out.size)
            have HST4 := Lib.hid (HST3.out.on hbn)
            have HBG4 : Hid ((w33.alloc (.cells #[.slice none 0 0, .slice none 0 0] 28)).heap[bg]? = some (.cells #[.int .i64 0, .slice none 0 0] 24) ∧ W0.heap.size ≤ bg) := ⟨(hbn.block _ (lt_of_block HBG3.out.1)).trans HBG3.out.1, HBG3.out.2⟩
            have HCP4 : Hid (∃ B, CpO (w33.alloc (.cells #[.slice none 0 0, .slice none 0 0] 28)) B xa bs xc ya Y C yc) := HCP3.out.imp (fun _ h => h.on hbn)
            have hne : bg ≠ w33.heap.size := Nat.ne_of_lt (lt_of_block HBG3.out.1)
            refine hK.out _ _ (HSS.out _ HBW4.out) (fun _ => ?_)
            clear hK K
            try simp only [Act.put, List.getElem_toArray, List.getElem_cons_zero, List.getElem_cons_succ, List.setIfInBounds_toArray, List.set_cons_zero, List.set_cons_succ]
            generalize w33.heap.size = bn at *
            generalize w33.alloc (.cells #[.slice none 0 0, .slice none 0 0] 28) = w45 at *
            clear hbn
            have HTL := Lib.hid (tls_of HBW4.out HBG4.out.1 HBG4.out.2 HBN4.out.1 HBN4.out.2 hne HST4.out hc1 hc2 HCP4.out (N := N) (c := c) (xc := xc) (yc := yc) HCB.out)
            obtain ⟨⟨z0, z1⟩, zf0, zf1⟩ := two_cells HBG4.out.1
            have HZN : Hid (((w45.setCell ⟨bg, 0, none⟩ (.int .i64 N)).setCell ⟨bg, 1, none⟩ (.slice (some ⟨g, 0, none⟩) l.length c)).heap[bn]? = some (.cells #[.slice none 0 0, .slice none 0 0] 28)) := (Below.heap_setCell _ ⟨bg, 1, none⟩ _ bn (fun h => hne h.symm)).trans ((Below.heap_setCell _ ⟨bg, 0, none⟩ _ bn (fun h => hne h.symm)).trans HBN4.out.1)
            obtain ⟨⟨y0, y1⟩, yf0, yf1⟩ := two_cells HZN.out
            have HB61 : Hid (Below W0.heap.size W0 ((w45.setCell ⟨bg, 0, none⟩ (.int .i64 N)).setCell ⟨bg, 1, none⟩ (.slice (some ⟨g, 0, none⟩) l.length c))) := (HBW4.out.setCell (p := ⟨bg, 0, none⟩) HBG4.out.2 _).setCell (p := ⟨bg, 1, none⟩) HBG4.out.2 _
            refine wpAnyH_ready (rs := [6]) (by kernel_rfl) (by simp) ?_
            refine AllReadyH.cons rfl (fun K hK => ?_) AllReadyH.nil
            go_simp
            refine hK.out _ _ (HSS.out _ HB61.out) (fun _ => ?_)
            clear hK K
            try simp only [Act.put, List.getElem_toArray, List.getElem_cons_zero, List.getElem_cons_succ, List.setIfInBounds_toArray, List.set_cons_zero, List.set_cons_succ]
            refine wpAnyH_ready (rs := [7]) (by kernel_rfl) (by simp) ?_
            refine AllReadyH.cons rfl (fun K hK => ?_) AllReadyH.nil
            go_simp
            refine hK.out _ _ (HSS.out _ HTL.out.be) (fun _ => ?_)
            clear hK K
            try simp only [Act.put, List.getElem_toArray, List.getElem_cons_zero, List.getElem_cons_succ, List.setIfInBounds_toArray, List.set_cons_zero, List.set_cons_succ]
            refine wpAnyH_done (by kernel_rfl) ?_ _
            go_wp2_with fail
            go_meet
            case rel => exact ⟨bg, bn, g, c, xa, xc, ya, Y, yc, rfl, rfl, HTL⟩
        · skip
          go_simp
          have hbn : Below w24.heap.size w24 (w24.alloc (.cells #[.slice none 0 0, .slice none 0 0] 28)) := (Below.refl _ _).alloc (Nat.le_refl _) _
          have HBN3 : Hid ((w24.alloc (.cells #[.slice none 0 0, .slice none 0 0] 28)).heap[w24.heap.size]? = some (.cells #[.slice none 0 0, .slice none 0 0] 28) ∧ W0.heap.size ≤ w24.heap.size) := ⟨heap_top w24 _, HBW2.out.size⟩
          have HBW3 : Hid (Below W0.heap.size W0 (w24.alloc (.cells #[.slice none 0 0, .slice none 0 0] 28))) := HBW2.out.trans (hbn.mono HBW2.out.size)
          have HST3 := Lib.hid (HST2.out.on hbn)
          have HBG3 : Hid ((w24.alloc (.cells #[.slice none 0 0, .slice none 0 0] 28)).heap[bg]? = some (.cells #[.int .i64 0, .slice none 0 0] 24) ∧ W0.heap.size ≤ bg) := ⟨(hbn.block _ (lt_of_block HBG2.out.1)).trans HBG2.out.1, HBG2.out.2⟩
          have hne : bg ≠ w24.heap.size := Nat.ne_of_lt (lt_of_block HBG2.out.1)
          refine hK.out _ _ (HSS.out _ HBW3.out) (fun _ => ?_)
          clear hK K
          try simp only [Act.put, List.getElem_toArray, List.getElem_cons_zero, List.getElem_cons_succ, List.setIfInBounds_toArray, List.set_cons_zero, List.set_cons_succ]
          generalize w24.heap.size = bn at *
          generalize w24.alloc (.cells #[.slice none 0 0, .slice none 0 0] 28) = w35 at *
          clear hbn
          refine wpAnyH_ready (rs := [3]) (by kernel_rfl) (by simp) ?_
          refine AllReadyH.cons rfl (fun K hK => ?_) (AllReadyH.nil)
          · skip
            rw [if_pos (by rfl)]
            go_simp
            refine (HCN.out w35 HBW3.out).mono ?_
            rintro e w43 ⟨xa, xc, ya, Y, yc, rfl, hcpo, hbn⟩
            have HCP4 : Hid (∃ B, CpO w43 B xa bs xc ya Y C yc) := ⟨_, hcpo⟩
            clear hcpo
            have HBW4 : Hid (Below W0.heap.size W0 w43) := HBW3.out.trans (hbn.mono HBW3.out.size)
            have HST4 := Lib.hid (HST3.out.on hbn)
            have HBG4 : Hid (w43.heap[bg]? = some (.cells #[.int .i64 0, .slice none 0 0] 24) ∧ W0.heap.size ≤ bg) := ⟨(hbn.block _ (lt_of_block HBG3.out.1)).trans HBG3.out.1, HBG3.out.2⟩
            have HBN4 : Hid (w43.heap[bn]? = some (.cells #[.slice none 0 0, .slice none 0 0] 28) ∧ W0.heap.size ≤ bn) := ⟨(hbn.block _ (lt_of_block HBN3.out.1)).trans HBN3.out.1, HBN3.out.2⟩
            refine hK.out _ _ (HSS.out _ HBW4.out) (fun _ => ?_)
            clear hK K
            try simp only [Act.put, List.getElem_toArray, List.getElem_cons_zero, List.getElem_cons_succ, List.setIfInBounds_toArray, List.set_cons_zero, List.set_cons_succ]
            clear hbn
            have HTL := Lib.hid (tls_of HBW4.out HBG4.out.1 HBG4.out.2 HBN4.out.1 HBN4.out.2 hne HST4.out hc1 hc2 HCP4.out (N := N) (c := c) (xc := xc) (yc := yc) HCB.out)
            obtain ⟨⟨z0, z1⟩, zf0, zf1⟩ := two_cells HBG4.out.1
            have HZN : Hid (((w43.setCell ⟨bg, 0, none⟩ (.int .i64 N)).setCell ⟨bg, 1, none⟩ (.slice (some ⟨g, 0, none⟩) l.length c)).heap[bn]? = some (.cells #[.slice none 0 0, .slice none 0 0] 28)) := (Below.heap_setCell _ ⟨bg, 1, none⟩ _ bn (fun h => hne h.symm)).trans ((Below.heap_setCell _ ⟨bg, 0, none⟩ _ bn (fun h => hne h.symm)).trans HBN4.out.1)
            obtain ⟨⟨y0, y1⟩, yf0, yf1⟩ := two_cells HZN.out
            have HB61 : Hid (Below W0.heap.size W0 ((w43.setCell ⟨bg, 0, none⟩ (.int .i64 N)).setCell ⟨bg, 1, none⟩ (.slice (some ⟨g, 0, none⟩) l.length c))) := (HBW4.out.setCell (p := ⟨bg, 0, none⟩) HBG4.out.2 _).setCell (p := ⟨bg, 1, none⟩) HBG4.out.2 _
            refine wpAnyH_ready (rs := [6]) (by kernel_rfl) (by simp) ?_
            refine AllReadyH.cons rfl (fun K hK => ?_) AllReadyH.nil
            go_simp
            refine hK.out _ _ (HSS.out _ HB61.out) (fun _ => ?_)
            clear hK K
            try simp only [Act.put, List.getElem_toArray, List.getElem_cons_zero, List.getElem_cons_succ, List.setIfInBounds_toArray, List.set_cons_zero, List.set_cons_succ]
            refine wpAnyH_ready (rs := [7]) (by kernel_rfl) (by simp) ?_
            refine AllReadyH.cons rfl (fun K hK => ?_) AllReadyH.nil
            go_simp
            refine hK.out _ _ (HSS.out _ HTL.out.be) (fun _ => ?_)
            clear hK K
            try simp only [Act.put, List.getElem_toArray, List.getElem_cons_zero, List.getElem_cons_succ, List.setIfInBounds_toArray, List.set_cons_zero, List.set_cons_succ]
            refine wpAnyH_done (by kernel_rfl) ?_ _
            go_wp2_with fail
            go_meet
            case rel => exact ⟨bg, bn, g, c, xa, xc, ya, Y, yc, rfl, rfl, HTL⟩
      · skip
        go_simp
        have hbn : Below w11.heap.size w11 (w11.alloc (.cells #[.slice none 0 0, .slice none 0 0] 28)) := (Below.refl _ _).alloc (Nat.le_refl _) _
        have HBN2 : Hid ((w11.alloc (.cells #[.slice none 0 0, .slice none 0 0] 28)).heap[w11.heap.size]? = some (.cells #[.slice none 0 0, .slice none 0 0] 28) ∧ W0.heap.size ≤ w11.heap.size) := ⟨heap_top w11 _, HBW1.out.size⟩
        have HBW2 : Hid (Below W0.heap.size W0 (w11.alloc (.cells #[.slice none 0 0, .slice none 0 0] 28))) := HBW1.out.trans (hbn.mono HBW1.out.size)
        have HST2 := Lib.hid (HST1.out.on hbn)
        refine hK.out _ _ (HSS.out _ HBW2.out) (fun _ => ?_)
        clear hK K
        try simp only [Act.put, List.getElem_toArray, List.getElem_cons_zero, List.getElem_cons_succ, List.setIfInBounds_toArray, List.set_cons_zero, List.set_cons_succ]
        generalize w11.heap.size = bn at *
        generalize w11.alloc (.cells #[.slice none 0 0, .slice none 0 0] 28) = w25 at *
        clear hbn
        refine wpAnyH_ready (rs := [3, 4]) (by kernel_rfl) (by simp) ?_
        refine AllReadyH.cons rfl (fun K hK => ?_) (AllReadyH.cons rfl (fun K hK => ?_) (AllReadyH.nil))
        · skip
          rw [if_pos (by rfl)]
          go_simp
          refine (HCN.out w25 HBW2.out).mono ?_
          rintro e w33 ⟨xa, xc, ya, Y, yc, rfl, hcpo, hbn⟩
          have HCP3 : Hid (∃ B, CpO w33 B xa bs xc ya Y C yc) := ⟨_, hcpo⟩
          clear hcpo
          have HBW3 : Hid (Below W0.heap.size W0 w33) := HBW2.out.trans (hbn.mono HBW2.out.size)
          have HST3 := Lib.hid (HST2.out.on hbn)
          have HBN3 : Hid (w33.heap[bn]? = some (.cells #[.slice none 0 0, .slice none 0 0] 28) ∧ W0.heap.size ≤ bn) := ⟨(hbn.block _ (lt_of_block HBN2.out.1)).trans HBN2.out.1, HBN2.out.2⟩
          refine hK.out _ _ (HSS.out _ HBW3.out) (fun _ => ?_)
          clear hK K
          try simp only [Act.put, List.getElem_toArray, List.getElem_cons_zero, List.getElem_cons_succ, List.setIfInBounds_toArray, List.set_cons_zero, List.set_cons_succ]
          clear hbn
          refine wpAnyH_ready (rs := [4]) (by kernel_rfl) (by simp) ?_
          refine AllReadyH.cons rfl (fun K hK => ?_) (AllReadyH.nil)
          · skip
            go_simp
            have hbn : Below w33.heap.size w33 (w33.alloc (.cells #[.int .i64 0, .slice none 0 0] 24)) := (Below.refl _ _).alloc (Nat.le_refl _) _
            have HBG4 : Hid ((w33.alloc (.cells #[.int .i64 0, .slice none 0 0] 24)).heap[w33.heap.size]? = some (.cells #[.int .i64 0, .slice none 0 0] 24) ∧ W0.heap.size ≤ w33.heap.size) := ⟨heap_top w33 _, HBW3.out.size⟩
            have HBW4 : Hid (Below W0.heap.size W0 (w33.alloc (.cells #[.int .i64 0, .slice none 0 0] 24))) := HBW3.out.trans (hbn.mono HBW3.out.size)
            have HST4 := Lib.hid (HST3.out.on hbn)
            have HBN4 : Hid ((w33.alloc (.cells #[.int .i64 0, .slice none 0 0] 24)).heap[bn]? = some (.cells #[.slice none 0 0, .slice none 0 0] 28) ∧ W0.heap.size ≤ bn) := ⟨(hbn.block _ (lt_of_block HBN3.out.1)).trans HBN3.out.1, HBN3.out.2⟩
            have HCP4 : Hid (∃ B, CpO (w33.alloc (.cells #[.int .i64 0, .slice none 0 0] 24)) B xa bs xc ya Y C yc) := HCP3.out.imp (fun _ h => h.on hbn)
            have hne : w33.heap.size ≠ bn := Nat.ne_of_gt (lt_of_block HBN3.out.1)
            refine hK.out _ _ (HSS.out _ HBW4.out) (fun _ => ?_)
            clear hK K
            try simp only [Act.put, List.getElem_toArray, List.getElem_cons_zero, List.getElem_cons_succ, List.setIfInBounds_toArray, List.set_cons_zero, List.set_cons_succ]
            generalize w33.heap.size = bg at *
            generalize w33.alloc (.cells #[.int .i64 0, .slice none 0 0] 24) = w44 at *
            clear hbn
            have HTL := Lib.hid (tls_of HBW4.out HBG4.out.1 HBG4.out.2 HBN4.out.1 HBN4.out.2 hne HST4.out hc1 hc2 HCP4.out (N := N) (c := c) (xc := xc) (yc := yc) HCB.out)
            obtain ⟨⟨z0, z1⟩, zf0, zf1⟩ := two_cells HBG4.out.1
            have HZN : Hid (((w44.setCell ⟨bg, 0, none⟩ (.int .i64 N)).setCell ⟨bg, 1, none⟩ (.slice (some ⟨g, 0, none⟩) l.length c)).heap[bn]? = some (.cells #[.slice none 0 0, .slice none 0 0] 28)) := (Below.heap_setCell _ ⟨bg, 1, none⟩ _ bn (fun h => hne h.symm)).trans ((Below.heap_setCell _ ⟨bg, 0, none⟩ _ bn (fun h => hne h.symm)).trans HBN4.out.1)
            obtain ⟨⟨y0, y1⟩, yf0, yf1⟩ := two_cells HZN.out
            have HB61 : Hid (Below W0.heap.size W0 ((w44.setCell ⟨bg, 0, none⟩ (.int .i64 N)).setCell ⟨bg, 1, none⟩ (.slice (some ⟨g, 0, none⟩) l.length c))) := (HBW4.out.setCell (p := ⟨bg, 0, none⟩) HBG4.out.2 _).setCell (p := ⟨bg, 1, none⟩) HBG4.out.2 _
            refine wpAnyH_ready (rs := [6]) (by kernel_rfl) (by simp) ?_
            refine AllReadyH.cons rfl (fun K hK => ?_) AllReadyH.nil
            go_simp
            refine hK.out _ _ (HSS.out _ HB61.out) (fun _ => ?_)
            clear hK K
            try simp only [Act.put, List.getElem_toArray, List.getElem_cons_zero, List.getElem_cons_succ, List.setIfInBounds_toArray, List.set_cons_zero, List.set_cons_succ]
            refine wpAnyH_ready (rs := [7]) (by kernel_rfl) (by simp) ?_
            refine AllReadyH.cons rfl (fun K hK => ?_) AllReadyH.nil
            go_simp
            refine hK.out _ _ (HSS.out _ HTL.out.be) (fun _ => ?_)
            clear hK K
            try simp only [Act.put, List.getElem_toArray, List.getElem_cons_zero, List.getElem_cons_succ, List.setIfInBounds_toArray, List.set_cons_zero, List.set_cons_succ]
            refine wpAnyH_done (by kernel_rfl) ?_ _
            go_wp2_with fail
            go_meet
            case rel => exact ⟨bg, bn, g, c, xa, xc, ya, Y, yc, rfl, rfl, HTL⟩
        · skip
          go_simp
          have hbn : Below w25.heap.size w25 (w25.alloc (.cells #[.int .i64 0, .slice none 0 0] 24)) := (Below.refl _ _).alloc (Nat.le_refl _) _
          have HBG3 : Hid ((w25.alloc (.cells #[.int .i64 0, .slice none 0 0] 24)).heap[w25.heap.size]? = some (.cells #[.int .i64 0, .slice none 0 0] 24) ∧ W0.heap.size ≤ w25.heap.size) := ⟨heap_top w25 _, HBW2.out.size⟩
          have HBW3 : Hid (Below W0.heap.size W0 (w25.alloc (.cells #[.int .i64 0, .slice none 0 0] 24))) := HBW2.out.trans (hbn.mono HBW2.out.size)
          have HST3 := Lib.hid (HST2.out.on hbn)
          have HBN3 : Hid ((w25.alloc (.cells #[.int .i64 0, .slice none 0 0] 24)).heap[bn]? = some (.cells #[.slice none 0 0, .slice none 0 0] 28) ∧ W0.heap.size ≤ bn) := ⟨(hbn.block _ (lt_of_block HBN2.out.1)).trans HBN2.out.1, HBN2.out.2⟩
          have hne : w25.heap.size ≠ bn := Nat.ne_of_gt (lt_of_block HBN2.out.1)
          refine hK.out _ _ (HSS.out _ HBW3.out) (fun _ => ?_)
          clear hK K
          try simp only [Act.put, List.getElem_toArray, List.getElem_cons_zero, List.getElem_cons_succ, List.setIfInBounds_toArray, List.set_cons_zero, List.set_cons_succ]
          generalize w25.heap.size = bg at *
          generalize w25.alloc (.cells #[.int .i64 0, .slice none 0 0] 24) = w34 at *
          clear hbn
          refine wpAnyH_ready (rs := [3]) (by kernel_rfl) (by simp) ?_
          refine AllReadyH.cons rfl (fun K hK => ?_) (AllReadyH.nil)
          · skip
            rw [if_pos (by rfl)]
            go_simp
            refine (HCN.out w34 HBW3.out).mono ?_
            rintro e w43 ⟨xa, xc, ya, Y, yc, rfl, hcpo, hbn⟩
            have HCP4 : Hid (∃ B, CpO w43 B xa bs xc ya Y C yc) := ⟨_, hcpo⟩
            clear hcpo
            have HBW4 : Hid (Below W0.heap.size W0 w43) := HBW3.out.trans (hbn.mono HBW3.out.size)
            have HST4 := Lib.hid (HST3.out.on hbn)
            have HBN4 : Hid (w43.heap[bn]? = some (.cells #[.slice none 0 0, .slice none 0 0] 28) ∧ W0.heap.size ≤ bn) := ⟨(hbn.block _ (lt_of_block HBN3.out.1)).trans HBN3.out.1, HBN3.out.2⟩
            have HBG4 : Hid (w43.heap[bg]? = some (.cells #[.int .i64 0, .slice none 0 0] 24) ∧ W0.heap.size ≤ bg) := ⟨(hbn.block _ (lt_of_block HBG3.out.1)).trans HBG3.out.1, HBG3.out.2⟩
            refine hK.out _ _ (HSS.out _ HBW4.out) (fun _ => ?_)
            clear hK K
            try simp only [Act.put, List.getElem_toArray, List.getElem_cons_zero, List.getElem_cons_succ, List.setIfInBounds_toArray, List.set_cons_zero, List.set_cons_succ]
            clear hbn
            have HTL := Lib.hid (tls_of HBW4.out HBG4.out.1 HBG4.out.2 HBN4.out.1 HBN4.out.2 hne HST4.out hc1 hc2 HCP4.out (N := N) (c := c) (xc := xc) (yc := yc) HCB.out)
            obtain ⟨⟨z0, z1⟩, zf0, zf1⟩ := two_cells HBG4.out.1
            have HZN : Hid (((w43.setCell ⟨bg, 0, none⟩ (.int .i64 N)).setCell ⟨bg, 1, none⟩ (.slice (some ⟨g, 0, none⟩) l.length c)).heap[bn]? = some (.cells #[.slice none 0 0, .slice none 0 0] 28)) := (Below.heap_setCell _ ⟨bg, 1, none⟩ _ bn (fun h => hne h.symm)).trans ((Below.heap_setCell _ ⟨bg, 0, none⟩ _ bn (fun h => hne h.symm)).trans HBN4.out.1)
            obtain ⟨⟨y0, y1⟩, yf0, yf1⟩ := two_cells HZN.out
            have HB61 : Hid (Below W0.heap.size W0 ((w43.setCell ⟨bg, 0, none⟩ (.int .i64 N)).setCell ⟨bg, 1, none⟩ (.slice (some ⟨g, 0, none⟩) l.length c))) := (HBW4.out.setCell (p := ⟨bg, 0, none⟩) HBG4.out.2 _).setCell (p := ⟨bg, 1, none⟩) HBG4.out.2 _
            refine wpAnyH_ready (rs := [6]) (by kernel_rfl) (by simp) ?_
            refine AllReadyH.cons rfl (fun K hK => ?_) AllReadyH.nil
            go_simp
            refine hK.out _ _ (HSS.out _ HB61.out) (fun _ => ?_)
            clear hK K
            try simp only [Act.put, List.getElem_toArray, List.getElem_cons_zero, List.getElem_cons_succ, List.setIfInBounds_toArray, List.set_cons_zero, List.set_cons_succ]
            refine wpAnyH_ready (rs := [7]) (by kernel_rfl) (by simp) ?_
            refine AllReadyH.cons rfl (fun K hK => ?_) AllReadyH.nil
            go_simp
            refine hK.out _ _ (HSS.out _ HTL.out.be) (fun _ => ?_)
            clear hK K
            try simp only [Act.put, List.getElem_toArray, List.getElem_cons_zero, List.getElem_cons_succ, List.setIfInBounds_toArray, List.set_cons_zero, List.set_cons_succ]
            refine wpAnyH_done (by kernel_rfl) ?_ _
            go_wp2_with fail
            go_meet
            case rel => exact ⟨bg, bn, g, c, xa, xc, ya, Y, yc, rfl, rfl, HTL⟩
    · skip
      go_simp
      have hbn : Below Wd.heap.size Wd (Wd.alloc (.cells #[.int .i64 0, .slice none 0 0] 24)) := (Below.refl _ _).alloc (Nat.le_refl _) _
      have HBG1 : Hid ((Wd.alloc (.cells #[.int .i64 0, .slice none 0 0] 24)).heap[Wd.heap.size]? = some (.cells #[.int .i64 0, .slice none 0 0] 24) ∧ W0.heap.size ≤ Wd.heap.size) := ⟨heap_top Wd _, HB00.out.size⟩
      have HBW1 : Hid (Below W0.heap.size W0 (Wd.alloc (.cells #[.int .i64 0, .slice none 0 0] 24))) := HB00.out.trans (hbn.mono HB00.out.size)
      refine hK.out _ _ (HSS.out _ HBW1.out) (fun _ => ?_)
      clear hK K
      try simp only [Act.put, List.getElem_toArray, List.getElem_cons_zero, List.getElem_cons_succ, List.setIfInBounds_toArray, List.set_cons_zero, List.set_cons_succ]
      generalize Wd.heap.size = bg at *
      generalize Wd.alloc (.cells #[.int .i64 0, .slice none 0 0] 24) = w14 at *
      clear hbn
      refine wpAnyH_ready (rs := [1, 5]) (by kernel_rfl) (by simp) ?_
      refine AllReadyH.cons rfl (fun K hK => ?_) (AllReadyH.cons rfl (fun K hK => ?_) (AllReadyH.nil))
      · skip
        rw [if_pos (by rfl)]
        go_simp
        refine (HLG.out w14 HBW1.out).mono ?_
        rintro e w21 ⟨g, c, rfl, hc1, hc2, hown, hbn⟩
        have HST2 := Lib.hid (still_own hown)
        have HBW2 : Hid (Below W0.heap.size W0 w21) := HBW1.out.trans (hbn.mono HBW1.out.size)
        have HBG2 : Hid (w21.heap[bg]? = some (.cells #[.int .i64 0, .slice none 0 0] 24) ∧ W0.heap.size ≤ bg) := ⟨(hbn.block _ (lt_of_block HBG1.out.1)).trans HBG1.out.1, HBG1.out.2⟩
        refine hK.out _ _ (HSS.out _ HBW2.out) (fun _ => ?_)
        clear hK K
        try simp only [Act.put, List.getElem_toArray, List.getElem_cons_zero, List.getElem_cons_succ, List.setIfInBounds_toArray, List.set_cons_zero, List.set_cons_succ]
        clear hbn
        refine wpAnyH_ready (rs := [3, 5]) (by kernel_rfl) (by simp) ?_
        refine AllReadyH.cons rfl (fun K hK => ?_) (AllReadyH.cons rfl (fun K hK => ?_) (AllReadyH.nil))
        · skip
          rw [if_pos (by rfl)]
          go_simp
          refine (HCN.out w21 HBW2.out).mono ?_
          rintro e w33 ⟨xa, xc, ya, Y, yc, rfl, hcpo, hbn⟩
          have HCP3 : Hid (∃ B, CpO w33 B xa bs xc ya Y C yc) := ⟨_, hcpo⟩
          clear hcpo
          have HBW3 : Hid (Below W0.heap.size W0 w33) := HBW2.out.trans (hbn.mono HBW2.out.size)
          have HBG3 : Hid (w33.heap[bg]? = some (.cells #[.int .i64 0, .slice none 0 0] 24) ∧ W0.heap.size ≤ bg) := ⟨(hbn.block _ (lt_of_block HBG2.out.1)).trans HBG2.out.1, HBG2.out.2⟩
          have HST3 := Lib.hid (HST2.out.on hbn)
          refine hK.out _ _ (HSS.out _ HBW3.out) (fun _ => ?_)
          clear hK K
          try simp only [Act.put, List.getElem_toArray, List.getElem_cons_zero, List.getElem_cons_succ, List.setIfInBounds_toArray, List.set_cons_zero, List.set_cons_succ]
          clear hbn
          refine wpAnyH_ready (rs := [5]) (by kernel_rfl) (by simp) ?_
          refine AllReadyH.cons rfl (fun K hK => ?_) (AllReadyH.nil)
          · skip
            go_simp
            have hbn : Below w33.heap.size w33 (w33.alloc (.cells #[.slice none 0 0, .slice none 0 0] 28)) := (Below.refl _ _).alloc (Nat.le_refl _) _
            have HBN4 : Hid ((w33.alloc (.cells #[.slice none 0 0, .slice none 0 0] 28)).heap[w33.heap.size]? = some (.cells #[.slice none 0 0, .slice none 0 0] 28) ∧ W0.heap.size ≤ w33.heap.size) := ⟨heap_top w33 _, HBW3.out.size⟩
            have HBW4 : Hid (Below W0.heap.size W0 (w33.alloc (.cells #[.slice none 0 0, .slice none 0 0] 28))) := HBW3.out.trans (hbn.mono HBW3.out.size)
            have HBG4 : Hid ((w33.alloc (.cells #[.slice none 0 0, .slice none 0 0] 28)).heap[bg]? = some (.cells #[.int .i64 0, .slice none 0 0] 24) ∧ W0.heap.size ≤ bg) := ⟨(hbn.block _ (lt_of_block HBG3.out.1)).trans HBG3.out.1, HBG3.out.2⟩
            have HST4 := Lib.hid (HST3.out.on hbn)
            have HCP4 : Hid (∃ B, CpO (w33.alloc (.cells #[.slice none 0 0, .slice none 0 0] 28)) B xa bs xc ya Y C yc) := HCP3.out.imp (fun _ h => h.on hbn)
            have hne : bg ≠ w33.heap.size := Nat.ne_of_lt (lt_of_block HBG3.out.1)
            refine hK.out _ _ (HSS.out _ HBW4.out) (fun _ => ?_)
            clear hK K
            try simp only [Act.put, List.getElem_toArray, List.getElem_cons_zero, List.getElem_cons_succ, List.setIfInBounds_toArray, List.set_cons_zero, List.set_cons_succ]
            generalize w33.heap.size = bn at *
            generalize w33.alloc (.cells #[.slice none 0 0, .slice none 0 0] 28) = w45 at *
            clear hbn
            have HTL := Lib.hid (tls_of HBW4.out HBG4.out.1 HBG4.out.2 HBN4.out.1 HBN4.out.2 hne HST4.out hc1 hc2 HCP4.out (N := N) (c := c) (xc := xc) (yc := yc) HCB.out)
            obtain ⟨⟨z0, z1⟩, zf0, zf1⟩ := two_cells HBG4.out.1
            have HZN : Hid (((w45.setCell ⟨bg, 0, none⟩ (.int .i64 N)).setCell ⟨bg, 1, none⟩ (.slice (some ⟨g, 0, none⟩) l.length c)).heap[bn]? = some (.cells #[.slice none 0 0, .slice none 0 0] 28)) := (Below.heap_setCell _ ⟨bg, 1, none⟩ _ bn (fun h => hne h.symm)).trans ((Below.heap_setCell _ ⟨bg, 0, none⟩ _ bn (fun h => hne h.symm)).trans HBN4.out.1)
            obtain ⟨⟨y0, y1⟩, yf0, yf1⟩ := two_cells HZN.out
            have HB61 : Hid (Below W0.heap.size W0 ((w45.setCell ⟨bg, 0, none⟩ (.int .i64 N)).setCell ⟨bg, 1, none⟩ (.slice (some ⟨g, 0, none⟩) l.length c))) := (HBW4.out.setCell (p := ⟨bg, 0, none⟩) HBG4.out.2 _).setCell (p := ⟨bg, 1, none⟩) HBG4.out.2 _
            refine wpAnyH_ready (rs := [6]) (by kernel_rfl) (by simp) ?_
            refine AllReadyH.cons rfl (fun K hK => ?_) AllReadyH.nil
            go_simp
            refine hK.out _ _ (HSS.out _ HB61.out) (fun _ => ?_)
            clear hK K
            try simp only [Act.put, List.getElem_toArray, List.getElem_cons_zero, List.getElem_cons_succ, List.setIfInBounds_toArray, List.set_cons_zero, List.set_cons_succ]
            refine wpAnyH_ready (rs := [7]) (by kernel_rfl) (by simp) ?_
            refine AllReadyH.cons rfl (fun K hK => ?_) AllReadyH.nil
            go_simp
            refine hK.out _ _ (HSS.out _ HTL.out.be) (fun _ => ?_)
            clear hK K
            try simp only [Act.put, List.getElem_toArray, List.getElem_cons_zero, List.getElem_cons_succ, List.setIfInBounds_toArray, List.set_cons_zero, List.set_cons_succ]
            refine wpAnyH_done (by kernel_rfl) ?_ _
            go_wp2_with fail
            go_meet
            case rel => exact ⟨bg, bn, g, c, xa, xc, ya, Y, yc, rfl, rfl, HTL⟩
        · skip
          go_simp
          have hbn : Below w21.heap.size w21 (w21.alloc (.cells #[.slice none 0 0, .slice none 0 0] 28)) := (Below.refl _ _).alloc (Nat.le_refl _) _
          have HBN3 : Hid ((w21.alloc (.cells #[.slice none 0 0, .slice none 0 0] 28)).heap[w21.heap.size]? = some (.cells #[.slice none 0 0, .slice none 0 0] 28) ∧ W0.heap.size ≤ w21.heap.size) := ⟨heap_top w21 _, HBW2.out.size⟩
          have HBW3 : Hid (Below W0.heap.size W0 (w21.alloc (.cells #[.slice none 0 0, .slice none 0 0] 28))) := HBW2.out.trans (hbn.mono HBW2.out.size)
          have HBG3 : Hid ((w21.alloc (.cells #[.slice none 0 0, .slice none 0 0] 28)).heap[bg]? = some (.cells #[.int .i64 0, .slice none 0 0] 24) ∧ W0.heap.size ≤ bg) := ⟨(hbn.block _ (lt_of_block HBG2.out.1)).trans HBG2.out.1, HBG2.out.2⟩
          have HST3 := Lib.hid (HST2.out.on hbn)
          have hne : bg ≠ w21.heap.size := Nat.ne_of_lt (lt_of_block HBG2.out.1)
          refine hK.out _ _ (HSS.out _ HBW3.out) (fun _ => ?_)
          clear hK K
          try simp only [Act.put, List.getElem_toArray, List.getElem_cons_zero, List.getElem_cons_succ, List.setIfInBounds_toArray, List.set_cons_zero, List.set_cons_succ]
          generalize w21.heap.size = bn at *
          generalize w21.alloc (.cells #[.slice none 0 0, .slice none 0 0] 28) = w35 at *
          clear hbn
          refine wpAnyH_ready (rs := [3]) (by kernel_rfl) (by simp) ?_
          refine AllReadyH.cons rfl (fun K hK => ?_) (AllReadyH.nil)
          · skip
            rw [if_pos (by rfl)]
            go_simp
            refine (HCN.out w35 HBW3.out).mono ?_
            rintro e w43 ⟨xa, xc, ya, Y, yc, rfl, hcpo, hbn⟩
            have HCP4 : Hid (∃ B, CpO w43 B xa bs xc ya Y C yc) := ⟨_, hcpo⟩
            clear hcpo
            have HBW4 : Hid (Below W0.heap.size W0 w43) := HBW3.out.trans (hbn.mono HBW3.out.size)
            have HBG4 : Hid (w43.heap[bg]? = some (.cells #[.int .i64 0, .slice none 0 0] 24) ∧ W0.heap.size ≤ bg) := ⟨(hbn.block _ (lt_of_block HBG3.out.1)).trans HBG3.out.1, HBG3.out.2⟩
            have HST4 := Lib.hid (HST3.out.on hbn)
            have HBN4 : Hid (w43.heap[bn]? = some (.cells #[.slice none 0 0, .slice none 0 0] 28) ∧ W0.heap.size ≤ bn) := ⟨(hbn.block _ (lt_of_block HBN3.out.1)).trans HBN3.out.1, HBN3.out.2⟩
            refine hK.out _ _ (HSS.out _ HBW4.out) (fun _ => ?_)
            clear hK K
            try simp only [Act.put, List.getElem_toArray, List.getElem_cons_zero, List.getElem_cons_succ, List.setIfInBounds_toArray, List.set_cons_zero, List.set_cons_succ]
            clear hbn
            have HTL := Lib.hid (tls_of HBW4.out HBG4.out.1 HBG4.out.2 HBN4.out.1 HBN4.out.2 hne HST4.out hc1 hc2 HCP4.out (N := N) (c := c) (xc := xc) (yc := yc) HCB.out)
            obtain ⟨⟨z0, z1⟩, zf0, zf1⟩ := two_cells HBG4.out.1
            have HZN : Hid (((w43.setCell ⟨bg, 0, none⟩ (.int .i64 N)).setCell ⟨bg, 1, none⟩ (.slice (some ⟨g, 0, none⟩) l.length c)).heap[bn]? = some (.cells #[.slice none 0 0, .slice none 0 0] 28)) := (Below.heap_setCell _ ⟨bg, 1, none⟩ _ bn (fun h => hne h.symm)).trans ((Below.heap_setCell _ ⟨bg, 0, none⟩ _ bn (fun h => hne h.symm)).trans HBN4.out.1)
            obtain ⟨⟨y0, y1⟩, yf0, yf1⟩ := two_cells HZN.out
            have HB61 : Hid (Below W0.heap.size W0 ((w43.setCell ⟨bg, 0, none⟩ (.int .i64 N)).setCell ⟨bg, 1, none⟩ (.slice (some ⟨g, 0, none⟩) l.length c))) := (HBW4.out.setCell (p := ⟨bg, 0, none⟩) HBG4.out.2 _).setCell (p := ⟨bg, 1, none⟩) HBG4.out.2 _
            refine wpAnyH_ready (rs := [6]) (by kernel_rfl) (by simp) ?_
            refine AllReadyH.cons rfl (fun K hK => ?_) AllReadyH.nil
            go_simp
            refine hK.out _ _ (HSS.out _ HB61.out) (fun _ => ?_)
            clear hK K
            try simp only [Act.put, List.getElem_toArray, List.getElem_cons_zero, List.getElem_cons_succ, List.setIfInBounds_toArray, List.set_cons_zero, List.set_cons_succ]
            refine wpAnyH_ready (rs := [7]) (by kernel_rfl) (by simp) ?_
            refine AllReadyH.cons rfl (fun K hK => ?_) AllReadyH.nil
            go_simp
            refine hK.out _ _ (HSS.out _ HTL.out.be) (fun _ => ?_)
            clear hK K
            try simp only [Act.put, List.getElem_toArray, List.getElem_cons_zero, List.getElem_cons_succ, List.setIfInBounds_toArray, List.set_cons_zero, List.set_cons_succ]
            refine wpAnyH_done (by kernel_rfl) ?_ _
            go_wp2_with fail
            go_meet
            case rel => exact ⟨bg, bn, g, c, xa, xc, ya, Y, yc, rfl, rfl, HTL⟩
      · skip
        go_simp
        have hbn : Below w14.heap.size w14 (w14.alloc (.cells #[.slice none 0 0, .slice none 0 0] 28)) := (Below.refl _ _).alloc (Nat.le_refl _) _
        have HBN2 : Hid ((w14.alloc (.cells #[.slice none 0 0, .slice none 0 0] 28)).heap[w14.heap.size]? = some (.cells #[.slice none 0 0, .slice none 0 0] 28) ∧ W0.heap.size ≤ w14.heap.size) := ⟨heap_top w14 _, HBW1.out.size⟩
        have HBW2 : Hid (Below W0.heap.size W0 (w14.alloc (.cells #[.slice none 0 0, .slice none 0 0] 28))) := HBW1.out.trans (hbn.mono HBW1.out.size)
        have HBG2 : Hid ((w14.alloc (.cells #[.slice none 0 0, .slice none 0 0] 28)).heap[bg]? = some (.cells #[.int .i64 0, .slice none 0 0] 24) ∧ W0.heap.size ≤ bg) := ⟨(hbn.block _ (lt_of_block HBG1.out.1)).trans HBG1.out.1, HBG1.out.2⟩
        have hne : bg ≠ w14.heap.size := Nat.ne_of_lt (lt_of_block HBG1.out.1)
        refine hK.out _ _ (HSS.out _ HBW2.out) (fun _ => ?_)
        clear hK K
        try simp only [Act.put, List.getElem_toArray, List.getElem_cons_zero, List.getElem_cons_succ, List.setIfInBounds_toArray, List.set_cons_zero, List.set_cons_succ]
        generalize w14.heap.size = bn at *
        generalize w14.alloc (.cells #[.slice none 0 0, .slice none 0 0] 28) = w25 at *
        clear hbn
        refine wpAnyH_ready (rs := [1]) (by kernel_rfl) (by simp) ?_
        refine AllReadyH.cons rfl (fun K hK => ?_) (AllReadyH.nil)
        · skip
          rw [if_pos (by rfl)]
          go_simp
          refine (HLG.out w25 HBW2.out).mono ?_
          rintro e w31 ⟨g, c, rfl, hc1, hc2, hown, hbn⟩
          have HST3 := Lib.hid (still_own hown)
          have HBW3 : Hid (Below W0.heap.size W0 w31) := HBW2.out.trans (hbn.mono HBW2.out.size)
          have HBG3 : Hid (w31.heap[bg]? = some (.cells #[.int .i64 0, .slice none 0 0] 24) ∧ W0.heap.size ≤ bg) := ⟨(hbn.block _ (lt_of_block HBG2.out.1)).trans HBG2.out.1, HBG2.out.2⟩
          have HBN3 : Hid (w31.heap[bn]? = some (.cells #[.slice none 0 0, .slice none 0 0] 28) ∧ W0.heap.size ≤ bn) := ⟨(hbn.block _ (lt_of_block HBN2.out.1)).trans HBN2.out.1, HBN2.out.2⟩
          refine hK.out _ _ (HSS.out _ HBW3.out) (fun _ => ?_)
          clear hK K
          try simp only [Act.put, List.getElem_toArray, List.getElem_cons_zero, List.getElem_cons_succ, List.setIfInBounds_toArray, List.set_cons_zero, List.set_cons_succ]
          clear hbn
          refine wpAnyH_ready (rs := [3]) (by kernel_rfl) (by simp) ?_
          refine AllReadyH.cons rfl (fun K hK => ?_) (AllReadyH.nil)
          · skip
            rw [if_pos (by rfl)]
            go_simp
            refine (HCN.out w31 HBW3.out).mono ?_
            rintro e w43 ⟨xa, xc, ya, Y, yc, rfl, hcpo, hbn⟩
            have HCP4 : Hid (∃ B, CpO w43 B xa bs xc ya Y C yc) := ⟨_, hcpo⟩
            clear hcpo
            have HBW4 : Hid (Below W0.heap.size W0 w43) := HBW3.out.trans (hbn.mono HBW3.out.size)
            have HBG4 : Hid (w43.heap[bg]? = some (.cells #[.int .i64 0, .slice none 0 0] 24) ∧ W0.heap.size ≤ bg) := ⟨(hbn.block _ (lt_of_block HBG3.out.1)).trans HBG3.out.1, HBG3.out.2⟩
            have HBN4 : Hid (w43.heap[bn]? = some (.cells #[.slice none 0 0, .slice none 0 0] 28) ∧ W0.heap.size ≤ bn) := ⟨(hbn.block _ (lt_of_block HBN3.out.1)).trans HBN3.out.1, HBN3.out.2⟩
            have HST4 := Lib.hid (HST3.out.on hbn)
            refine hK.out _ _ (HSS.out _ HBW4.out) (fun _ => ?_)
            clear hK K
            try simp only [Act.put, List.getElem_toArray, List.getElem_cons_zero, List.getElem_cons_succ, List.setIfInBounds_toArray, List.set_cons_zero, List.set_cons_succ]
            clear hbn
            have HTL := Lib.hid (tls_of HBW4.out HBG4.out.1 HBG4.out.2 HBN4.out.1 HBN4.out.2 hne HST4.out hc1 hc2 HCP4.out (N := N) (c := c) (xc := xc) (yc := yc) HCB.out)
            obtain ⟨⟨z0, z1⟩, zf0, zf1⟩ := two_cells HBG4.out.1
            have HZN : Hid (((w43.setCell ⟨bg, 0, none⟩ (.int .i64 N)).setCell ⟨bg, 1, none⟩ (.slice (some ⟨g, 0, none⟩) l.length c)).heap[bn]? = some (.cells #[.slice none 0 0, .slice none 0 0] 28)) := (Below.heap_setCell _ ⟨bg, 1, none⟩ _ bn (fun h => hne h.symm)).trans ((Below.heap_setCell _ ⟨bg, 0, none⟩ _ bn (fun h => hne h.symm)).trans HBN4.out.1)
            obtain ⟨⟨y0, y1⟩, yf0, yf1⟩ := two_cells HZN.out
            have HB61 : Hid (Below W0.heap.size W0 ((w43.setCell ⟨bg, 0, none⟩ (.int .i64 N)).setCell ⟨bg, 1, none⟩ (.slice (some ⟨g, 0, none⟩) l.length c))) := (HBW4.out.setCell (p := ⟨bg, 0, none⟩) HBG4.out.2 _).setCell (p := ⟨bg, 1, none⟩) HBG4.out.2 _
            refine wpAnyH_ready (rs := [6]) (by kernel_rfl) (by simp) ?_
            refine AllReadyH.cons rfl (fun K hK => ?_) AllReadyH.nil
            go_simp
            refine hK.out _ _ (HSS.out _ HB61.out) (fun _ => ?_)
            clear hK K
            try simp only [Act.put, List.getElem_toArray, List.getElem_cons_zero, List.getElem_cons_succ, List.setIfInBounds_toArray, List.set_cons_zero, List.set_cons_succ]
            refine wpAnyH_ready (rs := [7]) (by kernel_rfl) (by simp) ?_
            refine AllReadyH.cons rfl (fun K hK => ?_) AllReadyH.nil
            go_simp
            refine hK.out _ _ (HSS.out _ HTL.out.be) (fun _ => ?_)
            clear hK K
            try simp only [Act.put, List.getElem_toArray, List.getElem_cons_zero, List.getElem_cons_succ, List.setIfInBounds_toArray, List.set_cons_zero, List.set_cons_succ]
            refine wpAnyH_done (by kernel_rfl) ?_ _
            go_wp2_with fail
            go_meet
            case rel => exact ⟨bg, bn, g, c, xa, xc, ya, Y, yc, rfl, rfl, HTL⟩
    · skip
      go_simp
      have hbn : Below Wd.heap.size Wd (Wd.alloc (.cells #[.slice none 0 0, .slice none 0 0] 28)) := (Below.refl _ _).alloc (Nat.le_refl _) _
      have HBN1 : Hid ((Wd.alloc (.cells #[.slice none 0 0, .slice none 0 0] 28)).heap[Wd.heap.size]? = some (.cells #[.slice none 0 0, .slice none 0 0] 28) ∧ W0.heap.size ≤ Wd.heap.size) := ⟨heap_top Wd _, HB00.out.size⟩
      have HBW1 : Hid (Below W0.heap.size W0 (Wd.alloc (.cells #[.slice none 0 0, .slice none 0 0] 28))) := HB00.out.trans (hbn.mono HB00.out.size)
      refine hK.out _ _ (HSS.out _ HBW1.out) (fun _ => ?_)
      clear hK K
      try simp only [Act.put, List.getElem_toArray, List.getElem_cons_zero, List.getElem_cons_succ, List.setIfInBounds_toArray, List.set_cons_zero, List.set_cons_succ]
      generalize Wd.heap.size = bn at *
      generalize Wd.alloc (.cells #[.slice none 0 0, .slice none 0 0] 28) = w15 at *
      clear hbn
      refine wpAnyH_ready (rs := [1, 4]) (by kernel_rfl) (by simp) ?_
      refine AllReadyH.cons rfl (fun K hK => ?_) (AllReadyH.cons rfl (fun K hK => ?_) (AllReadyH.nil))
      · skip
        rw [if_pos (by rfl)]
        go_simp
        refine (HLG.out w15 HBW1.out).mono ?_
        rintro e w21 ⟨g, c, rfl, hc1, hc2, hown, hbn⟩
        have HST2 := Lib.hid (still_own hown)
        have HBW2 : Hid (Below W0.heap.size W0 w21) := HBW1.out.trans (hbn.mono HBW1.out.size)
        have HBN2 : Hid (w21.heap[bn]? = some (.cells #[.slice none 0 0, .slice none 0 0] 28) ∧ W0.heap.size ≤ bn) := ⟨(hbn.block _ (lt_of_block HBN1.out.1)).trans HBN1.out.1, HBN1.out.2⟩
        refine hK.out _ _ (HSS.out _ HBW2.out) (fun _ => ?_)
        clear hK K
        try simp only [Act.put, List.getElem_toArray, List.getElem_cons_zero, List.getElem_cons_succ, List.setIfInBounds_toArray, List.set_cons_zero, List.set_cons_succ]
        clear hbn
        refine wpAnyH_ready (rs := [3, 4]) (by kernel_rfl) (by simp) ?_
        refine AllReadyH.cons rfl (fun K hK => ?_) (AllReadyH.cons rfl (fun K hK => ?_) (AllReadyH.nil))
        · skip
          rw [if_pos (by rfl)]
          go_simp
          refine (HCN.out w21 HBW2.out).mono ?_
          rintro e w33 ⟨xa, xc, ya, Y, yc, rfl, hcpo, hbn⟩
          have HCP3 : Hid (∃ B, CpO w33 B xa bs xc ya Y C yc) := ⟨_, hcpo⟩
          clear hcpo
          have HBW3 : Hid (Below W0.heap.size W0 w33) := HBW2.out.trans (hbn.mono HBW2.out.size)
          have HBN3 : Hid (w33.heap[bn]? = some (.cells #[.slice none 0 0, .slice none 0 0] 28) ∧ W0.heap.size ≤ bn) := ⟨(hbn.block _ (lt_of_block HBN2.out.1)).trans HBN2.out.1, HBN2.out.2⟩
          have HST3 := Lib.hid (HST2.out.on hbn)
          refine hK.out _ _ (HSS.out _ HBW3.out) (fun _ => ?_)
          clear hK K
          try simp only [Act.put, List.getElem_toArray, List.getElem_cons_zero, List.getElem_cons_succ, List.setIfInBounds_toArray, List.set_cons_zero, List.set_cons_succ]
          clear hbn
          refine wpAnyH_ready (rs := [4]) (by kernel_rfl) (by simp) ?_
          refine AllReadyH.cons rfl (fun K hK => ?_) (AllReadyH.nil)
          · skip
            go_simp
            have hbn : Below w33.heap.size w33 (w33.alloc (.cells #[.int .i64 0, .slice none 0 0] 24)) := (Below.refl _ _).alloc (Nat.le_refl _) _
            have HBG4 : Hid ((w33.alloc (.cells #[.int .i64 0, .slice none 0 0] 24)).heap[w33.heap.size]? = some (.cells #[.int .i64 0, .slice none 0 0] 24) ∧ W0.heap.size ≤ w33.heap.size) := ⟨heap_top w33 _, HBW3.out.size⟩
            have HBW4 : Hid (Below W0.heap.size W0 (w33.alloc (.cells #[.int .i64 0, .slice none 0 0] 24))) := HBW3.out.trans (hbn.mono HBW3.out.size)
            have HBN4 : Hid ((w33.alloc (.cells #[.int .i64 0, .slice none 0 0] 24)).heap[bn]? = some (.cells #[.slice none 0 0, .slice none 0 0] 28) ∧ W0.heap.size ≤ bn) := ⟨(hbn.block _ (lt_of_block HBN3.out.1)).trans HBN3.out.1, HBN3.out.2⟩
            have HST4 := Lib.hid (HST3.out.on hbn)
            have HCP4 : Hid (∃ B, CpO (w33.alloc (.cells #[.int .i64 0, .slice none 0 0] 24)) B xa bs xc ya Y C yc) := HCP3.out.imp (fun _ h => h.on hbn)
            have hne : w33.heap.size ≠ bn := Nat.ne_of_gt (lt_of_block HBN3.out.1)
            refine hK.out _ _ (HSS.out _ HBW4.out) (fun _ => ?_)
            clear hK K
            try simp only [Act.put, List.getElem_toArray, List.getElem_cons_zero, List.getElem_cons_succ, List.setIfInBounds_toArray, List.set_cons_zero, List.set_cons_succ]
            generalize w33.heap.size = bg at *
            generalize w33.alloc (.cells #[.int .i64 0, .slice none 0 0] 24) = w44 at *
            clear hbn
            have HTL := Lib.hid (tls_of HBW4.out HBG4.out.1 HBG4.out.2 HBN4.out.1 HBN4.out.2 hne HST4.out hc1 hc2 HCP4.out (N := N) (c := c) (xc := xc) (yc := yc) HCB.out)
            obtain ⟨⟨z0, z1⟩, zf0, zf1⟩ := two_cells HBG4.out.1
            have HZN : Hid (((w44.setCell ⟨bg, 0, none⟩ (.int .i64 N)).setCell ⟨bg, 1, none⟩ (.slice (some ⟨g, 0, none⟩) l.length c)).heap[bn]? = some (.cells #[.slice none 0 0, .slice none 0 0] 28)) := (Below.heap_setCell _ ⟨bg, 1, none⟩ _ bn (fun h => hne h.symm)).trans ((Below.heap_setCell _ ⟨bg, 0, none⟩ _ bn (fun h => hne h.symm)).trans HBN4.out.1)
            obtain ⟨⟨y0, y1⟩, yf0, yf1⟩ := two_cells HZN.out
            have HB61 : Hid (Below W0.heap.size W0 ((w44.setCell ⟨bg, 0, none⟩ (.int .i64 N)).setCell ⟨bg, 1, none⟩ (.slice (some ⟨g, 0, none⟩) l.length c))) := (HBW4.out.setCell (p := ⟨bg, 0, none⟩) HBG4.out.2 _).setCell (p := ⟨bg, 1, none⟩) HBG4.out.2 _
            refine wpAnyH_ready (rs := [6]) (by kernel_rfl) (by simp) ?_
            refine AllReadyH.cons rfl (fun K hK => ?_) AllReadyH.nil
            go_simp
            refine hK.out _ _ (HSS.out _ HB61.out) (fun _ => ?_)
            clear hK K
            try simp only [Act.put, List.getElem_toArray, List.getElem_cons_zero, List.getElem_cons_succ, List.setIfInBounds_toArray, List.set_cons_zero, List.set_cons_succ]
            refine wpAnyH_ready (rs := [7]) (by kernel_rfl) (by simp) ?_
            refine AllReadyH.cons rfl (fun K hK => ?_) AllReadyH.nil
            go_simp
            refine hK.out _ _ (HSS.out _ HTL.out.be) (fun _ => ?_)
            clear hK K
            try simp only [Act.put, List.getElem_toArray, List.getElem_cons_zero, List.getElem_cons_succ, List.setIfInBounds_toArray, List.set_cons_zero, List.set_cons_succ]
            refine wpAnyH_done (by kernel_rfl) ?_ _
            go_wp2_with fail
            go_meet
            case rel => exact ⟨bg, bn, g, c, xa, xc, ya, Y, yc, rfl, rfl, HTL⟩
        · skip
          go_simp
          have hbn : Below w21.heap.size w21 (w21.alloc (.cells #[.int .i64 0, .slice none 0 0] 24)) := (Below.refl _ _).alloc (Nat.le_refl _) _
          have HBG3 : Hid ((w21.alloc (.cells #[.int .i64 0, .slice none 0 0] 24)).heap[w21.heap.size]? = some (.cells #[.int .i64 0, .slice none 0 0] 24) ∧ W0.heap.size ≤ w21.heap.size) := ⟨heap_top w21 _, HBW2.out.size⟩
          have HBW3 : Hid (Below W0.heap.size W0 (w21.alloc (.cells #[.int .i64 0, .slice none 0 0] 24))) := HBW2.out.trans (hbn.mono HBW2.out.size)
          have HBN3 : Hid ((w21.alloc (.cells #[.int .i64 0, .slice none 0 0] 24)).heap[bn]? = some (.cells #[.slice none 0 0, .slice none 0 0] 28) ∧ W0.heap.size ≤ bn) := ⟨(hbn.block _ (lt_of_block HBN2.out.1)).trans HBN2.out.1, HBN2.out.2⟩
          have HST3 := Lib.hid (HST2.out.on hbn)
          have hne : w21.heap.size ≠ bn := Nat.ne_of_gt (lt_of_block HBN2.out.1)
          refine hK.out _ _ (HSS.out _ HBW3.out) (fun _ => ?_)
          clear hK K
          try simp only [Act.put, List.getElem_toArray, List.getElem_cons_zero, List.getElem_cons_succ, List.setIfInBounds_toArray, List.set_cons_zero, List.set_cons_succ]
          generalize w21.heap.size = bg at *
          generalize w21.alloc (.cells #[.int .i64 0, .slice none 0 0] 24) = w34 at *
          clear hbn
          refine wpAnyH_ready (rs := [3]) (by kernel_rfl) (by simp) ?_
          refine AllReadyH.cons rfl (fun K hK => ?_) (AllReadyH.nil)
          · skip
            rw [if_pos (by rfl)]
            go_simp
            refine (HCN.out w34 HBW3.out).mono ?_
            rintro e w43 ⟨xa, xc, ya, Y, yc, rfl, hcpo, hbn⟩
            have HCP4 : Hid (∃ B, CpO w43 B xa bs xc ya Y C yc) := ⟨_, hcpo⟩
            clear hcpo
            have HBW4 : Hid (Below W0.heap.size W0 w43) := HBW3.out.trans (hbn.mono HBW3.out.size)
            have HBN4 : Hid (w43.heap[bn]? = some (.cells #[.slice none 0 0, .slice none 0 0] 28) ∧ W0.heap.size ≤ bn) := ⟨(hbn.block _ (lt_of_block HBN3.out.1)).trans HBN3.out.1, HBN3.out.2⟩
            have HST4 := Lib.hid (HST3.out.on hbn)
            have HBG4 : Hid (w43.heap[bg]? = some (.cells #[.int .i64 0, .slice none 0 0] 24) ∧ W0.heap.size ≤ bg) := ⟨(hbn.block _ (lt_of_block HBG3.out.1)).trans HBG3.out.1, HBG3.out.2⟩
            refine hK.out _ _ (HSS.out _ HBW4.out) (fun _ => ?_)
            clear hK K
            try simp only [Act.put, List.getElem_toArray, List.getElem_cons_zero, List.getElem_cons_succ, List.setIfInBounds_toArray, List.set_cons_zero, List.set_cons_succ]
            clear hbn
            have HTL := Lib.hid (tls_of HBW4.out HBG4.out.1 HBG4.out.2 HBN4.out.1 HBN4.out.2 hne HST4.out hc1 hc2 HCP4.out (N := N) (c := c) (xc := xc) (yc := yc) HCB.out)
            obtain ⟨⟨z0, z1⟩, zf0, zf1⟩ := two_cells HBG4.out.1
            have HZN : Hid (((w43.setCell ⟨bg, 0, none⟩ (.int .i64 N)).setCell ⟨bg, 1, none⟩ (.slice (some ⟨g, 0, none⟩) l.length c)).heap[bn]? = some (.cells #[.slice none 0 0, .slice none 0 0] 28)) := (Below.heap_setCell _ ⟨bg, 1, none⟩ _ bn (fun h => hne h.symm)).trans ((Below.heap_setCell _ ⟨bg, 0, none⟩ _ bn (fun h => hne h.symm)).trans HBN4.out.1)
            obtain ⟨⟨y0, y1⟩, yf0, yf1⟩ := two_cells HZN.out
            have HB61 : Hid (Below W0.heap.size W0 ((w43.setCell ⟨bg, 0, none⟩ (.int .i64 N)).setCell ⟨bg, 1, none⟩ (.slice (some ⟨g, 0, none⟩) l.length c))) := (HBW4.out.setCell (p := ⟨bg, 0, none⟩) HBG4.out.2 _).setCell (p := ⟨bg, 1, none⟩) HBG4.out.2 _
            refine wpAnyH_ready (rs := [6]) (by kernel_rfl) (by simp) ?_
            refine AllReadyH.cons rfl (fun K hK => ?_) AllReadyH.nil
            go_simp
            refine hK.out _ _ (HSS.out _ HB61.out) (fun _ => ?_)
            clear hK K
            try simp only [Act.put, List.getElem_toArray, List.getElem_cons_zero, List.getElem_cons_succ, List.setIfInBounds_toArray, List.set_cons_zero, List.set_cons_succ]
            refine wpAnyH_ready (rs := [7]) (by kernel_rfl) (by simp) ?_
            refine AllReadyH.cons rfl (fun K hK => ?_) AllReadyH.nil
            go_simp
            refine hK.out _ _ (HSS.out _ HTL.out.be) (fun _ => ?_)
            clear hK K
            try simp only [Act.put, List.getElem_toArray, List.getElem_cons_zero, List.getElem_cons_succ, List.setIfInBounds_toArray, List.set_cons_zero, List.set_cons_succ]
            refine wpAnyH_done (by kernel_rfl) ?_ _
            go_wp2_with fail
            go_meet
            case rel => exact ⟨bg, bn, g, c, xa, xc, ya, Y, yc, rfl, rfl, HTL⟩
      · skip
        go_simp
        have hbn : Below w15.heap.size w15 (w15.alloc (.cells #[.int .i64 0, .slice none 0 0] 24)) := (Below.refl _ _).alloc (Nat.le_refl _) _
        have HBG2 : Hid ((w15.alloc (.cells #[.int .i64 0, .slice none 0 0] 24)).heap[w15.heap.size]? = some (.cells #[.int .i64 0, .slice none 0 0] 24) ∧ W0.heap.size ≤ w15.heap.size) := ⟨heap_top w15 _, HBW1.out.size⟩
        have HBW2 : Hid (Below W0.heap.size W0 (w15.alloc (.cells #[.int .i64 0, .slice none 0 0] 24))) := HBW1.out.trans (hbn.mono HBW1.out.size)
        have HBN2 : Hid ((w15.alloc (.cells #[.int .i64 0, .slice none 0 0] 24)).heap[bn]? = some (.cells #[.slice none 0 0, .slice none 0 0] 28) ∧ W0.heap.size ≤ bn) := ⟨(hbn.block _ (lt_of_block HBN1.out.1)).trans HBN1.out.1, HBN1.out.2⟩
        have hne : w15.heap.size ≠ bn := Nat.ne_of_gt (lt_of_block HBN1.out.1)
        refine hK.out _ _ (HSS.out _ HBW2.out) (fun _ => ?_)
        clear hK K
        try simp only [Act.put, List.getElem_toArray, List.getElem_cons_zero, List.getElem_cons_succ, List.setIfInBounds_toArray, List.set_cons_zero, List.set_cons_succ]
        generalize w15.heap.size = bg at *
        generalize w15.alloc (.cells #[.int .i64 0, .slice none 0 0] 24) = w24 at *
        clear hbn
        refine wpAnyH_ready (rs := [1]) (by kernel_rfl) (by simp) ?_
        refine AllReadyH.cons rfl (fun K hK => ?_) (AllReadyH.nil)
        · skip
          rw [if_pos (by rfl)]
          go_simp
          refine (HLG.out w24 HBW2.out).mono ?_
          rintro e w31 ⟨g, c, rfl, hc1, hc2, hown, hbn⟩
          have HST3 := Lib.hid (still_own hown)
          have HBW3 : Hid (Below W0.heap.size W0 w31) := HBW2.out.trans (hbn.mono HBW2.out.size)
          have HBN3 : Hid (w31.heap[bn]? = some (.cells #[.slice none 0 0, .slice none 0 0] 28) ∧ W0.heap.size ≤ bn) := ⟨(hbn.block _ (lt_of_block HBN2.out.1)).trans HBN2.out.1, HBN2.out.2⟩
          have HBG3 : Hid (w31.heap[bg]? = some (.cells #[.int .i64 0, .slice none 0 0] 24) ∧ W0.heap.size ≤ bg) := ⟨(hbn.block _ (lt_of_block HBG2.out.1)).trans HBG2.out.1, HBG2.out.2⟩
          refine hK.out _ _ (HSS.out _ HBW3.out) (fun _ => ?_)
          clear hK K
          try simp only [Act.put, List.getElem_toArray, List.getElem_cons_zero, List.getElem_cons_succ, List.setIfInBounds_toArray, List.set_cons_zero, List.set_cons_succ]
          clear hbn
          refine wpAnyH_ready (rs := [3]) (by kernel_rfl) (by simp) ?_
          refine AllReadyH.cons rfl (fun K hK => ?_) (AllReadyH.nil)
          · skip
            rw [if_pos (by rfl)]
            go_simp
            refine (HCN.out w31 HBW3.out).mono ?_
            rintro e w43 ⟨xa, xc, ya, Y, yc, rfl, hcpo, hbn⟩
            have HCP4 : Hid (∃ B, CpO w43 B xa bs xc ya Y C yc) := ⟨_, hcpo⟩
            clear hcpo
            have HBW4 : Hid (Below W0.heap.size W0 w43) := HBW3.out.trans (hbn.mono HBW3.out.size)
            have HBN4 : Hid (w43.heap[bn]? = some (.cells #[.slice none 0 0, .slice none 0 0] 28) ∧ W0.heap.size ≤ bn) := ⟨(hbn.block _ (lt_of_block HBN3.out.1)).trans HBN3.out.1, HBN3.out.2⟩
            have HBG4 : Hid (w43.heap[bg]? = some (.cells #[.int .i64 0, .slice none 0 0] 24) ∧ W0.heap.size ≤ bg) := ⟨(hbn.block _ (lt_of_block HBG3.out.1)).trans HBG3.out.1, HBG3.out.2⟩
            have HST4 := Lib.hid (HST3.out.on hbn)
            refine hK.out _ _ (HSS.out _ HBW4.out) (fun _ => ?_)
            clear hK K
            try simp only [Act.put, List.getElem_toArray, List.getElem_cons_zero, List.getElem_cons_succ, List.setIfInBounds_toArray, List.set_cons_zero, List.set_cons_succ]
            clear hbn
            have HTL := Lib.hid (tls_of HBW4.out HBG4.out.1 HBG4.out.2 HBN4.out.1 HBN4.out.2 hne HST4.out hc1 hc2 HCP4.out (N := N) (c := c) (xc := xc) (yc := yc) HCB.out)
            obtain ⟨⟨z0, z1⟩, zf0, zf1⟩ := two_cells HBG4.out.1
            have HZN : Hid (((w43.setCell ⟨bg, 0, none⟩ (.int .i64 N)).setCell ⟨bg, 1, none⟩ (.slice (some ⟨g, 0, none⟩) l.length c)).heap[bn]? = some (.cells #[.slice none 0 0, .slice none 0 0] 28)) := (Below.heap_setCell _ ⟨bg, 1, none⟩ _ bn (fun h => hne h.symm)).trans ((Below.heap_setCell _ ⟨bg, 0, none⟩ _ bn (fun h => hne h.symm)).trans HBN4.out.1)
            obtain ⟨⟨y0, y1⟩, yf0, yf1⟩ := two_cells HZN.out
            have HB61 : Hid (Below W0.heap.size W0 ((w43.setCell ⟨bg, 0, none⟩ (.int .i64 N)).setCell ⟨bg, 1, none⟩ (.slice (some ⟨g, 0, none⟩) l.length c))) := (HBW4.out.setCell (p := ⟨bg, 0, none⟩) HBG4.out.2 _).setCell (p := ⟨bg, 1, none⟩) HBG4.out.2 _
            refine wpAnyH_ready (rs := [6]) (by kernel_rfl) (by simp) ?_
            refine AllReadyH.cons rfl (fun K hK => ?_) AllReadyH.nil
            go_simp
            refine hK.out _ _ (HSS.out _ HB61.out) (fun _ => ?_)
            clear hK K
            try simp only [Act.put, List.getElem_toArray, List.getElem_cons_zero, List.getElem_cons_succ, List.setIfInBounds_toArray, List.set_cons_zero, List.set_cons_succ]
            refine wpAnyH_ready (rs := [7]) (by kernel_rfl) (by simp) ?_
            refine AllReadyH.cons rfl (fun K hK => ?_) AllReadyH.nil
            go_simp
            refine hK.out _ _ (HSS.out _ HTL.out.be) (fun _ => ?_)
            clear hK K
            try simp only [Act.put, List.getElem_toArray, List.getElem_cons_zero, List.getElem_cons_succ, List.setIfInBounds_toArray, List.set_cons_zero, List.set_cons_succ]
            refine wpAnyH_done (by kernel_rfl) ?_ _
            go_wp2_with fail
            go_meet
            case rel => exact ⟨bg, bn, g, c, xa, xc, ya, Y, yc, rfl, rfl, HTL⟩
  case rest =>
    obtain ⟨bg, bn, g, c, xa, xc, ya, Y, yc, rfl, rfl, HTL⟩ := hcut
    have HB2 : Hid (Below W.heap.size W wc) := HB1.out.trans (HTL.out.be.mono HB1.out.size)
    have HXC : Hid (∀ wr, Below wc.heap.size wc wr → (wr.cell? ⟨bg, 0, none⟩ = some (.int .i64 N) ∧ wr.cell? ⟨bg, 1, none⟩ = some (.slice (some ⟨g, 0, none⟩) l.length c)) ∧ (wr.cell? ⟨bn, 0, none⟩ = some (.slice xa bs.length xc) ∧ wr.cell? ⟨bn, 1, none⟩ = some (.slice ya C.length yc)) ∧ (wr.cell? ⟨p, 0, none⟩ = some (.int .i64 N) ∧ wr.cell? ⟨p, 1, none⟩ = some (.slice a l.length cap) ∧ wr.cell? ⟨p + 1, 0, none⟩ = some (.slice ba bs.length bc) ∧ wr.cell? ⟨p + 1, 1, none⟩ = some (.slice ca C.length cc)) ∧ wr.cell? ⟨p + 1 + 1, 0, none⟩ = some (.int .i64 lv) ∧ wr.cell? ⟨p + 1 + 1, 1, none⟩ = some (.int .i64 ce) ∧ wr.cell? ⟨p + 1 + 1, 2, none⟩ = some (.int .i64 ve)) := fun wr hb => by
      have hbw : Below W.heap.size W wr := HB2.out.trans (hb.mono HB2.out.size)
      exact ⟨(two_cells ((hb.block _ (lt_of_block HTL.out.bg)).trans HTL.out.bg)).1, (two_cells ((hb.block _ (lt_of_block HTL.out.bn)).trans HTL.out.bn)).1, (HGN0.out.on hbw).cells, three_cells ((hbw.block _ (lt_of_block HG2.out)).trans HG2.out)⟩
    have HTS : Hid (∀ wr, Below wc.heap.size wc wr → Still wr g l ∧ Ints wr xa bs ∧ Rws wr ya Y) := fun wr hb => ⟨HTL.out.still.on hb, HTL.out.ints.on hb, HTL.out.rws.on hb⟩
    have HGS : Hid (∀ wr, Below wc.heap.size wc wr → GN wr p N a l cap ba bs bc ca C cc) := fun wr hb => HGN0.out.on (HB2.out.trans (hb.mono HB2.out.size))
    have HEQ := Lib.hid HTL.out.eq
    have HLE := Lib.hid HTL.out.len
    have hlc := HTL.out.c1
    have hcm := HTL.out.c2
    clear HSS HLG HCN HGN1 HB00 HCB g0 g1 g2 g3
    obtain ⟨e1, HE1⟩ := named (inE N l bs (csl C) lv ce)
    obtain ⟨D1, HD1⟩ := named (bdV N l bs (csl C) lv ce)
    have hD1 : D1.length ≤ 1024 := by rw [← HD1.out]; exact bd_len
    obtain ⟨e2, HE2⟩ := named (ixE N l bs (csl C) lv ce ve)
    obtain ⟨d2, HD2⟩ := named (ixV N l bs (csl C) lv ce ve)
    obtain ⟨D3, HD3⟩ := named (inV N l bs (csl C) lv ce)
    obtain ⟨e4, HE4⟩ := named (btE N l bs (csl C) lv ce)
    obtain ⟨D4, HD4⟩ := named (btV N l bs (csl C) lv ce)
    have hD3 : D3.length ≤ 8192 := by rw [← HD3.out]; exact in_len
    have hD4 : D4.length ≤ 8192 := by rw [← HD4.out]; exact bt_len
    have HBc : Hid (Below wc.heap.size wc wc) := Below.refl _ _
    obtain ⟨s1, s2, s3⟩ := HTS.out wc HBc.out
    have HK1 := Lib.hid (boundary_any N (some ⟨g, 0, none⟩) l c xa bs xc ya Y yc lv ce wc hl hbl s1.arcs s2 s3)
    rw [HEQ.out, HLE.out] at HK1
    rw [HE1.out, HD1.out] at HK1
    clear s1 s2 s3
    obtain ⟨⟨q0, q1⟩, ⟨q2, q3⟩, ⟨q4, q5, q6, q7⟩, q8, q9, q10⟩ := HXC.out wc HBc.out
    go_wp2_with fail
    refine HK1.out.mono ?_
    rintro e x1 ⟨v1, rfl, hr1, hb1⟩
    have HX1 : Hid (Below wc.heap.size wc x1) := HBc.out.trans (hb1.mono HBc.out.size)
    have HR1 := Lib.hid (rowI_shape hr1)
    have HI1 := Lib.hid hr1.ints
    clear hr1
    clear HK1 hb1 q0 q1 q2 q3 q4 q5 q6 q7 q8 q9 q10
    have s1 := HGS.out x1 HX1.out
    have HK2 := Lib.hid (rboundary_any N a l cap ba bs bc ca C cc lv ce x1 hl hbl s1.arcs s1.ints s1.rws)
    rw [HE1.out, HD1.out] at HK2
    clear s1
    obtain ⟨⟨q0, q1⟩, ⟨q2, q3⟩, ⟨q4, q5, q6, q7⟩, q8, q9, q10⟩ := HXC.out x1 HX1.out
    go_wp2_with fail
    refine HK2.out.mono ?_
    rintro e x2 ⟨v2, c2, rfl, hi2, hb2⟩
    have HX2 : Hid (Below wc.heap.size wc x2) := HX1.out.trans (hb2.mono HX1.out.size)
    have HI2 := Lib.hid hi2
    have HR12 := Lib.hid (HR1.out.on hb2)
    have HI12 := Lib.hid (HI1.out.on hb2)
    clear hi2 HR1 HI1
    clear HK2 hb2 q0 q1 q2 q3 q4 q5 q6 q7 q8 q9 q10
    obtain ⟨s1, s2, s3⟩ := HTS.out x2 HX2.out
    have HK3 := Lib.hid (index_any N (some ⟨g, 0, none⟩) l c xa bs xc ya Y yc lv ce ve x2 hl hbl s1.arcs s2 s3)
    rw [HEQ.out, HLE.out] at HK3
    rw [HE2.out, HD2.out] at HK3
    clear s1 s2 s3
    obtain ⟨⟨q0, q1⟩, ⟨q2, q3⟩, ⟨q4, q5, q6, q7⟩, q8, q9, q10⟩ := HXC.out x2 HX2.out
    go_wp2_with fail
    refine HK3.out.mono ?_
    rintro e x3 ⟨rfl, hb3⟩
    have HX3 : Hid (Below wc.heap.size wc x3) := HX2.out.trans (hb3.mono HX2.out.size)
    have HR13 := Lib.hid (HR12.out.on hb3)
    have HI13 := Lib.hid (HI12.out.on hb3)
    have HI23 := Lib.hid (HI2.out.on hb3)
    clear HR12 HI12 HI2
    clear HK3 hb3 q0 q1 q2 q3 q4 q5 q6 q7 q8 q9 q10
    have s1 := HGS.out x3 HX3.out
    have HK4 := Lib.hid (rindex_any N a l cap ba bs bc ca C cc lv ce ve x3 hl hbl s1.arcs s1.ints s1.rws)
    rw [HE2.out, HD2.out] at HK4
    clear s1
    obtain ⟨⟨q0, q1⟩, ⟨q2, q3⟩, ⟨q4, q5, q6, q7⟩, q8, q9, q10⟩ := HXC.out x3 HX3.out
    go_wp2_with fail
    refine HK4.out.mono ?_
    rintro e x4 ⟨rfl, hb4⟩
    have HX4 : Hid (Below wc.heap.size wc x4) := HX3.out.trans (hb4.mono HX3.out.size)
    have HR14 := Lib.hid (HR13.out.on hb4)
    have HI14 := Lib.hid (HI13.out.on hb4)
    have HI24 := Lib.hid (HI23.out.on hb4)
    clear HR13 HI13 HI23
    clear HK4 hb4 q0 q1 q2 q3 q4 q5 q6 q7 q8 q9 q10
    have HSI := Lib.hid (sameInts_any v1 v2 D1.length c2 (ints D1) x4 (by rw [ints_len]; omega) HI14.out HI24.out)
    rw [ints_len] at HSI
    have b1 : (e1 != e1) = false := by simp
    have b2 : ((d2 : Int) != (d2 : Int)) = false := by simp
    have b3 : (e2 != e2) = false := by simp
    go_wp2_with fail
    refine HSI.out.mono ?_
    rintro e x5 ⟨rfl, hb5⟩
    have HX5 : Hid (Below wc.heap.size wc x5) := HX4.out.trans (hb5.mono HX4.out.size)
    have HR15 := Lib.hid (HR14.out.on hb5)
    clear HSI hb5 HR14 HI14 HI24
    obtain ⟨s1, s2, s3⟩ := HTS.out x5 HX5.out
    have HK6 := Lib.hid (inner_any N (some ⟨g, 0, none⟩) l c xa bs xc ya Y yc lv ce x5 hl hbl s1.arcs s2 s3)
    rw [HEQ.out, HLE.out] at HK6
    rw [HE1.out, HD3.out] at HK6
    clear s1 s2 s3
    obtain ⟨⟨q0, q1⟩, ⟨q2, q3⟩, ⟨q4, q5, q6, q7⟩, q8, q9, q10⟩ := HXC.out x5 HX5.out
    go_wp2_with fail
    refine HK6.out.mono ?_
    rintro e x6 ⟨v6, rfl, hr6, hb6⟩
    have HX6 : Hid (Below wc.heap.size wc x6) := HX5.out.trans (hb6.mono HX5.out.size)
    have HR16 := Lib.hid (HR15.out.on hb6)
    have HR6 := Lib.hid (rowI_shape hr6)
    have HI6 := Lib.hid hr6.ints
    clear hr6 HR15
    clear HK6 hb6 q0 q1 q2 q3 q4 q5 q6 q7 q8 q9 q10
    have s1 := HGS.out x6 HX6.out
    have HK7 := Lib.hid (rinner_any N a l cap ba bs bc ca C cc lv ce x6 hl hbl s1.arcs s1.ints s1.rws)
    rw [HE1.out, HD3.out] at HK7
    clear s1
    obtain ⟨⟨q0, q1⟩, ⟨q2, q3⟩, ⟨q4, q5, q6, q7⟩, q8, q9, q10⟩ := HXC.out x6 HX6.out
    go_wp2_with fail
    refine HK7.out.mono ?_
    rintro e x7 ⟨v7, c7, rfl, hi7, hb7⟩
    have HX7 : Hid (Below wc.heap.size wc x7) := HX6.out.trans (hb7.mono HX6.out.size)
    have HR17 := Lib.hid (HR16.out.on hb7)
    have HR67 := Lib.hid (HR6.out.on hb7)
    have HI67 := Lib.hid (HI6.out.on hb7)
    have HI7 := Lib.hid hi7
    clear hi7 HR16 HR6 HI6
    clear HK7 hb7 q0 q1 q2 q3 q4 q5 q6 q7 q8 q9 q10
    obtain ⟨s1, s2, s3⟩ := HTS.out x7 HX7.out
    have HK8 := Lib.hid (between_any N (some ⟨g, 0, none⟩) l c xa bs xc ya Y yc lv ce x7 hl hbl s1.arcs s2 s3)
    rw [HEQ.out, HLE.out] at HK8
    rw [HE4.out, HD4.out] at HK8
    clear s1 s2 s3
    obtain ⟨⟨q0, q1⟩, ⟨q2, q3⟩, ⟨q4, q5, q6, q7⟩, q8, q9, q10⟩ := HXC.out x7 HX7.out
    go_wp2_with fail
    refine HK8.out.mono ?_
    rintro e x8 ⟨v8, rfl, hr8, hb8⟩
    have HX8 : Hid (Below wc.heap.size wc x8) := HX7.out.trans (hb8.mono HX7.out.size)
    have HR18 := Lib.hid (HR17.out.on hb8)
    have HR68 := Lib.hid (HR67.out.on hb8)
    have HI68 := Lib.hid (HI67.out.on hb8)
    have HI78 := Lib.hid (HI7.out.on hb8)
    have HR8 := Lib.hid (rowI_shape hr8)
    have HI8 := Lib.hid hr8.ints
    clear hr8 HR17 HR67 HI67 HI7
    clear HK8 hb8 q0 q1 q2 q3 q4 q5 q6 q7 q8 q9 q10
    have s1 := HGS.out x8 HX8.out
    have HK9 := Lib.hid (rbetween_any N a l cap ba bs bc ca C cc lv ce x8 hl hbl s1.arcs s1.ints s1.rws)
    rw [HE4.out, HD4.out] at HK9
    clear s1
    obtain ⟨⟨q0, q1⟩, ⟨q2, q3⟩, ⟨q4, q5, q6, q7⟩, q8, q9, q10⟩ := HXC.out x8 HX8.out
    go_wp2_with fail
    refine HK9.out.mono ?_
    rintro e x9 ⟨v9, c9, rfl, hi9, hb9⟩
    have HX9 : Hid (Below wc.heap.size wc x9) := HX8.out.trans (hb9.mono HX8.out.size)
    have HR19 := Lib.hid (HR18.out.on hb9)
    have HR69 := Lib.hid (HR68.out.on hb9)
    have HI69 := Lib.hid (HI68.out.on hb9)
    have HI79 := Lib.hid (HI78.out.on hb9)
    have HR89 := Lib.hid (HR8.out.on hb9)
    have HI89 := Lib.hid (HI8.out.on hb9)
    have HI9 := Lib.hid hi9
    clear hi9 HR18 HR68 HI68 HI78 HR8 HI8
    clear HK9 hb9 q0 q1 q2 q3 q4 q5 q6 q7 q8 q9 q10
    have HSI := Lib.hid (sameInts_any v6 v7 D3.length c7 (ints D3) x9 (by rw [ints_len]; omega) HI69.out HI79.out)
    rw [ints_len] at HSI
    have b4 : (e4 != e4) = false := by simp
    go_wp2_with fail
    refine HSI.out.mono ?_
    rintro e y1 ⟨rfl, hb10⟩
    have HY1 : Hid (Below wc.heap.size wc y1) := HX9.out.trans (hb10.mono HX9.out.size)
    have HSJ := Lib.hid (sameInts_any v8 v9 D4.length c9 (ints D4) y1 (by rw [ints_len]; omega) (HI89.out.on hb10) (HI9.out.on hb10))
    rw [ints_len] at HSJ
    have HR1a := Lib.hid (HR19.out.on hb10)
    have HR6a := Lib.hid (HR69.out.on hb10)
    have HR8a := Lib.hid (HR89.out.on hb10)
    clear HSI hb10 HR19 HR69 HR89 HI69 HI79 HI89 HI9
    go_wp2_with fail
    refine HSJ.out.mono ?_
    rintro e y2 ⟨rfl, hb11⟩
    have HY2 : Hid (Below wc.heap.size wc y2) := HY1.out.trans (hb11.mono HY1.out.size)
    have HR1b := Lib.hid ((HR1a.out.on hb11).base (C := wc.heap.size) (Nat.le_refl _))
    have HR6b := Lib.hid ((HR6a.out.on hb11).base (C := wc.heap.size) HX5.out.size)
    have HR8b := Lib.hid ((HR8a.out.on hb11).base (C := wc.heap.size) HX7.out.size)
    clear HSJ hb11 HR1a HR6a HR8a
    go_wp2_with fail
    refine (spoilR_any v1 D1.length wc.heap.size (-7) y2 (by omega) HR1b.out).mono ?_
    rintro e y3 ⟨rfl, hb12, hk12⟩
    have HY3 : Hid (Below wc.heap.size wc y3) := HY2.out.trans hb12
    have HR6c := Lib.hid (hk12 _ _ _ HR6b.out)
    have HR8c := Lib.hid (hk12 _ _ _ HR8b.out)
    clear hb12 hk12 HR6b HR8b HR1b
    go_wp2_with fail
    refine (spoilR_any v6 D3.length wc.heap.size (-8) y3 hD3 HR6c.out).mono ?_
    rintro e y4 ⟨rfl, hb13, hk13⟩
    have HY4 : Hid (Below wc.heap.size wc y4) := HY3.out.trans hb13
    have HR8d := Lib.hid (hk13 _ _ _ HR8c.out)
    clear hb13 hk13 HR8c HR6c
    go_wp2_with fail
    refine (spoilR_any v8 D4.length wc.heap.size (-9) y4 hD4 HR8d.out).mono ?_
    rintro e y5 ⟨rfl, hb14, hk14⟩
    have HY5 : Hid (Below wc.heap.size wc y5) := HY4.out.trans hb14
    clear hb14 hk14 HR8d
    obtain ⟨⟨q0, q1⟩, ⟨q2, q3⟩, ⟨q4, q5, q6, q7⟩, q8, q9, q10⟩ := HXC.out y5 HY5.out
    have HKG := Lib.hid (kept_any N g c a l cap y5 hlen hlc hcm (HTS.out y5 HY5.out).1 (HGS.out y5 HY5.out).arcs)
    go_wp2_with fail
    refine HKG.out.mono ?_
    rintro e y6 ⟨rfl, hb15⟩
    have HY6 : Hid (Below wc.heap.size wc y6) := HY5.out.trans (hb15.mono HY5.out.size)
    clear HKG hb15 q0 q1 q2 q3 q4 q5 q6 q7 q8 q9 q10
    obtain ⟨⟨q0, q1⟩, ⟨q2, q3⟩, ⟨q4, q5, q6, q7⟩, q8, q9, q10⟩ := HXC.out y6 HY6.out
    obtain ⟨s1, s2, s3⟩ := HTS.out y6 HY6.out
    have s4 := HGS.out y6 HY6.out
    have HSN := Lib.hid (sameNest_any xa ba bs xc bc ya ca Y C yc cc y6 hbl (by have := HRB.out.1; rw [HLE.out]; omega) HLE.out.symm HEQ.out.symm s2 s3 s4.ints s4.rws)
    rw [HLE.out] at HSN
    clear s1 s2 s3 s4
    go_wp2_with fail
    refine HSN.out.mono ?_
    rintro e y7 ⟨rfl, hb16⟩
    have HY7 : Hid (Below wc.heap.size wc y7) := HY6.out.trans (hb16.mono HY6.out.size)
    clear HSN hb16 q0 q1 q2 q3 q4 q5 q6 q7 q8 q9 q10
    go_wp2_with fail
    refine (works_any y7).mono ?_
    rintro e y8 ⟨rfl, hb17⟩
    have HY8 : Hid (Below wc.heap.size wc y8) := HY7.out.trans (hb17.mono HY7.out.size)
    clear hb17
    go_wp2_with fail
    go_ret
    exact ⟨rfl, HEND.out _ (HB2.out.trans (HY8.out.mono HB2.out.size))⟩
end Go.Proofs.Ytpmjbeiclmllmaa
