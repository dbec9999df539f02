/-
  CellStale: the walk.
-/
import Derived.Test.YtpmjbeiclmllmaaYCp
import Derived.Test.YtpmjbeiclmllmaaYCe
namespace Go.Proofs.Ytpmjbeiclmllmaa
open Go.RowKit
theorem sti_of {w : World} {bg bn gi ci : Nat} {ids : List Int} {cs1 cs2 : Array Value} (hg : w.heap[bg]? = some (.cells cs1 24)) (hn : w.heap[bn]? = some (.cells cs2 28)) (hne : bg ≠ bn) (h : ∃ B, w.ownsRow B 3 1 (.slice (some ⟨gi, 0, none⟩) (ids.length + 1) ci) (ids.length + 1) (cellsI (ids ++ [-77]))) (u1 u2 u3 u4 : Value) :
    StillI ((((w.setCell ⟨bg, 0, none⟩ u1).setCell ⟨bg, 1, none⟩ u2).setCell ⟨bn, 0, none⟩ u3).setCell ⟨bn, 1, none⟩ u4) gi ids := by
  obtain ⟨B, h⟩ := h
  have g1 := heap_setCell_same w bg 0 _ _ u1 hg
  have n1 : ((w.setCell ⟨bg, 0, none⟩ u1).setCell ⟨bg, 1, none⟩ u2).heap[bn]? = some (.cells cs2 28) := (Below.heap_setCell _ ⟨bg, 1, none⟩ _ bn (fun h => hne h.symm)).trans ((Below.heap_setCell _ ⟨bg, 0, none⟩ _ bn (fun h => hne h.symm)).trans hn)
  have n2 := heap_setCell_same _ bn 0 _ _ u3 n1
  exact stillI_own (own_typed (own_typed (own_typed (own_typed h hg (by decide) u1) g1 (by decide) u2) n1 (by decide) u3) n2 (by decide) u4)
theorem ou_len {N : Int} {l : List A} {bs : List Int} {cs : List (List Int)} {k : Int} : (ouV N l bs cs k).length ≤ 8192 := by
  unfold ouV
  split
  · rename_i h
    have h1 := (chk_zero (atE_zero h).1.1).2.2.1
    have h2 := cho_len (arP l (prt (lvl cs (k.toNat - 1)))) l.length
    unfold arL
    omega
  · simp
set_option maxRecDepth 100000 in
set_option maxHeartbeats 6400000 in
theorem stales_any (N : Int) (a : Option Addr) (l : List A) (cap : Nat) (ba : Option Addr) (bs : List Int) (bc : Nat) (ca : Option Addr) (C : List Cl) (cc : Nat) (lv : Int) (da : Option Addr) (ids : List Int) (dc : Nat) (w : World) (hlen : l.length * 24 ≤ 140737488351232) (hblen : bs.length * 8 ≤ 140737488351232) (hna : a = none → l = [] ∧ cap = 0) (hnb : ba = none → bs = [] ∧ bc = 0) (hRB : RwB C) (hnd : da = none → ids = [] ∧ dc = 0) (hdlen : ids.length * 8 ≤ 140737488351232) (hr : Arcs w a l) (hi : Ints w ba bs) (hR : Rws w ca C) (hd : Ints w da ids) :
    Calls Try.prog 4 #[.agg #[.int .i64 N, .slice a l.length cap], .agg #[.slice ba bs.length bc, .slice ca C.length cc], .agg #[.int .i64 lv, .slice da ids.length dc]] w fun e w' => e = .returned (.bool true) ∧ Below w.heap.size w w' := by
  have hl : l.length ≤ 9223372036854775807 := by omega
  have hbl : bs.length ≤ 9223372036854775807 := by omega
  have hdl : ids.length ≤ 9223372036854775807 := by omega
  obtain ⟨hg0, hg1, hg2, hb0, hsz⟩ := top3 w (.cells #[.int .i64 N, .slice a l.length cap] 24) (.cells #[.slice ba bs.length bc, .slice ca C.length cc] 28) (.cells #[.int .i64 lv, .slice da ids.length dc] 46)
  have HGN0 : Hid (GN (((w.alloc (.cells #[.int .i64 N, .slice a l.length cap] 24)).alloc (.cells #[.slice ba bs.length bc, .slice ca C.length cc] 28)).alloc (.cells #[.int .i64 lv, .slice da ids.length dc] 46)) w.heap.size N a l cap ba bs bc ca C cc) := ⟨hg0, hg1, hr.on hb0, hi.on hb0, hR.on hb0⟩
  have HID0 : Hid (Ints (((w.alloc (.cells #[.int .i64 N, .slice a l.length cap] 24)).alloc (.cells #[.slice ba bs.length bc, .slice ca C.length cc] 28)).alloc (.cells #[.int .i64 lv, .slice da ids.length dc] 46)) da ids) := hd.on hb0
  have HB0 := Lib.hid hb0
  have HG2 := Lib.hid hg2
  have HNA := Lib.hid hna
  have HNB := Lib.hid hnb
  have HND := Lib.hid hnd
  have HRB := Lib.hid hRB
  generalize hp : w.heap.size = p at *
  obtain ⟨g0, g1, g2, g3⟩ := HGN0.out.cells
  go_enter Try.func4, Try.ntmps4
  go_wp2_with fail
  generalize hW : (((w.alloc (.cells #[.int .i64 N, .slice a l.length cap] 24)).alloc (.cells #[.slice ba bs.length bc, .slice ca C.length cc] 28)).alloc (.cells #[.int .i64 lv, .slice da ids.length dc] 46)) = W at *
  clear hW hg0 hg1 hg2 hb0 hr hi hR hna hnb hRB hnd hd
  refine (large_any N a l cap W hl HGN0.out.arcs).mono ?_
  rintro e w1 ⟨rfl, hb1⟩
  have HB1 := Lib.hid hb1
  have HEND : Hid (∀ wr, Below W.heap.size W wr → Below p w wr) := fun wr h => HB0.out.trans (h.mono (by omega))
  clear hb1 g0 g1 g2 g3
  obtain ⟨V, HV⟩ := named (lgB N l)
  rw [HV.out]
  rcases V with _ | _
  rotate_left
  · go_wp2_with fail
    refine (works_any w1).mono ?_
    rintro e w2 ⟨rfl, hb2⟩
    have HB2 : Hid (Below W.heap.size W w2) := HB1.out.trans (hb2.mono HB1.out.size)
    clear hb2
    go_wp2_with fail
    go_ret
    exact ⟨rfl, HEND.out _ HB2.out⟩
  have HGN1 := Lib.hid (HGN0.out.on HB1.out)
  have HID1 := Lib.hid (HID0.out.on HB1.out)
  have hg21 := (HB1.out.block _ (lt_of_block HG2.out)).trans HG2.out
  have HG21 := Lib.hid hg21
  clear hg21
  generalize hW0 : w1 = W0 at *
  clear hW0
  have HLG : Hid (∀ W2, Below W0.heap.size W0 W2 → Calls Try.prog 13 #[.agg #[.int .i64 N, .slice a l.length cap]] W2 fun e w' => Lent W2 w' e N l) := fun W2 hb => lend_any N a l cap W2 hlen HNA.out (HGN1.out.on hb).arcs
  have HCN : Hid (∀ W2, Below W0.heap.size W0 W2 → Calls Try.prog 14 #[.agg #[.slice ba bs.length bc, .slice ca C.length cc]] W2 fun e w' => CpI W2 w' e bs C) := fun W2 hb => copyNest_any ba bs bc ca C cc W2 hblen HNB.out (HGN1.out.on hb).ints (HGN1.out.on hb).rws HRB.out
  have HLI : Hid (∀ W2, Below W0.heap.size W0 W2 → Calls Try.prog 27 #[.slice da ids.length dc] W2 fun e w' => LentI W2 w' e ids) := fun W2 hb => lendI_any da ids dc W2 hdlen HND.out (HID1.out.on hb)
  have HSS : Hid (∀ w' : World, Below W0.heap.size W0 w' → w'.cell? ⟨p, 0, none⟩ = some (.int .i64 N) ∧ w'.cell? ⟨p, 1, none⟩ = some (.slice a l.length cap) ∧ w'.cell? ⟨p + 1, 0, none⟩ = some (.slice ba bs.length bc) ∧ w'.cell? ⟨p + 1, 1, none⟩ = some (.slice ca C.length cc) ∧ w'.cell? ⟨p + 1 + 1, 1, none⟩ = some (.slice da ids.length dc)) := fun W2 hb => ⟨(HGN1.out.on hb).cells.1, (HGN1.out.on hb).cells.2.1, (HGN1.out.on hb).cells.2.2.1, (HGN1.out.on hb).cells.2.2.2, (two_cells ((hb.block _ (lt_of_block HG21.out)).trans HG21.out)).1.2⟩
  have HCB : Hid (∀ j, j < C.length → (cl C j).xs.length ≤ 9223372036854775807) := fun j hj => (HGN1.out.rws.2 j hj).2
  have HB00 : Hid (Below W0.heap.size W0 W0.drew) := (Below.refl _ _).drew
  obtain ⟨g0, g1, g2, g3, g4⟩ := HSS.out _ (Below.refl _ _)
  go_wp2_with fail
  go_cut [7, 8, 9] (fun s7 s8 s9 wc => ∃ (bg bn g c : Nat) (xa : Option Addr) (xc : Nat) (ya : Option Addr) (Y : List Cl) (yc gi ci : Nat), s7 = .pointer (some ⟨bg, 0, none⟩) ∧ s8 = .pointer (some ⟨bn, 0, none⟩) ∧ s9 = .slice (some ⟨gi, 0, none⟩) ids.length ci ∧ Hid (TlS W0 wc bg bn g c xa xc ya Y yc N l bs C) ∧ Hid (StillI wc gi ids) ∧ ids.length < ci)
  case first =>
    refine wp_region_held_drew (S := fun w' => w'.cell? ⟨p, 0, none⟩ = some (.int .i64 N) ∧ w'.cell? ⟨p, 1, none⟩ = some (.slice a l.length cap) ∧ w'.cell? ⟨p + 1, 0, none⟩ = some (.slice ba bs.length bc) ∧ w'.cell? ⟨p + 1, 1, none⟩ = some (.slice ca C.length cc) ∧ w'.cell? ⟨p + 1 + 1, 1, none⟩ = some (.slice da ids.length dc)) (by kernel_rfl) (HSS.out _ HB00.out) ?_
    intro hS0
    generalize W0.drew = Wd at *
    simp only [List.size_toArray, List.length_cons, List.length_nil]
    refine wpAnyH_take (i := 0) (v := ?_) rfl (by kernel_rfl) (by decide +kernel) (by decide +kernel) (fun _ _ _ h => h) (Or.inl ⟨by rfl, ?_⟩) (by assumption) ?_
    rotate_left
    · intro w hSw
      (try dsimp only at hSw)
      go_simp
      (try with_reducible rfl)
    try simp only [Act.put, List.getElem_toArray, List.getElem_cons_zero, List.setIfInBounds_toArray, List.set_cons_zero, List.set_cons_succ]
    refine wpAnyH_take (i := 2) (v := ?_) rfl (by kernel_rfl) (by decide +kernel) (by decide +kernel) (fun _ _ _ h => h) (Or.inl ⟨by rfl, ?_⟩) (by assumption) ?_
    rotate_left
    · intro w hSw
      (try dsimp only at hSw)
      go_simp
      (try with_reducible rfl)
    try simp only [Act.put, List.getElem_toArray, List.getElem_cons_zero, List.getElem_cons_succ, List.setIfInBounds_toArray, List.set_cons_zero, List.set_cons_succ]
    refine wpAnyH_take (i := 4) (v := ?_) rfl (by kernel_rfl) (by decide +kernel) (by decide +kernel) (fun _ _ _ h => h) (Or.inl ⟨by rfl, ?_⟩) (by assumption) ?_
    rotate_left
    · intro w hSw
      (try dsimp only at hSw)
      go_simp
      (try with_reducible rfl)
    try simp only [Act.put, List.getElem_toArray, List.getElem_cons_zero, List.getElem_cons_succ, List.setIfInBounds_toArray, List.set_cons_zero, List.set_cons_succ]
    refine wpAnyH_take (i := 5) (v := ?_) rfl (by kernel_rfl) (by decide +kernel) (by decide +kernel) (fun _ _ _ h => h) (Or.inl ⟨by rfl, ?_⟩) (by assumption) ?_
    rotate_left
    · intro w hSw
      (try dsimp only at hSw)
      go_simp
      (try with_reducible rfl)
    try simp only [Act.put, List.getElem_toArray, List.getElem_cons_zero, List.getElem_cons_succ, List.setIfInBounds_toArray, List.set_cons_zero, List.set_cons_succ]
    refine wpAnyH_ready (rs := [1, 7, 8]) (by kernel_rfl) (by simp) ?_
    refine AllReadyH.cons rfl (fun K hK => ?_) (AllReadyH.cons rfl (fun K hK => ?_) (AllReadyH.cons rfl (fun K hK => ?_) (AllReadyH.nil)))
    · skip
      rw [if_pos (by rfl)]
      go_simp
      refine (HLG.out Wd HB00.out).mono ?_
      rintro e w11 ⟨g, c, rfl, hc1, hc2, hown, hbn⟩
      have HST1 := Lib.hid (still_own hown)
      have HBW1 : Hid (Below W0.heap.size W0 w11) := HB00.out.trans (hbn.mono HB00.out.size)
      refine hK.out _ _ (HSS.out _ HBW1.out) (fun _ => ?_)
      clear hK K
      try simp only [Act.put, List.getElem_toArray, List.getElem_cons_zero, List.getElem_cons_succ, List.setIfInBounds_toArray, List.set_cons_zero, List.set_cons_succ]
      clear hbn
      refine wpAnyH_ready (rs := [3, 7, 8]) (by kernel_rfl) (by simp) ?_
      refine AllReadyH.cons rfl (fun K hK => ?_) (AllReadyH.cons rfl (fun K hK => ?_) (AllReadyH.cons rfl (fun K hK => ?_) (AllReadyH.nil)))
      · skip
        rw [if_pos (by rfl)]
        go_simp
        refine (HCN.out w11 HBW1.out).mono ?_
        rintro e w23 ⟨xa, xc, ya, Y, yc, rfl, hcpo, hbn⟩
        have HCP2 : Hid (∃ B, CpO w23 B xa bs xc ya Y C yc) := ⟨_, hcpo⟩
        clear hcpo
        have HBW2 : Hid (Below W0.heap.size W0 w23) := HBW1.out.trans (hbn.mono HBW1.out.size)
        have HST2 := Lib.hid (HST1.out.on hbn)
        refine hK.out _ _ (HSS.out _ HBW2.out) (fun _ => ?_)
        clear hK K
        try simp only [Act.put, List.getElem_toArray, List.getElem_cons_zero, List.getElem_cons_succ, List.setIfInBounds_toArray, List.set_cons_zero, List.set_cons_succ]
        clear hbn
        refine wpAnyH_ready (rs := [6, 7, 8]) (by kernel_rfl) (by simp) ?_
        refine AllReadyH.cons rfl (fun K hK => ?_) (AllReadyH.cons rfl (fun K hK => ?_) (AllReadyH.cons rfl (fun K hK => ?_) (AllReadyH.nil)))
        · skip
          rw [if_pos (by rfl)]
          go_simp
          refine (HLI.out w23 HBW2.out).mono ?_
          rintro e w36 ⟨gi, ci, rfl, hi1, hi2, howni, hbn⟩
          have HSI3 : Hid (∃ B, w36.ownsRow B 3 1 (.slice (some ⟨gi, 0, none⟩) (ids.length + 1) ci) (ids.length + 1) (cellsI (ids ++ [-77]))) := ⟨_, howni⟩
          clear howni
          have HBW3 : Hid (Below W0.heap.size W0 w36) := HBW2.out.trans (hbn.mono HBW2.out.size)
          have HST3 := Lib.hid (HST2.out.on hbn)
          have HCP3 : Hid (∃ B, CpO w36 B xa bs xc ya Y C yc) := HCP2.out.imp (fun _ h => h.on hbn)
          refine hK.out _ _ (HSS.out _ HBW3.out) (fun _ => ?_)
          clear hK K
          try simp only [Act.put, List.getElem_toArray, List.getElem_cons_zero, List.getElem_cons_succ, List.setIfInBounds_toArray, List.set_cons_zero, List.set_cons_succ]
          clear hbn
          refine wpAnyH_ready (rs := [7, 8]) (by kernel_rfl) (by simp) ?_
          refine AllReadyH.cons rfl (fun K hK => ?_) (AllReadyH.cons rfl (fun K hK => ?_) (AllReadyH.nil))
          · skip
            go_simp
            have hbn : Below w36.heap.size w36 (w36.alloc (.cells #[.int .i64 0, .slice none 0 0] 24)) := (Below.refl _ _).alloc (Nat.le_refl _) _
            have HBG4 : Hid ((w36.alloc (.cells #[.int .i64 0, .slice none 0 0] 24)).heap[w36.heap.size]? = some (.cells #[.int .i64 0, .slice none 0 0] 24) ∧ W0.heap.size ≤ w36.heap.size) := ⟨heap_top w36 _, HBW3.out.size⟩
            have HBW4 : Hid (Below W0.heap.size W0 (w36.alloc (.cells #[.int .i64 0, .slice none 0 0] 24))) := HBW3.out.trans (hbn.mono HBW3.out.size)
            have HST4 := Lib.hid (HST3.out.on hbn)
            have HCP4 : Hid (∃ B, CpO (w36.alloc (.cells #[.int .i64 0, .slice none 0 0] 24)) B xa bs xc ya Y C yc) := HCP3.out.imp (fun _ h => h.on hbn)
            have HSI4 : Hid (∃ B, (w36.alloc (.cells #[.int .i64 0, .slice none 0 0] 24)).ownsRow B 3 1 (.slice (some ⟨gi, 0, none⟩) (ids.length + 1) ci) (ids.length + 1) (cellsI (ids ++ [-77]))) := HSI3.out.imp (fun _ h => own_on h hbn)
            refine hK.out _ _ (HSS.out _ HBW4.out) (fun _ => ?_)
            clear hK K
            try simp only [Act.put, List.getElem_toArray, List.getElem_cons_zero, List.getElem_cons_succ, List.setIfInBounds_toArray, List.set_cons_zero, List.set_cons_succ]
            generalize w36.heap.size = bg at *
            generalize w36.alloc (.cells #[.int .i64 0, .slice none 0 0] 24) = w47 at *
            clear hbn
            refine wpAnyH_ready (rs := [8]) (by kernel_rfl) (by simp) ?_
            refine AllReadyH.cons rfl (fun K hK => ?_) (AllReadyH.nil)
            · skip
              go_simp
              have hbn : Below w47.heap.size w47 (w47.alloc (.cells #[.slice none 0 0, .slice none 0 0] 28)) := (Below.refl _ _).alloc (Nat.le_refl _) _
              have HBN5 : Hid ((w47.alloc (.cells #[.slice none 0 0, .slice none 0 0] 28)).heap[w47.heap.size]? = some (.cells #[.slice none 0 0, .slice none 0 0] 28) ∧ W0.heap.size ≤ w47.heap.size) := ⟨heap_top w47 _, HBW4.out.size⟩
              have HBW5 : Hid (Below W0.heap.size W0 (w47.alloc (.cells #[.slice none 0 0, .slice none 0 0] 28))) := HBW4.out.trans (hbn.mono HBW4.out.size)
              have HST5 := Lib.hid (HST4.out.on hbn)
              have HCP5 : Hid (∃ B, CpO (w47.alloc (.cells #[.slice none 0 0, .slice none 0 0] 28)) B xa bs xc ya Y C yc) := HCP4.out.imp (fun _ h => h.on hbn)
              have HSI5 : Hid (∃ B, (w47.alloc (.cells #[.slice none 0 0, .slice none 0 0] 28)).ownsRow B 3 1 (.slice (some ⟨gi, 0, none⟩) (ids.length + 1) ci) (ids.length + 1) (cellsI (ids ++ [-77]))) := HSI4.out.imp (fun _ h => own_on h hbn)
              have HBG5 : Hid ((w47.alloc (.cells #[.slice none 0 0, .slice none 0 0] 28)).heap[bg]? = some (.cells #[.int .i64 0, .slice none 0 0] 24) ∧ W0.heap.size ≤ bg) := ⟨(hbn.block _ (lt_of_block HBG4.out.1)).trans HBG4.out.1, HBG4.out.2⟩
              have hne : bg ≠ w47.heap.size := Nat.ne_of_lt (lt_of_block HBG4.out.1)
              refine hK.out _ _ (HSS.out _ HBW5.out) (fun _ => ?_)
              clear hK K
              try simp only [Act.put, List.getElem_toArray, List.getElem_cons_zero, List.getElem_cons_succ, List.setIfInBounds_toArray, List.set_cons_zero, List.set_cons_succ]
              generalize w47.heap.size = bn at *
              generalize w47.alloc (.cells #[.slice none 0 0, .slice none 0 0] 28) = w58 at *
              clear hbn
              have HTL := Lib.hid (tls_of HBW5.out HBG5.out.1 HBG5.out.2 HBN5.out.1 HBN5.out.2 hne HST5.out hc1 hc2 HCP5.out (N := N) (c := c) (xc := xc) (yc := yc) HCB.out)
              have HTI := Lib.hid (sti_of HBG5.out.1 HBN5.out.1 hne HSI5.out (.int .i64 N) (.slice (some ⟨g, 0, none⟩) l.length c) (.slice xa bs.length xc) (.slice ya C.length yc))
              obtain ⟨⟨z0, z1⟩, zf0, zf1⟩ := two_cells HBG5.out.1
              have HZN : Hid (((w58.setCell ⟨bg, 0, none⟩ (.int .i64 N)).setCell ⟨bg, 1, none⟩ (.slice (some ⟨g, 0, none⟩) l.length c)).heap[bn]? = some (.cells #[.slice none 0 0, .slice none 0 0] 28)) := (Below.heap_setCell _ ⟨bg, 1, none⟩ _ bn (fun h => hne h.symm)).trans ((Below.heap_setCell _ ⟨bg, 0, none⟩ _ bn (fun h => hne h.symm)).trans HBN5.out.1)
              obtain ⟨⟨y0, y1⟩, yf0, yf1⟩ := two_cells HZN.out
              have HB61 : Hid (Below W0.heap.size W0 ((w58.setCell ⟨bg, 0, none⟩ (.int .i64 N)).setCell ⟨bg, 1, none⟩ (.slice (some ⟨g, 0, none⟩) l.length c))) := (HBW5.out.setCell (p := ⟨bg, 0, none⟩) HBG5.out.2 _).setCell (p := ⟨bg, 1, none⟩) HBG5.out.2 _
              refine wpAnyH_ready (rs := [9]) (by kernel_rfl) (by simp) ?_
              refine AllReadyH.cons rfl (fun K hK => ?_) AllReadyH.nil
              go_simp
              refine hK.out _ _ (HSS.out _ HB61.out) (fun _ => ?_)
              clear hK K
              try simp only [Act.put, List.getElem_toArray, List.getElem_cons_zero, List.getElem_cons_succ, List.setIfInBounds_toArray, List.set_cons_zero, List.set_cons_succ]
              refine wpAnyH_ready (rs := [10]) (by kernel_rfl) (by simp) ?_
              refine AllReadyH.cons rfl (fun K hK => ?_) AllReadyH.nil
              go_simp
              refine hK.out _ _ (HSS.out _ HTL.out.be) (fun _ => ?_)
              clear hK K
              try simp only [Act.put, List.getElem_toArray, List.getElem_cons_zero, List.getElem_cons_succ, List.setIfInBounds_toArray, List.set_cons_zero, List.set_cons_succ]
              refine wpAnyH_ready (rs := [11]) (by kernel_rfl) (by simp) ?_
              refine AllReadyH.cons rfl (fun K hK => ?_) AllReadyH.nil
              go_simp
              refine hK.out _ _ (HSS.out _ HTL.out.be) (fun _ => ?_)
              clear hK K
              try simp only [Act.put, List.getElem_toArray, List.getElem_cons_zero, List.getElem_cons_succ, List.setIfInBounds_toArray, List.set_cons_zero, List.set_cons_succ]
              refine wpAnyH_done (by kernel_rfl) ?_ _
              go_wp2_with fail
              go_meet
              case rel => exact ⟨bg, bn, g, c, xa, xc, ya, Y, yc, gi, ci, rfl, rfl, rfl, HTL, HTI, hi1⟩
          · skip
            go_simp
            have hbn : Below w36.heap.size w36 (w36.alloc (.cells #[.slice none 0 0, .slice none 0 0] 28)) := (Below.refl _ _).alloc (Nat.le_refl _) _
            have HBN4 : Hid ((w36.alloc (.cells #[.slice none 0 0, .slice none 0 0] 28)).heap[w36.heap.size]? = some (.cells #[.slice none 0 0, .slice none 0 0] 28) ∧ W0.heap.size ≤ w36.heap.size) := ⟨heap_top w36 _, HBW3.out.size⟩
            have HBW4 : Hid (Below W0.heap.size W0 (w36.alloc (.cells #[.slice none 0 0, .slice none 0 0] 28))) := HBW3.out.trans (hbn.mono HBW3.out.size)
            have HST4 := Lib.hid (HST3.out.on hbn)
            have HCP4 : Hid (∃ B, CpO (w36.alloc (.cells #[.slice none 0 0, .slice none 0 0] 28)) B xa bs xc ya Y C yc) := HCP3.out.imp (fun _ h => h.on hbn)
            have HSI4 : Hid (∃ B, (w36.alloc (.cells #[.slice none 0 0, .slice none 0 0] 28)).ownsRow B 3 1 (.slice (some ⟨gi, 0, none⟩) (ids.length + 1) ci) (ids.length + 1) (cellsI (ids ++ [-77]))) := HSI3.out.imp (fun _ h => own_on h hbn)
            refine hK.out _ _ (HSS.out _ HBW4.out) (fun _ => ?_)
            clear hK K
            try simp only [Act.put, List.getElem_toArray, List.getElem_cons_zero, List.getElem_cons_succ, List.setIfInBounds_toArray, List.set_cons_zero, List.set_cons_succ]
            generalize w36.heap.size = bn at *
            generalize w36.alloc (.cells #[.slice none 0 0, .slice none 0 0] 28) = w48 at *
            clear hbn
            refine wpAnyH_ready (rs := [7]) (by kernel_rfl) (by simp) ?_
            refine AllReadyH.cons rfl (fun K hK => ?_) (AllReadyH.nil)
            · skip
              go_simp
              have hbn : Below w48.heap.size w48 (w48.alloc (.cells #[.int .i64 0, .slice none 0 0] 24)) := (Below.refl _ _).alloc (Nat.le_refl _) _
              have HBG5 : Hid ((w48.alloc (.cells #[.int .i64 0, .slice none 0 0] 24)).heap[w48.heap.size]? = some (.cells #[.int .i64 0, .slice none 0 0] 24) ∧ W0.heap.size ≤ w48.heap.size) := ⟨heap_top w48 _, HBW4.out.size⟩
              have HBW5 : Hid (Below W0.heap.size W0 (w48.alloc (.cells #[.int .i64 0, .slice none 0 0] 24))) := HBW4.out.trans (hbn.mono HBW4.out.size)
              have HST5 := Lib.hid (HST4.out.on hbn)
              have HCP5 : Hid (∃ B, CpO (w48.alloc (.cells #[.int .i64 0, .slice none 0 0] 24)) B xa bs xc ya Y C yc) := HCP4.out.imp (fun _ h => h.on hbn)
              have HSI5 : Hid (∃ B, (w48.alloc (.cells #[.int .i64 0, .slice none 0 0] 24)).ownsRow B 3 1 (.slice (some ⟨gi, 0, none⟩) (ids.length + 1) ci) (ids.length + 1) (cellsI (ids ++ [-77]))) := HSI4.out.imp (fun _ h => own_on h hbn)
              have HBN5 : Hid ((w48.alloc (.cells #[.int .i64 0, .slice none 0 0] 24)).heap[bn]? = some (.cells #[.slice none 0 0, .slice none 0 0] 28) ∧ W0.heap.size ≤ bn) := ⟨(hbn.block _ (lt_of_block HBN4.out.1)).trans HBN4.out.1, HBN4.out.2⟩
              have hne : w48.heap.size ≠ bn := Nat.ne_of_gt (lt_of_block HBN4.out.1)
              refine hK.out _ _ (HSS.out _ HBW5.out) (fun _ => ?_)
              clear hK K
              try simp only [Act.put, List.getElem_toArray, List.getElem_cons_zero, List.getElem_cons_succ, List.setIfInBounds_toArray, List.set_cons_zero, List.set_cons_succ]
              generalize w48.heap.size = bg at *
              generalize w48.alloc (.cells #[.int .i64 0, .slice none 0 0] 24) = w57 at *
              clear hbn
              have HTL := Lib.hid (tls_of HBW5.out HBG5.out.1 HBG5.out.2 HBN5.out.1 HBN5.out.2 hne HST5.out hc1 hc2 HCP5.out (N := N) (c := c) (xc := xc) (yc := yc) HCB.out)
              have HTI := Lib.hid (sti_of HBG5.out.1 HBN5.out.1 hne HSI5.out (.int .i64 N) (.slice (some ⟨g, 0, none⟩) l.length c) (.slice xa bs.length xc) (.slice ya C.length yc))
              obtain ⟨⟨z0, z1⟩, zf0, zf1⟩ := two_cells HBG5.out.1
              have HZN : Hid (((w57.setCell ⟨bg, 0, none⟩ (.int .i64 N)).setCell ⟨bg, 1, none⟩ (.slice (some ⟨g, 0, none⟩) l.length c)).heap[bn]? = some (.cells #[.slice none 0 0, .slice none 0 0] 28)) := (Below.heap_setCell _ ⟨bg, 1, none⟩ _ bn (fun h => hne h.symm)).trans ((Below.heap_setCell _ ⟨bg, 0, none⟩ _ bn (fun h => hne h.symm)).trans HBN5.out.1)
              obtain ⟨⟨y0, y1⟩, yf0, yf1⟩ := two_cells HZN.out
              have HB61 : Hid (Below W0.heap.size W0 ((w57.setCell ⟨bg, 0, none⟩ (.int .i64 N)).setCell ⟨bg, 1, none⟩ (.slice (some ⟨g, 0, none⟩) l.length c))) := (HBW5.out.setCell (p := ⟨bg, 0, none⟩) HBG5.out.2 _).setCell (p := ⟨bg, 1, none⟩) HBG5.out.2 _
              refine wpAnyH_ready (rs := [9]) (by kernel_rfl) (by simp) ?_
              refine AllReadyH.cons rfl (fun K hK => ?_) AllReadyH.nil
              go_simp
              refine hK.out _ _ (HSS.out _ HB61.out) (fun _ => ?_)
              clear hK K
              try simp only [Act.put, List.getElem_toArray, List.getElem_cons_zero, List.getElem_cons_succ, List.setIfInBounds_toArray, List.set_cons_zero, List.set_cons_succ]
              refine wpAnyH_ready (rs := [10]) (by kernel_rfl) (by simp) ?_
              refine AllReadyH.cons rfl (fun K hK => ?_) AllReadyH.nil
              go_simp
              refine hK.out _ _ (HSS.out _ HTL.out.be) (fun _ => ?_)
              clear hK K
              try simp only [Act.put, List.getElem_toArray, List.getElem_cons_zero, List.getElem_cons_succ, List.setIfInBounds_toArray, List.set_cons_zero, List.set_cons_succ]
              refine wpAnyH_ready (rs := [11]) (by kernel_rfl) (by simp) ?_
              refine AllReadyH.cons rfl (fun K hK => ?_) AllReadyH.nil
              go_simp
              refine hK.out _ _ (HSS.out _ HTL.out.be) (fun _ => ?_)
              clear hK K
              try simp only [Act.put, List.getElem_toArray, List.getElem_cons_zero, List.getElem_cons_succ, List.setIfInBounds_toArray, List.set_cons_zero, List.set_cons_succ]
              refine wpAnyH_done (by kernel_rfl) ?_ _
              go_wp2_with fail
              go_meet
              case rel => exact ⟨bg, bn, g, c, xa, xc, ya, Y, yc, gi, ci, rfl, rfl, rfl, HTL, HTI, hi1⟩
        · skip
          go_simp
          have hbn : Below w23.heap.size w23 (w23.alloc (.cells #[.int .i64 0, .slice none 0 0] 24)) := (Below.refl _ _).alloc (Nat.le_refl _) _
          have HBG3 : Hid ((w23.alloc (.cells #[.int .i64 0, .slice none 0 0] 24)).heap[w23.heap.size]? = some (.cells #[.int .i64 0, .slice none 0 0] 24) ∧ W0.heap.size ≤ w23.heap.size) := ⟨heap_top w23 _, HBW2.out.size⟩
          have HBW3 : Hid (Below W0.heap.size W0 (w23.alloc (.cells #[.int .i64 0, .slice none 0 0] 24))) := HBW2.out.trans (hbn.mono HBW2.out.size)
          have HST3 := Lib.hid (HST2.out.on hbn)
          have HCP3 : Hid (∃ B, CpO (w23.alloc (.cells #[.int .i64 0, .slice none 0 0] 24)) B xa bs xc ya Y C yc) := HCP2.out.imp (fun _ h => h.on hbn)
          refine hK.out _ _ (HSS.out _ HBW3.out) (fun _ => ?_)
          clear hK K
          try simp only [Act.put, List.getElem_toArray, List.getElem_cons_zero, List.getElem_cons_succ, List.setIfInBounds_toArray, List.set_cons_zero, List.set_cons_succ]
          generalize w23.heap.size = bg at *
          generalize w23.alloc (.cells #[.int .i64 0, .slice none 0 0] 24) = w37 at *
          clear hbn
          refine wpAnyH_ready (rs := [6, 8]) (by kernel_rfl) (by simp) ?_
          refine AllReadyH.cons rfl (fun K hK => ?_) (AllReadyH.cons rfl (fun K hK => ?_) (AllReadyH.nil))
          · skip
            rw [if_pos (by rfl)]
            go_simp
            refine (HLI.out w37 HBW3.out).mono ?_
            rintro e w46 ⟨gi, ci, rfl, hi1, hi2, howni, hbn⟩
            have HSI4 : Hid (∃ B, w46.ownsRow B 3 1 (.slice (some ⟨gi, 0, none⟩) (ids.length + 1) ci) (ids.length + 1) (cellsI (ids ++ [-77]))) := ⟨_, howni⟩
            clear howni
            have HBW4 : Hid (Below W0.heap.size W0 w46) := HBW3.out.trans (hbn.mono HBW3.out.size)
            have HST4 := Lib.hid (HST3.out.on hbn)
            have HCP4 : Hid (∃ B, CpO w46 B xa bs xc ya Y C yc) := HCP3.out.imp (fun _ h => h.on hbn)
            have HBG4 : Hid (w46.heap[bg]? = some (.cells #[.int .i64 0, .slice none 0 0] 24) ∧ W0.heap.size ≤ bg) := ⟨(hbn.block _ (lt_of_block HBG3.out.1)).trans HBG3.out.1, HBG3.out.2⟩
            refine hK.out _ _ (HSS.out _ HBW4.out) (fun _ => ?_)
            clear hK K
            try simp only [Act.put, List.getElem_toArray, List.getElem_cons_zero, List.getElem_cons_succ, List.setIfInBounds_toArray, List.set_cons_zero, List.set_cons_succ]
            clear hbn
            refine wpAnyH_ready (rs := [8]) (by kernel_rfl) (by simp) ?_
            refine AllReadyH.cons rfl (fun K hK => ?_) (AllReadyH.nil)
            · skip
              go_simp
              have hbn : Below w46.heap.size w46 (w46.alloc (.cells #[.slice none 0 0, .slice none 0 0] 28)) := (Below.refl _ _).alloc (Nat.le_refl _) _
              have HBN5 : Hid ((w46.alloc (.cells #[.slice none 0 0, .slice none 0 0] 28)).heap[w46.heap.size]? = some (.cells #[.slice none 0 0, .slice none 0 0] 28) ∧ W0.heap.size ≤ w46.heap.size) := ⟨heap_top w46 _, HBW4.out.size⟩
              have HBW5 : Hid (Below W0.heap.size W0 (w46.alloc (.cells #[.slice none 0 0, .slice none 0 0] 28))) := HBW4.out.trans (hbn.mono HBW4.out.size)
              have HST5 := Lib.hid (HST4.out.on hbn)
              have HCP5 : Hid (∃ B, CpO (w46.alloc (.cells #[.slice none 0 0, .slice none 0 0] 28)) B xa bs xc ya Y C yc) := HCP4.out.imp (fun _ h => h.on hbn)
              have HBG5 : Hid ((w46.alloc (.cells #[.slice none 0 0, .slice none 0 0] 28)).heap[bg]? = some (.cells #[.int .i64 0, .slice none 0 0] 24) ∧ W0.heap.size ≤ bg) := ⟨(hbn.block _ (lt_of_block HBG4.out.1)).trans HBG4.out.1, HBG4.out.2⟩
              have HSI5 : Hid (∃ B, (w46.alloc (.cells #[.slice none 0 0, .slice none 0 0] 28)).ownsRow B 3 1 (.slice (some ⟨gi, 0, none⟩) (ids.length + 1) ci) (ids.length + 1) (cellsI (ids ++ [-77]))) := HSI4.out.imp (fun _ h => own_on h hbn)
              have hne : bg ≠ w46.heap.size := Nat.ne_of_lt (lt_of_block HBG4.out.1)
              refine hK.out _ _ (HSS.out _ HBW5.out) (fun _ => ?_)
              clear hK K
              try simp only [Act.put, List.getElem_toArray, List.getElem_cons_zero, List.getElem_cons_succ, List.setIfInBounds_toArray, List.set_cons_zero, List.set_cons_succ]
              generalize w46.heap.size = bn at *
              generalize w46.alloc (.cells #[.slice none 0 0, .slice none 0 0] 28) = w58 at *
              clear hbn
              have HTL := Lib.hid (tls_of HBW5.out HBG5.out.1 HBG5.out.2 HBN5.out.1 HBN5.out.2 hne HST5.out hc1 hc2 HCP5.out (N := N) (c := c) (xc := xc) (yc := yc) HCB.out)
              have HTI := Lib.hid (sti_of HBG5.out.1 HBN5.out.1 hne HSI5.out (.int .i64 N) (.slice (some ⟨g, 0, none⟩) l.length c) (.slice xa bs.length xc) (.slice ya C.length yc))
              obtain ⟨⟨z0, z1⟩, zf0, zf1⟩ := two_cells HBG5.out.1
              have HZN : Hid (((w58.setCell ⟨bg, 0, none⟩ (.int .i64 N)).setCell ⟨bg, 1, none⟩ (.slice (some ⟨g, 0, none⟩) l.length c)).heap[bn]? = some (.cells #[.slice none 0 0, .slice none 0 0] 28)) := (Below.heap_setCell _ ⟨bg, 1, none⟩ _ bn (fun h => hne h.symm)).trans ((Below.heap_setCell _ ⟨bg, 0, none⟩ _ bn (fun h => hne h.symm)).trans HBN5.out.1)
              obtain ⟨⟨y0, y1⟩, yf0, yf1⟩ := two_cells HZN.out
              have HB61 : Hid (Below W0.heap.size W0 ((w58.setCell ⟨bg, 0, none⟩ (.int .i64 N)).setCell ⟨bg, 1, none⟩ (.slice (some ⟨g, 0, none⟩) l.length c))) := (HBW5.out.setCell (p := ⟨bg, 0, none⟩) HBG5.out.2 _).setCell (p := ⟨bg, 1, none⟩) HBG5.out.2 _
              refine wpAnyH_ready (rs := [9]) (by kernel_rfl) (by simp) ?_
              refine AllReadyH.cons rfl (fun K hK => ?_) AllReadyH.nil
              go_simp
              refine hK.out _ _ (HSS.out _ HB61.out) (fun _ => ?_)
              clear hK K
              try simp only [Act.put, List.getElem_toArray, List.getElem_cons_zero, List.getElem_cons_succ, List.setIfInBounds_toArray, List.set_cons_zero, List.set_cons_succ]
              refine wpAnyH_ready (rs := [10]) (by kernel_rfl) (by simp) ?_
              refine AllReadyH.cons rfl (fun K hK => ?_) AllReadyH.nil
              go_simp
              refine hK.out _ _ (HSS.out _ HTL.out.be) (fun _ => ?_)
              clear hK K
              try simp only [Act.put, List.getElem_toArray, List.getElem_cons_zero, List.getElem_cons_succ, List.setIfInBounds_toArray, List.set_cons_zero, List.set_cons_succ]
              refine wpAnyH_ready (rs := [11]) (by kernel_rfl) (by simp) ?_
              refine AllReadyH.cons rfl (fun K hK => ?_) AllReadyH.nil
              go_simp
              refine hK.out _ _ (HSS.out _ HTL.out.be) (fun _ => ?_)
              clear hK K
              try simp only [Act.put, List.getElem_toArray, List.getElem_cons_zero, List.getElem_cons_succ, List.setIfInBounds_toArray, List.set_cons_zero, List.set_cons_succ]
              refine wpAnyH_done (by kernel_rfl) ?_ _
              go_wp2_with fail
              go_meet
              case rel => exact ⟨bg, bn, g, c, xa, xc, ya, Y, yc, gi, ci, rfl, rfl, rfl, HTL, HTI, hi1⟩
          · skip
            go_simp
            have hbn : Below w37.heap.size w37 (w37.alloc (.cells #[.slice none 0 0, .slice none 0 0] 28)) := (Below.refl _ _).alloc (Nat.le_refl _) _
            have HBN4 : Hid ((w37.alloc (.cells #[.slice none 0 0, .slice none 0 0] 28)).heap[w37.heap.size]? = some (.cells #[.slice none 0 0, .slice none 0 0] 28) ∧ W0.heap.size ≤ w37.heap.size) := ⟨heap_top w37 _, HBW3.out.size⟩
            have HBW4 : Hid (Below W0.heap.size W0 (w37.alloc (.cells #[.slice none 0 0, .slice none 0 0] 28))) := HBW3.out.trans (hbn.mono HBW3.out.size)
            have HST4 := Lib.hid (HST3.out.on hbn)
            have HCP4 : Hid (∃ B, CpO (w37.alloc (.cells #[.slice none 0 0, .slice none 0 0] 28)) B xa bs xc ya Y C yc) := HCP3.out.imp (fun _ h => h.on hbn)
            have HBG4 : Hid ((w37.alloc (.cells #[.slice none 0 0, .slice none 0 0] 28)).heap[bg]? = some (.cells #[.int .i64 0, .slice none 0 0] 24) ∧ W0.heap.size ≤ bg) := ⟨(hbn.block _ (lt_of_block HBG3.out.1)).trans HBG3.out.1, HBG3.out.2⟩
            have hne : bg ≠ w37.heap.size := Nat.ne_of_lt (lt_of_block HBG3.out.1)
            refine hK.out _ _ (HSS.out _ HBW4.out) (fun _ => ?_)
            clear hK K
            try simp only [Act.put, List.getElem_toArray, List.getElem_cons_zero, List.getElem_cons_succ, List.setIfInBounds_toArray, List.set_cons_zero, List.set_cons_succ]
            generalize w37.heap.size = bn at *
            generalize w37.alloc (.cells #[.slice none 0 0, .slice none 0 0] 28) = w48 at *
            clear hbn
            refine wpAnyH_ready (rs := [6]) (by kernel_rfl) (by simp) ?_
            refine AllReadyH.cons rfl (fun K hK => ?_) (AllReadyH.nil)
            · skip
              rw [if_pos (by rfl)]
              go_simp
              refine (HLI.out w48 HBW4.out).mono ?_
              rintro e w56 ⟨gi, ci, rfl, hi1, hi2, howni, hbn⟩
              have HSI5 : Hid (∃ B, w56.ownsRow B 3 1 (.slice (some ⟨gi, 0, none⟩) (ids.length + 1) ci) (ids.length + 1) (cellsI (ids ++ [-77]))) := ⟨_, howni⟩
              clear howni
              have HBW5 : Hid (Below W0.heap.size W0 w56) := HBW4.out.trans (hbn.mono HBW4.out.size)
              have HST5 := Lib.hid (HST4.out.on hbn)
              have HCP5 : Hid (∃ B, CpO w56 B xa bs xc ya Y C yc) := HCP4.out.imp (fun _ h => h.on hbn)
              have HBG5 : Hid (w56.heap[bg]? = some (.cells #[.int .i64 0, .slice none 0 0] 24) ∧ W0.heap.size ≤ bg) := ⟨(hbn.block _ (lt_of_block HBG4.out.1)).trans HBG4.out.1, HBG4.out.2⟩
              have HBN5 : Hid (w56.heap[bn]? = some (.cells #[.slice none 0 0, .slice none 0 0] 28) ∧ W0.heap.size ≤ bn) := ⟨(hbn.block _ (lt_of_block HBN4.out.1)).trans HBN4.out.1, HBN4.out.2⟩
              refine hK.out _ _ (HSS.out _ HBW5.out) (fun _ => ?_)
              clear hK K
              try simp only [Act.put, List.getElem_toArray, List.getElem_cons_zero, List.getElem_cons_succ, List.setIfInBounds_toArray, List.set_cons_zero, List.set_cons_succ]
              clear hbn
              have HTL := Lib.hid (tls_of HBW5.out HBG5.out.1 HBG5.out.2 HBN5.out.1 HBN5.out.2 hne HST5.out hc1 hc2 HCP5.out (N := N) (c := c) (xc := xc) (yc := yc) HCB.out)
              have HTI := Lib.hid (sti_of HBG5.out.1 HBN5.out.1 hne HSI5.out (.int .i64 N) (.slice (some ⟨g, 0, none⟩) l.length c) (.slice xa bs.length xc) (.slice ya C.length yc))
              obtain ⟨⟨z0, z1⟩, zf0, zf1⟩ := two_cells HBG5.out.1
              have HZN : Hid (((w56.setCell ⟨bg, 0, none⟩ (.int .i64 N)).setCell ⟨bg, 1, none⟩ (.slice (some ⟨g, 0, none⟩) l.length c)).heap[bn]? = some (.cells #[.slice none 0 0, .slice none 0 0] 28)) := (Below.heap_setCell _ ⟨bg, 1, none⟩ _ bn (fun h => hne h.symm)).trans ((Below.heap_setCell _ ⟨bg, 0, none⟩ _ bn (fun h => hne h.symm)).trans HBN5.out.1)
              obtain ⟨⟨y0, y1⟩, yf0, yf1⟩ := two_cells HZN.out
              have HB61 : Hid (Below W0.heap.size W0 ((w56.setCell ⟨bg, 0, none⟩ (.int .i64 N)).setCell ⟨bg, 1, none⟩ (.slice (some ⟨g, 0, none⟩) l.length c))) := (HBW5.out.setCell (p := ⟨bg, 0, none⟩) HBG5.out.2 _).setCell (p := ⟨bg, 1, none⟩) HBG5.out.2 _
              refine wpAnyH_ready (rs := [9]) (by kernel_rfl) (by simp) ?_
              refine AllReadyH.cons rfl (fun K hK => ?_) AllReadyH.nil
              go_simp
              refine hK.out _ _ (HSS.out _ HB61.out) (fun _ => ?_)
              clear hK K
              try simp only [Act.put, List.getElem_toArray, List.getElem_cons_zero, List.getElem_cons_succ, List.setIfInBounds_toArray, List.set_cons_zero, List.set_cons_succ]
              refine wpAnyH_ready (rs := [10]) (by kernel_rfl) (by simp) ?_
              refine AllReadyH.cons rfl (fun K hK => ?_) AllReadyH.nil
              go_simp
              refine hK.out _ _ (HSS.out _ HTL.out.be) (fun _ => ?_)
              clear hK K
              try simp only [Act.put, List.getElem_toArray, List.getElem_cons_zero, List.getElem_cons_succ, List.setIfInBounds_toArray, List.set_cons_zero, List.set_cons_succ]
              refine wpAnyH_ready (rs := [11]) (by kernel_rfl) (by simp) ?_
              refine AllReadyH.cons rfl (fun K hK => ?_) AllReadyH.nil
              go_simp
              refine hK.out _ _ (HSS.out _ HTL.out.be) (fun _ => ?_)
              clear hK K
              try simp only [Act.put, List.getElem_toArray, List.getElem_cons_zero, List.getElem_cons_succ, List.setIfInBounds_toArray, List.set_cons_zero, List.set_cons_succ]
              refine wpAnyH_done (by kernel_rfl) ?_ _
              go_wp2_with fail
              go_meet
              case rel => exact ⟨bg, bn, g, c, xa, xc, ya, Y, yc, gi, ci, rfl, rfl, rfl, HTL, HTI, hi1⟩
        · skip
          go_simp
          have hbn : Below w23.heap.size w23 (w23.alloc (.cells #[.slice none 0 0, .slice none 0 0] 28)) := (Below.refl _ _).alloc (Nat.le_refl _) _
          have HBN3 : Hid ((w23.alloc (.cells #[.slice none 0 0, .slice none 0 0] 28)).heap[w23.heap.size]? = some (.cells #[.slice none 0 0, .slice none 0 0] 28) ∧ W0.heap.size ≤ w23.heap.size) := ⟨heap_top w23 _, HBW2.out.size⟩
          have HBW3 : Hid (Below W0.heap.size W0 (w23.alloc (.cells #[.slice none 0 0, .slice none 0 0] 28))) := HBW2.out.trans (hbn.mono HBW2.out.size)
          have HST3 := Lib.hid (HST2.out.on hbn)
          have HCP3 : Hid (∃ B, CpO (w23.alloc (.cells #[.slice none 0 0, .slice none 0 0] 28)) B xa bs xc ya Y C yc) := HCP2.out.imp (fun _ h => h.on hbn)
          refine hK.out _ _ (HSS.out _ HBW3.out) (fun _ => ?_)
          clear hK K
          try simp only [Act.put, List.getElem_toArray, List.getElem_cons_zero, List.getElem_cons_succ, List.setIfInBounds_toArray, List.set_cons_zero, List.set_cons_succ]
          generalize w23.heap.size = bn at *
          generalize w23.alloc (.cells #[.slice none 0 0, .slice none 0 0] 28) = w38 at *
          clear hbn
          refine wpAnyH_ready (rs := [6, 7]) (by kernel_rfl) (by simp) ?_
          refine AllReadyH.cons rfl (fun K hK => ?_) (AllReadyH.cons rfl (fun K hK => ?_) (AllReadyH.nil))
          · skip
            rw [if_pos (by rfl)]
            go_simp
            refine (HLI.out w38 HBW3.out).mono ?_
            rintro e w46 ⟨gi, ci, rfl, hi1, hi2, howni, hbn⟩
            have HSI4 : Hid (∃ B, w46.ownsRow B 3 1 (.slice (some ⟨gi, 0, none⟩) (ids.length + 1) ci) (ids.length + 1) (cellsI (ids ++ [-77]))) := ⟨_, howni⟩
            clear howni
            have HBW4 : Hid (Below W0.heap.size W0 w46) := HBW3.out.trans (hbn.mono HBW3.out.size)
            have HST4 := Lib.hid (HST3.out.on hbn)
            have HCP4 : Hid (∃ B, CpO w46 B xa bs xc ya Y C yc) := HCP3.out.imp (fun _ h => h.on hbn)
            have HBN4 : Hid (w46.heap[bn]? = some (.cells #[.slice none 0 0, .slice none 0 0] 28) ∧ W0.heap.size ≤ bn) := ⟨(hbn.block _ (lt_of_block HBN3.out.1)).trans HBN3.out.1, HBN3.out.2⟩
            refine hK.out _ _ (HSS.out _ HBW4.out) (fun _ => ?_)
            clear hK K
            try simp only [Act.put, List.getElem_toArray, List.getElem_cons_zero, List.getElem_cons_succ, List.setIfInBounds_toArray, List.set_cons_zero, List.set_cons_succ]
            clear hbn
            refine wpAnyH_ready (rs := [7]) (by kernel_rfl) (by simp) ?_
            refine AllReadyH.cons rfl (fun K hK => ?_) (AllReadyH.nil)
            · skip
              go_simp
              have hbn : Below w46.heap.size w46 (w46.alloc (.cells #[.int .i64 0, .slice none 0 0] 24)) := (Below.refl _ _).alloc (Nat.le_refl _) _
              have HBG5 : Hid ((w46.alloc (.cells #[.int .i64 0, .slice none 0 0] 24)).heap[w46.heap.size]? = some (.cells #[.int .i64 0, .slice none 0 0] 24) ∧ W0.heap.size ≤ w46.heap.size) := ⟨heap_top w46 _, HBW4.out.size⟩
              have HBW5 : Hid (Below W0.heap.size W0 (w46.alloc (.cells #[.int .i64 0, .slice none 0 0] 24))) := HBW4.out.trans (hbn.mono HBW4.out.size)
              have HST5 := Lib.hid (HST4.out.on hbn)
              have HCP5 : Hid (∃ B, CpO (w46.alloc (.cells #[.int .i64 0, .slice none 0 0] 24)) B xa bs xc ya Y C yc) := HCP4.out.imp (fun _ h => h.on hbn)
              have HBN5 : Hid ((w46.alloc (.cells #[.int .i64 0, .slice none 0 0] 24)).heap[bn]? = some (.cells #[.slice none 0 0, .slice none 0 0] 28) ∧ W0.heap.size ≤ bn) := ⟨(hbn.block _ (lt_of_block HBN4.out.1)).trans HBN4.out.1, HBN4.out.2⟩
              have HSI5 : Hid (∃ B, (w46.alloc (.cells #[.int .i64 0, .slice none 0 0] 24)).ownsRow B 3 1 (.slice (some ⟨gi, 0, none⟩) (ids.length + 1) ci) (ids.length + 1) (cellsI (ids ++ [-77]))) := HSI4.out.imp (fun _ h => own_on h hbn)
              have hne : w46.heap.size ≠ bn := Nat.ne_of_gt (lt_of_block HBN4.out.1)
              refine hK.out _ _ (HSS.out _ HBW5.out) (fun _ => ?_)
              clear hK K
              try simp only [Act.put, List.getElem_toArray, List.getElem_cons_zero, List.getElem_cons_succ, List.setIfInBounds_toArray, List.set_cons_zero, List.set_cons_succ]
              generalize w46.heap.size = bg at *
              generalize w46.alloc (.cells #[.int .i64 0, .slice none 0 0] 24) = w57 at *
              clear hbn
              have HTL := Lib.hid (tls_of HBW5.out HBG5.out.1 HBG5.out.2 HBN5.out.1 HBN5.out.2 hne HST5.out hc1 hc2 HCP5.out (N := N) (c := c) (xc := xc) (yc := yc) HCB.out)
              have HTI := Lib.hid (sti_of HBG5.out.1 HBN5.out.1 hne HSI5.out (.int .i64 N) (.slice (some ⟨g, 0, none⟩) l.length c) (.slice xa bs.length xc) (.slice ya C.length yc))
              obtain ⟨⟨z0, z1⟩, zf0, zf1⟩ := two_cells HBG5.out.1
              have HZN : Hid (((w57.setCell ⟨bg, 0, none⟩ (.int .i64 N)).setCell ⟨bg, 1, none⟩ (.slice (some ⟨g, 0, none⟩) l.length c)).heap[bn]? = some (.cells #[.slice none 0 0, .slice none 0 0] 28)) := (Below.heap_setCell _ ⟨bg, 1, none⟩ _ bn (fun h => hne h.symm)).trans ((Below.heap_setCell _ ⟨bg, 0, none⟩ _ bn (fun h => hne h.symm)).trans HBN5.out.1)
              obtain ⟨⟨y0, y1⟩, yf0, yf1⟩ := two_cells HZN.out
              have HB61 : Hid (Below W0.heap.size W0 ((w57.setCell ⟨bg, 0, none⟩ (.int .i64 N)).setCell ⟨bg, 1, none⟩ (.slice (some ⟨g, 0, none⟩) l.length c))) := (HBW5.out.setCell (p := ⟨bg, 0, none⟩) HBG5.out.2 _).setCell (p := ⟨bg, 1, none⟩) HBG5.out.2 _
              refine wpAnyH_ready (rs := [9]) (by kernel_rfl) (by simp) ?_
              refine AllReadyH.cons rfl (fun K hK => ?_) AllReadyH.nil
              go_simp
              refine hK.out _ _ (HSS.out _ HB61.out) (fun _ => ?_)
              clear hK K
              try simp only [Act.put, List.getElem_toArray, List.getElem_cons_zero, List.getElem_cons_succ, List.setIfInBounds_toArray, List.set_cons_zero, List.set_cons_succ]
              refine wpAnyH_ready (rs := [10]) (by kernel_rfl) (by simp) ?_
              refine AllReadyH.cons rfl (fun K hK => ?_) AllReadyH.nil
              go_simp
              refine hK.out _ _ (HSS.out _ HTL.out.be) (fun _ => ?_)
              clear hK K
              try simp only [Act.put, List.getElem_toArray, List.getElem_cons_zero, List.getElem_cons_succ, List.setIfInBounds_toArray, List.set_cons_zero, List.set_cons_succ]
              refine wpAnyH_ready (rs := [11]) (by kernel_rfl) (by simp) ?_
              refine AllReadyH.cons rfl (fun K hK => ?_) AllReadyH.nil
              go_simp
              refine hK.out _ _ (HSS.out _ HTL.out.be) (fun _ => ?_)
              clear hK K
              try simp only [Act.put, List.getElem_toArray, List.getElem_cons_zero, List.getElem_cons_succ, List.setIfInBounds_toArray, List.set_cons_zero, List.set_cons_succ]
              refine wpAnyH_done (by kernel_rfl) ?_ _
              go_wp2_with fail
              go_meet
              case rel => exact ⟨bg, bn, g, c, xa, xc, ya, Y, yc, gi, ci, rfl, rfl, rfl, HTL, HTI, hi1⟩
          · skip
            go_simp
            have hbn : Below w38.heap.size w38 (w38.alloc (.cells #[.int .i64 0, .slice none 0 0] 24)) := (Below.refl _ _).alloc (Nat.le_refl _) _
            have HBG4 : Hid ((w38.alloc (.cells #[.int .i64 0, .slice none 0 0] 24)).heap[w38.heap.size]? = some (.cells #[.int .i64 0, .slice none 0 0] 24) ∧ W0.heap.size ≤ w38.heap.size) := ⟨heap_top w38 _, HBW3.out.size⟩
            have HBW4 : Hid (Below W0.heap.size W0 (w38.alloc (.cells #[.int .i64 0, .slice none 0 0] 24))) := HBW3.out.trans (hbn.mono HBW3.out.size)
            have HST4 := Lib.hid (HST3.out.on hbn)
            have HCP4 : Hid (∃ B, CpO (w38.alloc (.cells #[.int .i64 0, .slice none 0 0] 24)) B xa bs xc ya Y C yc) := HCP3.out.imp (fun _ h => h.on hbn)
            have HBN4 : Hid ((w38.alloc (.cells #[.int .i64 0, .slice none 0 0] 24)).heap[bn]? = some (.cells #[.slice none 0 0, .slice none 0 0] 28) ∧ W0.heap.size ≤ bn) := ⟨(hbn.block _ (lt_of_block HBN3.out.1)).trans HBN3.out.1, HBN3.out.2⟩
            have hne : w38.heap.size ≠ bn := Nat.ne_of_gt (lt_of_block HBN3.out.1)
            refine hK.out _ _ (HSS.out _ HBW4.out) (fun _ => ?_)
            clear hK K
            try simp only [Act.put, List.getElem_toArray, List.getElem_cons_zero, List.getElem_cons_succ, List.setIfInBounds_toArray, List.set_cons_zero, List.set_cons_succ]
            generalize w38.heap.size = bg at *
            generalize w38.alloc (.cells #[.int .i64 0, .slice none 0 0] 24) = w47 at *
            clear hbn
            refine wpAnyH_ready (rs := [6]) (by kernel_rfl) (by simp) ?_
            refine AllReadyH.cons rfl (fun K hK => ?_) (AllReadyH.nil)
            · skip
              rw [if_pos (by rfl)]
              go_simp
              refine (HLI.out w47 HBW4.out).mono ?_
              rintro e w56 ⟨gi, ci, rfl, hi1, hi2, howni, hbn⟩
              have HSI5 : Hid (∃ B, w56.ownsRow B 3 1 (.slice (some ⟨gi, 0, none⟩) (ids.length + 1) ci) (ids.length + 1) (cellsI (ids ++ [-77]))) := ⟨_, howni⟩
              clear howni
              have HBW5 : Hid (Below W0.heap.size W0 w56) := HBW4.out.trans (hbn.mono HBW4.out.size)
              have HST5 := Lib.hid (HST4.out.on hbn)
              have HCP5 : Hid (∃ B, CpO w56 B xa bs xc ya Y C yc) := HCP4.out.imp (fun _ h => h.on hbn)
              have HBN5 : Hid (w56.heap[bn]? = some (.cells #[.slice none 0 0, .slice none 0 0] 28) ∧ W0.heap.size ≤ bn) := ⟨(hbn.block _ (lt_of_block HBN4.out.1)).trans HBN4.out.1, HBN4.out.2⟩
              have HBG5 : Hid (w56.heap[bg]? = some (.cells #[.int .i64 0, .slice none 0 0] 24) ∧ W0.heap.size ≤ bg) := ⟨(hbn.block _ (lt_of_block HBG4.out.1)).trans HBG4.out.1, HBG4.out.2⟩
              refine hK.out _ _ (HSS.out _ HBW5.out) (fun _ => ?_)
              clear hK K
              try simp only [Act.put, List.getElem_toArray, List.getElem_cons_zero, List.getElem_cons_succ, List.setIfInBounds_toArray, List.set_cons_zero, List.set_cons_succ]
              clear hbn
              have HTL := Lib.hid (tls_of HBW5.out HBG5.out.1 HBG5.out.2 HBN5.out.1 HBN5.out.2 hne HST5.out hc1 hc2 HCP5.out (N := N) (c := c) (xc := xc) (yc := yc) HCB.out)
              have HTI := Lib.hid (sti_of HBG5.out.1 HBN5.out.1 hne HSI5.out (.int .i64 N) (.slice (some ⟨g, 0, none⟩) l.length c) (.slice xa bs.length xc) (.slice ya C.length yc))
              obtain ⟨⟨z0, z1⟩, zf0, zf1⟩ := two_cells HBG5.out.1
              have HZN : Hid (((w56.setCell ⟨bg, 0, none⟩ (.int .i64 N)).setCell ⟨bg, 1, none⟩ (.slice (some ⟨g, 0, none⟩) l.length c)).heap[bn]? = some (.cells #[.slice none 0 0, .slice none 0 0] 28)) := (Below.heap_setCell _ ⟨bg, 1, none⟩ _ bn (fun h => hne h.symm)).trans ((Below.heap_setCell _ ⟨bg, 0, none⟩ _ bn (fun h => hne h.symm)).trans HBN5.out.1)
              obtain ⟨⟨y0, y1⟩, yf0, yf1⟩ := two_cells HZN.out
              have HB61 : Hid (Below W0.heap.size W0 ((w56.setCell ⟨bg, 0, none⟩ (.int .i64 N)).setCell ⟨bg, 1, none⟩ (.slice (some ⟨g, 0, none⟩) l.length c))) := (HBW5.out.setCell (p := ⟨bg, 0, none⟩) HBG5.out.2 _).setCell (p := ⟨bg, 1, none⟩) HBG5.out.2 _
              refine wpAnyH_ready (rs := [9]) (by kernel_rfl) (by simp) ?_
              refine AllReadyH.cons rfl (fun K hK => ?_) AllReadyH.nil
              go_simp
              refine hK.out _ _ (HSS.out _ HB61.out) (fun _ => ?_)
              clear hK K
              try simp only [Act.put, List.getElem_toArray, List.getElem_cons_zero, List.getElem_cons_succ, List.setIfInBounds_toArray, List.set_cons_zero, List.set_cons_succ]
              refine wpAnyH_ready (rs := [10]) (by kernel_rfl) (by simp) ?_
              refine AllReadyH.cons rfl (fun K hK => ?_) AllReadyH.nil
              go_simp
              refine hK.out _ _ (HSS.out _ HTL.out.be) (fun _ => ?_)
              clear hK K
              try simp only [Act.put, List.getElem_toArray, List.getElem_cons_zero, List.getElem_cons_succ, List.setIfInBounds_toArray, List.set_cons_zero, List.set_cons_succ]
              refine wpAnyH_ready (rs := [11]) (by kernel_rfl) (by simp) ?_
              refine AllReadyH.cons rfl (fun K hK => ?_) AllReadyH.nil
              go_simp
              refine hK.out _ _ (HSS.out _ HTL.out.be) (fun _ => ?_)
              clear hK K
              try simp only [Act.put, List.getElem_toArray, List.getElem_cons_zero, List.getElem_cons_succ, List.setIfInBounds_toArray, List.set_cons_zero, List.set_cons_succ]
              refine wpAnyH_done (by kernel_rfl) ?_ _
              go_wp2_with fail
              go_meet
              case rel => exact ⟨bg, bn, g, c, xa, xc, ya, Y, yc, gi, ci, rfl, rfl, rfl, HTL, HTI, hi1⟩
      · skip
        go_simp
        have hbn : Below w11.heap.size w11 (w11.alloc (.cells #[.int .i64 0, .slice none 0 0] 24)) := (Below.refl _ _).alloc (Nat.le_refl _) _
        have HBG2 : Hid ((w11.alloc (.cells #[.int .i64 0, .slice none 0 0] 24)).heap[w11.heap.size]? = some (.cells #[.int .i64 0, .slice none 0 0] 24) ∧ W0.heap.size ≤ w11.heap.size) := ⟨heap_top w11 _, HBW1.out.size⟩
        have HBW2 : Hid (Below W0.heap.size W0 (w11.alloc (.cells #[.int .i64 0, .slice none 0 0] 24))) := HBW1.out.trans (hbn.mono HBW1.out.size)
        have HST2 := Lib.hid (HST1.out.on hbn)
        refine hK.out _ _ (HSS.out _ HBW2.out) (fun _ => ?_)
        clear hK K
        try simp only [Act.put, List.getElem_toArray, List.getElem_cons_zero, List.getElem_cons_succ, List.setIfInBounds_toArray, List.set_cons_zero, List.set_cons_succ]
        generalize w11.heap.size = bg at *
        generalize w11.alloc (.cells #[.int .i64 0, .slice none 0 0] 24) = w27 at *
        clear hbn
        refine wpAnyH_ready (rs := [3, 8]) (by kernel_rfl) (by simp) ?_
        refine AllReadyH.cons rfl (fun K hK => ?_) (AllReadyH.cons rfl (fun K hK => ?_) (AllReadyH.nil))
        · skip
          rw [if_pos (by rfl)]
          go_simp
          refine (HCN.out w27 HBW2.out).mono ?_
          rintro e w33 ⟨xa, xc, ya, Y, yc, rfl, hcpo, hbn⟩
          have HCP3 : Hid (∃ B, CpO w33 B xa bs xc ya Y C yc) := ⟨_, hcpo⟩
          clear hcpo
          have HBW3 : Hid (Below W0.heap.size W0 w33) := HBW2.out.trans (hbn.mono HBW2.out.size)
          have HST3 := Lib.hid (HST2.out.on hbn)
          have HBG3 : Hid (w33.heap[bg]? = some (.cells #[.int .i64 0, .slice none 0 0] 24) ∧ W0.heap.size ≤ bg) := ⟨(hbn.block _ (lt_of_block HBG2.out.1)).trans HBG2.out.1, HBG2.out.2⟩
          refine hK.out _ _ (HSS.out _ HBW3.out) (fun _ => ?_)
          clear hK K
          try simp only [Act.put, List.getElem_toArray, List.getElem_cons_zero, List.getElem_cons_succ, List.setIfInBounds_toArray, List.set_cons_zero, List.set_cons_succ]
          clear hbn
          refine wpAnyH_ready (rs := [6, 8]) (by kernel_rfl) (by simp) ?_
          refine AllReadyH.cons rfl (fun K hK => ?_) (AllReadyH.cons rfl (fun K hK => ?_) (AllReadyH.nil))
          · skip
            rw [if_pos (by rfl)]
            go_simp
            refine (HLI.out w33 HBW3.out).mono ?_
            rintro e w46 ⟨gi, ci, rfl, hi1, hi2, howni, hbn⟩
            have HSI4 : Hid (∃ B, w46.ownsRow B 3 1 (.slice (some ⟨gi, 0, none⟩) (ids.length + 1) ci) (ids.length + 1) (cellsI (ids ++ [-77]))) := ⟨_, howni⟩
            clear howni
            have HBW4 : Hid (Below W0.heap.size W0 w46) := HBW3.out.trans (hbn.mono HBW3.out.size)
            have HST4 := Lib.hid (HST3.out.on hbn)
            have HBG4 : Hid (w46.heap[bg]? = some (.cells #[.int .i64 0, .slice none 0 0] 24) ∧ W0.heap.size ≤ bg) := ⟨(hbn.block _ (lt_of_block HBG3.out.1)).trans HBG3.out.1, HBG3.out.2⟩
            have HCP4 : Hid (∃ B, CpO w46 B xa bs xc ya Y C yc) := HCP3.out.imp (fun _ h => h.on hbn)
            refine hK.out _ _ (HSS.out _ HBW4.out) (fun _ => ?_)
            clear hK K
            try simp only [Act.put, List.getElem_toArray, List.getElem_cons_zero, List.getElem_cons_succ, List.setIfInBounds_toArray, List.set_cons_zero, List.set_cons_succ]
            clear hbn
            refine wpAnyH_ready (rs := [8]) (by kernel_rfl) (by simp) ?_
            refine AllReadyH.cons rfl (fun K hK => ?_) (AllReadyH.nil)
            · skip
              go_simp
              have hbn : Below w46.heap.size w46 (w46.alloc (.cells #[.slice none 0 0, .slice none 0 0] 28)) := (Below.refl _ _).alloc (Nat.le_refl _) _
              have HBN5 : Hid ((w46.alloc (.cells #[.slice none 0 0, .slice none 0 0] 28)).heap[w46.heap.size]? = some (.cells #[.slice none 0 0, .slice none 0 0] 28) ∧ W0.heap.size ≤ w46.heap.size) := ⟨heap_top w46 _, HBW4.out.size⟩
              have HBW5 : Hid (Below W0.heap.size W0 (w46.alloc (.cells #[.slice none 0 0, .slice none 0 0] 28))) := HBW4.out.trans (hbn.mono HBW4.out.size)
              have HST5 := Lib.hid (HST4.out.on hbn)
              have HBG5 : Hid ((w46.alloc (.cells #[.slice none 0 0, .slice none 0 0] 28)).heap[bg]? = some (.cells #[.int .i64 0, .slice none 0 0] 24) ∧ W0.heap.size ≤ bg) := ⟨(hbn.block _ (lt_of_block HBG4.out.1)).trans HBG4.out.1, HBG4.out.2⟩
              have HCP5 : Hid (∃ B, CpO (w46.alloc (.cells #[.slice none 0 0, .slice none 0 0] 28)) B xa bs xc ya Y C yc) := HCP4.out.imp (fun _ h => h.on hbn)
              have HSI5 : Hid (∃ B, (w46.alloc (.cells #[.slice none 0 0, .slice none 0 0] 28)).ownsRow B 3 1 (.slice (some ⟨gi, 0, none⟩) (ids.length + 1) ci) (ids.length + 1) (cellsI (ids ++ [-77]))) := HSI4.out.imp (fun _ h => own_on h hbn)
              have hne : bg ≠ w46.heap.size := Nat.ne_of_lt (lt_of_block HBG4.out.1)
              refine hK.out _ _ (HSS.out _ HBW5.out) (fun _ => ?_)
              clear hK K
              try simp only [Act.put, List.getElem_toArray, List.getElem_cons_zero, List.getElem_cons_succ, List.setIfInBounds_toArray, List.set_cons_zero, List.set_cons_succ]
              generalize w46.heap.size = bn at *
              generalize w46.alloc (.cells #[.slice none 0 0, .slice none 0 0] 28) = w58 at *
              clear hbn
              have HTL := Lib.hid (tls_of HBW5.out HBG5.out.1 HBG5.out.2 HBN5.out.1 HBN5.out.2 hne HST5.out hc1 hc2 HCP5.out (N := N) (c := c) (xc := xc) (yc := yc) HCB.out)
              have HTI := Lib.hid (sti_of HBG5.out.1 HBN5.out.1 hne HSI5.out (.int .i64 N) (.slice (some ⟨g, 0, none⟩) l.length c) (.slice xa bs.length xc) (.slice ya C.length yc))
              obtain ⟨⟨z0, z1⟩, zf0, zf1⟩ := two_cells HBG5.out.1
              have HZN : Hid (((w58.setCell ⟨bg, 0, none⟩ (.int .i64 N)).setCell ⟨bg, 1, none⟩ (.slice (some ⟨g, 0, none⟩) l.length c)).heap[bn]? = some (.cells #[.slice none 0 0, .slice none 0 0] 28)) := (Below.heap_setCell _ ⟨bg, 1, none⟩ _ bn (fun h => hne h.symm)).trans ((Below.heap_setCell _ ⟨bg, 0, none⟩ _ bn (fun h => hne h.symm)).trans HBN5.out.1)
              obtain ⟨⟨y0, y1⟩, yf0, yf1⟩ := two_cells HZN.out
              have HB61 : Hid (Below W0.heap.size W0 ((w58.setCell ⟨bg, 0, none⟩ (.int .i64 N)).setCell ⟨bg, 1, none⟩ (.slice (some ⟨g, 0, none⟩) l.length c))) := (HBW5.out.setCell (p := ⟨bg, 0, none⟩) HBG5.out.2 _).setCell (p := ⟨bg, 1, none⟩) HBG5.out.2 _
              refine wpAnyH_ready (rs := [9]) (by kernel_rfl) (by simp) ?_
              refine AllReadyH.cons rfl (fun K hK => ?_) AllReadyH.nil
              go_simp
              refine hK.out _ _ (HSS.out _ HB61.out) (fun _ => ?_)
              clear hK K
              try simp only [Act.put, List.getElem_toArray, List.getElem_cons_zero, List.getElem_cons_succ, List.setIfInBounds_toArray, List.set_cons_zero, List.set_cons_succ]
              refine wpAnyH_ready (rs := [10]) (by kernel_rfl) (by simp) ?_
              refine AllReadyH.cons rfl (fun K hK => ?_) AllReadyH.nil
              go_simp
              refine hK.out _ _ (HSS.out _ HTL.out.be) (fun _ => ?_)
              clear hK K
              try simp only [Act.put, List.getElem_toArray, List.getElem_cons_zero, List.getElem_cons_succ, List.setIfInBounds_toArray, List.set_cons_zero, List.set_cons_succ]
              refine wpAnyH_ready (rs := [11]) (by kernel_rfl) (by simp) ?_
              refine AllReadyH.cons rfl (fun K hK => ?_) AllReadyH.nil
              go_simp
              refine hK.out _ _ (HSS.out _ HTL.out.be) (fun _ => ?_)
              clear hK K
              try simp only [Act.put, List.getElem_toArray, List.getElem_cons_zero, List.getElem_cons_succ, List.setIfInBounds_toArray, List.set_cons_zero, List.set_cons_succ]
              refine wpAnyH_done (by kernel_rfl) ?_ _
              go_wp2_with fail
              go_meet
              case rel => exact ⟨bg, bn, g, c, xa, xc, ya, Y, yc, gi, ci, rfl, rfl, rfl, HTL, HTI, hi1⟩
          · skip
            go_simp
            have hbn : Below w33.heap.size w33 (w33.alloc (.cells #[.slice none 0 0, .slice none 0 0] 28)) := (Below.refl _ _).alloc (Nat.le_refl _) _
            have HBN4 : Hid ((w33.alloc (.cells #[.slice none 0 0, .slice none 0 0] 28)).heap[w33.heap.size]? = some (.cells #[.slice none 0 0, .slice none 0 0] 28) ∧ W0.heap.size ≤ w33.heap.size) := ⟨heap_top w33 _, HBW3.out.size⟩
            have HBW4 : Hid (Below W0.heap.size W0 (w33.alloc (.cells #[.slice none 0 0, .slice none 0 0] 28))) := HBW3.out.trans (hbn.mono HBW3.out.size)
            have HST4 := Lib.hid (HST3.out.on hbn)
            have HBG4 : Hid ((w33.alloc (.cells #[.slice none 0 0, .slice none 0 0] 28)).heap[bg]? = some (.cells #[.int .i64 0, .slice none 0 0] 24) ∧ W0.heap.size ≤ bg) := ⟨(hbn.block _ (lt_of_block HBG3.out.1)).trans HBG3.out.1, HBG3.out.2⟩
            have HCP4 : Hid (∃ B, CpO (w33.alloc (.cells #[.slice none 0 0, .slice none 0 0] 28)) B xa bs xc ya Y C yc) := HCP3.out.imp (fun _ h => h.on hbn)
            have hne : bg ≠ w33.heap.size := Nat.ne_of_lt (lt_of_block HBG3.out.1)
            refine hK.out _ _ (HSS.out _ HBW4.out) (fun _ => ?_)
            clear hK K
            try simp only [Act.put, List.getElem_toArray, List.getElem_cons_zero, List.getElem_cons_succ, List.setIfInBounds_toArray, List.set_cons_zero, List.set_cons_succ]
            generalize w33.heap.size = bn at *
            generalize w33.alloc (.cells #[.slice none 0 0, .slice none 0 0] 28) = w48 at *
            clear hbn
            refine wpAnyH_ready (rs := [6]) (by kernel_rfl) (by simp) ?_
            refine AllReadyH.cons rfl (fun K hK => ?_) (AllReadyH.nil)
            · skip
              rw [if_pos (by rfl)]
              go_simp
              refine (HLI.out w48 HBW4.out).mono ?_
              rintro e w56 ⟨gi, ci, rfl, hi1, hi2, howni, hbn⟩
              have HSI5 : Hid (∃ B, w56.ownsRow B 3 1 (.slice (some ⟨gi, 0, none⟩) (ids.length + 1) ci) (ids.length + 1) (cellsI (ids ++ [-77]))) := ⟨_, howni⟩
              clear howni
              have HBW5 : Hid (Below W0.heap.size W0 w56) := HBW4.out.trans (hbn.mono HBW4.out.size)
              have HST5 := Lib.hid (HST4.out.on hbn)
              have HBG5 : Hid (w56.heap[bg]? = some (.cells #[.int .i64 0, .slice none 0 0] 24) ∧ W0.heap.size ≤ bg) := ⟨(hbn.block _ (lt_of_block HBG4.out.1)).trans HBG4.out.1, HBG4.out.2⟩
              have HCP5 : Hid (∃ B, CpO w56 B xa bs xc ya Y C yc) := HCP4.out.imp (fun _ h => h.on hbn)
              have HBN5 : Hid (w56.heap[bn]? = some (.cells #[.slice none 0 0, .slice none 0 0] 28) ∧ W0.heap.size ≤ bn) := ⟨(hbn.block _ (lt_of_block HBN4.out.1)).trans HBN4.out.1, HBN4.out.2⟩
              refine hK.out _ _ (HSS.out _ HBW5.out) (fun _ => ?_)
              clear hK K
              try simp only [Act.put, List.getElem_toArray, List.getElem_cons_zero, List.getElem_cons_succ, List.setIfInBounds_toArray, List.set_cons_zero, List.set_cons_succ]
              clear hbn
              have HTL := Lib.hid (tls_of HBW5.out HBG5.out.1 HBG5.out.2 HBN5.out.1 HBN5.out.2 hne HST5.out hc1 hc2 HCP5.out (N := N) (c := c) (xc := xc) (yc := yc) HCB.out)
              have HTI := Lib.hid (sti_of HBG5.out.1 HBN5.out.1 hne HSI5.out (.int .i64 N) (.slice (some ⟨g, 0, none⟩) l.length c) (.slice xa bs.length xc) (.slice ya C.length yc))
              obtain ⟨⟨z0, z1⟩, zf0, zf1⟩ := two_cells HBG5.out.1
              have HZN : Hid (((w56.setCell ⟨bg, 0, none⟩ (.int .i64 N)).setCell ⟨bg, 1, none⟩ (.slice (some ⟨g, 0, none⟩) l.length c)).heap[bn]? = some (.cells #[.slice none 0 0, .slice none 0 0] 28)) := (Below.heap_setCell _ ⟨bg, 1, none⟩ _ bn (fun h => hne h.symm)).trans ((Below.heap_setCell _ ⟨bg, 0, none⟩ _ bn (fun h => hne h.symm)).trans HBN5.out.1)
              obtain ⟨⟨y0, y1⟩, yf0, yf1⟩ := two_cells HZN.out
              have HB61 : Hid (Below W0.heap.size W0 ((w56.setCell ⟨bg, 0, none⟩ (.int .i64 N)).setCell ⟨bg, 1, none⟩ (.slice (some ⟨g, 0, none⟩) l.length c))) := (HBW5.out.setCell (p := ⟨bg, 0, none⟩) HBG5.out.2 _).setCell (p := ⟨bg, 1, none⟩) HBG5.out.2 _
              refine wpAnyH_ready (rs := [9]) (by kernel_rfl) (by simp) ?_
              refine AllReadyH.cons rfl (fun K hK => ?_) AllReadyH.nil
              go_simp
              refine hK.out _ _ (HSS.out _ HB61.out) (fun _ => ?_)
              clear hK K
              try simp only [Act.put, List.getElem_toArray, List.getElem_cons_zero, List.getElem_cons_succ, List.setIfInBounds_toArray, List.set_cons_zero, List.set_cons_succ]
              refine wpAnyH_ready (rs := [10]) (by kernel_rfl) (by simp) ?_
              refine AllReadyH.cons rfl (fun K hK => ?_) AllReadyH.nil
              go_simp
              refine hK.out _ _ (HSS.out _ HTL.out.be) (fun _ => ?_)
              clear hK K
              try simp only [Act.put, List.getElem_toArray, List.getElem_cons_zero, List.getElem_cons_succ, List.setIfInBounds_toArray, List.set_cons_zero, List.set_cons_succ]
              refine wpAnyH_ready (rs := [11]) (by kernel_rfl) (by simp) ?_
              refine AllReadyH.cons rfl (fun K hK => ?_) AllReadyH.nil
              go_simp
              refine hK.out _ _ (HSS.out _ HTL.out.be) (fun _ => ?_)
              clear hK K
              try simp only [Act.put, List.getElem_toArray, List.getElem_cons_zero, List.getElem_cons_succ, List.setIfInBounds_toArray, List.set_cons_zero, List.set_cons_succ]
              refine wpAnyH_done (by kernel_rfl) ?_ _
              go_wp2_with fail
              go_meet
              case rel => exact ⟨bg, bn, g, c, xa, xc, ya, Y, yc, gi, ci, rfl, rfl, rfl, HTL, HTI, hi1⟩
        · skip
          go_simp
          have hbn : Below w27.heap.size w27 (w27.alloc (.cells #[.slice none 0 0, .slice none 0 0] 28)) := (Below.refl _ _).alloc (Nat.le_refl _) _
          have HBN3 : Hid ((w27.alloc (.cells #[.slice none 0 0, .slice none 0 0] 28)).heap[w27.heap.size]? = some (.cells #[.slice none 0 0, .slice none 0 0] 28) ∧ W0.heap.size ≤ w27.heap.size) := ⟨heap_top w27 _, HBW2.out.size⟩
          have HBW3 : Hid (Below W0.heap.size W0 (w27.alloc (.cells #[.slice none 0 0, .slice none 0 0] 28))) := HBW2.out.trans (hbn.mono HBW2.out.size)
          have HST3 := Lib.hid (HST2.out.on hbn)
          have HBG3 : Hid ((w27.alloc (.cells #[.slice none 0 0, .slice none 0 0] 28)).heap[bg]? = some (.cells #[.int .i64 0, .slice none 0 0] 24) ∧ W0.heap.size ≤ bg) := ⟨(hbn.block _ (lt_of_block HBG2.out.1)).trans HBG2.out.1, HBG2.out.2⟩
          have hne : bg ≠ w27.heap.size := Nat.ne_of_lt (lt_of_block HBG2.out.1)
          refine hK.out _ _ (HSS.out _ HBW3.out) (fun _ => ?_)
          clear hK K
          try simp only [Act.put, List.getElem_toArray, List.getElem_cons_zero, List.getElem_cons_succ, List.setIfInBounds_toArray, List.set_cons_zero, List.set_cons_succ]
          generalize w27.heap.size = bn at *
          generalize w27.alloc (.cells #[.slice none 0 0, .slice none 0 0] 28) = w38 at *
          clear hbn
          refine wpAnyH_ready (rs := [3]) (by kernel_rfl) (by simp) ?_
          refine AllReadyH.cons rfl (fun K hK => ?_) (AllReadyH.nil)
          · skip
            rw [if_pos (by rfl)]
            go_simp
            refine (HCN.out w38 HBW3.out).mono ?_
            rintro e w43 ⟨xa, xc, ya, Y, yc, rfl, hcpo, hbn⟩
            have HCP4 : Hid (∃ B, CpO w43 B xa bs xc ya Y C yc) := ⟨_, hcpo⟩
            clear hcpo
            have HBW4 : Hid (Below W0.heap.size W0 w43) := HBW3.out.trans (hbn.mono HBW3.out.size)
            have HST4 := Lib.hid (HST3.out.on hbn)
            have HBG4 : Hid (w43.heap[bg]? = some (.cells #[.int .i64 0, .slice none 0 0] 24) ∧ W0.heap.size ≤ bg) := ⟨(hbn.block _ (lt_of_block HBG3.out.1)).trans HBG3.out.1, HBG3.out.2⟩
            have HBN4 : Hid (w43.heap[bn]? = some (.cells #[.slice none 0 0, .slice none 0 0] 28) ∧ W0.heap.size ≤ bn) := ⟨(hbn.block _ (lt_of_block HBN3.out.1)).trans HBN3.out.1, HBN3.out.2⟩
            refine hK.out _ _ (HSS.out _ HBW4.out) (fun _ => ?_)
            clear hK K
            try simp only [Act.put, List.getElem_toArray, List.getElem_cons_zero, List.getElem_cons_succ, List.setIfInBounds_toArray, List.set_cons_zero, List.set_cons_succ]
            clear hbn
            refine wpAnyH_ready (rs := [6]) (by kernel_rfl) (by simp) ?_
            refine AllReadyH.cons rfl (fun K hK => ?_) (AllReadyH.nil)
            · skip
              rw [if_pos (by rfl)]
              go_simp
              refine (HLI.out w43 HBW4.out).mono ?_
              rintro e w56 ⟨gi, ci, rfl, hi1, hi2, howni, hbn⟩
              have HSI5 : Hid (∃ B, w56.ownsRow B 3 1 (.slice (some ⟨gi, 0, none⟩) (ids.length + 1) ci) (ids.length + 1) (cellsI (ids ++ [-77]))) := ⟨_, howni⟩
              clear howni
              have HBW5 : Hid (Below W0.heap.size W0 w56) := HBW4.out.trans (hbn.mono HBW4.out.size)
              have HST5 := Lib.hid (HST4.out.on hbn)
              have HBG5 : Hid (w56.heap[bg]? = some (.cells #[.int .i64 0, .slice none 0 0] 24) ∧ W0.heap.size ≤ bg) := ⟨(hbn.block _ (lt_of_block HBG4.out.1)).trans HBG4.out.1, HBG4.out.2⟩
              have HBN5 : Hid (w56.heap[bn]? = some (.cells #[.slice none 0 0, .slice none 0 0] 28) ∧ W0.heap.size ≤ bn) := ⟨(hbn.block _ (lt_of_block HBN4.out.1)).trans HBN4.out.1, HBN4.out.2⟩
              have HCP5 : Hid (∃ B, CpO w56 B xa bs xc ya Y C yc) := HCP4.out.imp (fun _ h => h.on hbn)
              refine hK.out _ _ (HSS.out _ HBW5.out) (fun _ => ?_)
              clear hK K
              try simp only [Act.put, List.getElem_toArray, List.getElem_cons_zero, List.getElem_cons_succ, List.setIfInBounds_toArray, List.set_cons_zero, List.set_cons_succ]
              clear hbn
              have HTL := Lib.hid (tls_of HBW5.out HBG5.out.1 HBG5.out.2 HBN5.out.1 HBN5.out.2 hne HST5.out hc1 hc2 HCP5.out (N := N) (c := c) (xc := xc) (yc := yc) HCB.out)
              have HTI := Lib.hid (sti_of HBG5.out.1 HBN5.out.1 hne HSI5.out (.int .i64 N) (.slice (some ⟨g, 0, none⟩) l.length c) (.slice xa bs.length xc) (.slice ya C.length yc))
              obtain ⟨⟨z0, z1⟩, zf0, zf1⟩ := two_cells HBG5.out.1
              have HZN : Hid (((w56.setCell ⟨bg, 0, none⟩ (.int .i64 N)).setCell ⟨bg, 1, none⟩ (.slice (some ⟨g, 0, none⟩) l.length c)).heap[bn]? = some (.cells #[.slice none 0 0, .slice none 0 0] 28)) := (Below.heap_setCell _ ⟨bg, 1, none⟩ _ bn (fun h => hne h.symm)).trans ((Below.heap_setCell _ ⟨bg, 0, none⟩ _ bn (fun h => hne h.symm)).trans HBN5.out.1)
              obtain ⟨⟨y0, y1⟩, yf0, yf1⟩ := two_cells HZN.out
              have HB61 : Hid (Below W0.heap.size W0 ((w56.setCell ⟨bg, 0, none⟩ (.int .i64 N)).setCell ⟨bg, 1, none⟩ (.slice (some ⟨g, 0, none⟩) l.length c))) := (HBW5.out.setCell (p := ⟨bg, 0, none⟩) HBG5.out.2 _).setCell (p := ⟨bg, 1, none⟩) HBG5.out.2 _
              refine wpAnyH_ready (rs := [9]) (by kernel_rfl) (by simp) ?_
              refine AllReadyH.cons rfl (fun K hK => ?_) AllReadyH.nil
              go_simp
              refine hK.out _ _ (HSS.out _ HB61.out) (fun _ => ?_)
              clear hK K
              try simp only [Act.put, List.getElem_toArray, List.getElem_cons_zero, List.getElem_cons_succ, List.setIfInBounds_toArray, List.set_cons_zero, List.set_cons_succ]
              refine wpAnyH_ready (rs := [10]) (by kernel_rfl) (by simp) ?_
              refine AllReadyH.cons rfl (fun K hK => ?_) AllReadyH.nil
              go_simp
              refine hK.out _ _ (HSS.out _ HTL.out.be) (fun _ => ?_)
              clear hK K
              try simp only [Act.put, List.getElem_toArray, List.getElem_cons_zero, List.getElem_cons_succ, List.setIfInBounds_toArray, List.set_cons_zero, List.set_cons_succ]
              refine wpAnyH_ready (rs := [11]) (by kernel_rfl) (by simp) ?_
              refine AllReadyH.cons rfl (fun K hK => ?_) AllReadyH.nil
              go_simp
              refine hK.out _ _ (HSS.out _ HTL.out.be) (fun _ => ?_)
              clear hK K
              try simp only [Act.put, List.getElem_toArray, List.getElem_cons_zero, List.getElem_cons_succ, List.setIfInBounds_toArray, List.set_cons_zero, List.set_cons_succ]
              refine wpAnyH_done (by kernel_rfl) ?_ _
              go_wp2_with fail
              go_meet
              case rel => exact ⟨bg, bn, g, c, xa, xc, ya, Y, yc, gi, ci, rfl, rfl, rfl, HTL, HTI, hi1⟩
      · skip
        go_simp
        have hbn : Below w11.heap.size w11 (w11.alloc (.cells #[.slice none 0 0, .slice none 0 0] 28)) := (Below.refl _ _).alloc (Nat.le_refl _) _
        have HBN2 : Hid ((w11.alloc (.cells #[.slice none 0 0, .slice none 0 0] 28)).heap[w11.heap.size]? = some (.cells #[.slice none 0 0, .slice none 0 0] 28) ∧ W0.heap.size ≤ w11.heap.size) := ⟨heap_top w11 _, HBW1.out.size⟩
        have HBW2 : Hid (Below W0.heap.size W0 (w11.alloc (.cells #[.slice none 0 0, .slice none 0 0] 28))) := HBW1.out.trans (hbn.mono HBW1.out.size)
        have HST2 := Lib.hid (HST1.out.on hbn)
        refine hK.out _ _ (HSS.out _ HBW2.out) (fun _ => ?_)
        clear hK K
        try simp only [Act.put, List.getElem_toArray, List.getElem_cons_zero, List.getElem_cons_succ, List.setIfInBounds_toArray, List.set_cons_zero, List.set_cons_succ]
        generalize w11.heap.size = bn at *
        generalize w11.alloc (.cells #[.slice none 0 0, .slice none 0 0] 28) = w28 at *
        clear hbn
        refine wpAnyH_ready (rs := [3, 7]) (by kernel_rfl) (by simp) ?_
        refine AllReadyH.cons rfl (fun K hK => ?_) (AllReadyH.cons rfl (fun K hK => ?_) (AllReadyH.nil))
        · skip
          rw [if_pos (by rfl)]
          go_simp
          refine (HCN.out w28 HBW2.out).mono ?_
          rintro e w33 ⟨xa, xc, ya, Y, yc, rfl, hcpo, hbn⟩
          have HCP3 : Hid (∃ B, CpO w33 B xa bs xc ya Y C yc) := ⟨_, hcpo⟩
          clear hcpo
          have HBW3 : Hid (Below W0.heap.size W0 w33) := HBW2.out.trans (hbn.mono HBW2.out.size)
          have HST3 := Lib.hid (HST2.out.on hbn)
          have HBN3 : Hid (w33.heap[bn]? = some (.cells #[.slice none 0 0, .slice none 0 0] 28) ∧ W0.heap.size ≤ bn) := ⟨(hbn.block _ (lt_of_block HBN2.out.1)).trans HBN2.out.1, HBN2.out.2⟩
          refine hK.out _ _ (HSS.out _ HBW3.out) (fun _ => ?_)
          clear hK K
          try simp only [Act.put, List.getElem_toArray, List.getElem_cons_zero, List.getElem_cons_succ, List.setIfInBounds_toArray, List.set_cons_zero, List.set_cons_succ]
          clear hbn
          refine wpAnyH_ready (rs := [6, 7]) (by kernel_rfl) (by simp) ?_
          refine AllReadyH.cons rfl (fun K hK => ?_) (AllReadyH.cons rfl (fun K hK => ?_) (AllReadyH.nil))
          · skip
            rw [if_pos (by rfl)]
            go_simp
            refine (HLI.out w33 HBW3.out).mono ?_
            rintro e w46 ⟨gi, ci, rfl, hi1, hi2, howni, hbn⟩
            have HSI4 : Hid (∃ B, w46.ownsRow B 3 1 (.slice (some ⟨gi, 0, none⟩) (ids.length + 1) ci) (ids.length + 1) (cellsI (ids ++ [-77]))) := ⟨_, howni⟩
            clear howni
            have HBW4 : Hid (Below W0.heap.size W0 w46) := HBW3.out.trans (hbn.mono HBW3.out.size)
            have HST4 := Lib.hid (HST3.out.on hbn)
            have HBN4 : Hid (w46.heap[bn]? = some (.cells #[.slice none 0 0, .slice none 0 0] 28) ∧ W0.heap.size ≤ bn) := ⟨(hbn.block _ (lt_of_block HBN3.out.1)).trans HBN3.out.1, HBN3.out.2⟩
            have HCP4 : Hid (∃ B, CpO w46 B xa bs xc ya Y C yc) := HCP3.out.imp (fun _ h => h.on hbn)
            refine hK.out _ _ (HSS.out _ HBW4.out) (fun _ => ?_)
            clear hK K
            try simp only [Act.put, List.getElem_toArray, List.getElem_cons_zero, List.getElem_cons_succ, List.setIfInBounds_toArray, List.set_cons_zero, List.set_cons_succ]
            clear hbn
            refine wpAnyH_ready (rs := [7]) (by kernel_rfl) (by simp) ?_
            refine AllReadyH.cons rfl (fun K hK => ?_) (AllReadyH.nil)
            · skip
              go_simp
              have hbn : Below w46.heap.size w46 (w46.alloc (.cells #[.int .i64 0, .slice none 0 0] 24)) := (Below.refl _ _).alloc (Nat.le_refl _) _
              have HBG5 : Hid ((w46.alloc (.cells #[.int .i64 0, .slice none 0 0] 24)).heap[w46.heap.size]? = some (.cells #[.int .i64 0, .slice none 0 0] 24) ∧ W0.heap.size ≤ w46.heap.size) := ⟨heap_top w46 _, HBW4.out.size⟩
              have HBW5 : Hid (Below W0.heap.size W0 (w46.alloc (.cells #[.int .i64 0, .slice none 0 0] 24))) := HBW4.out.trans (hbn.mono HBW4.out.size)
              have HST5 := Lib.hid (HST4.out.on hbn)
              have HBN5 : Hid ((w46.alloc (.cells #[.int .i64 0, .slice none 0 0] 24)).heap[bn]? = some (.cells #[.slice none 0 0, .slice none 0 0] 28) ∧ W0.heap.size ≤ bn) := ⟨(hbn.block _ (lt_of_block HBN4.out.1)).trans HBN4.out.1, HBN4.out.2⟩
              have HCP5 : Hid (∃ B, CpO (w46.alloc (.cells #[.int .i64 0, .slice none 0 0] 24)) B xa bs xc ya Y C yc) := HCP4.out.imp (fun _ h => h.on hbn)
              have HSI5 : Hid (∃ B, (w46.alloc (.cells #[.int .i64 0, .slice none 0 0] 24)).ownsRow B 3 1 (.slice (some ⟨gi, 0, none⟩) (ids.length + 1) ci) (ids.length + 1) (cellsI (ids ++ [-77]))) := HSI4.out.imp (fun _ h => own_on h hbn)
              have hne : w46.heap.size ≠ bn := Nat.ne_of_gt (lt_of_block HBN4.out.1)
              refine hK.out _ _ (HSS.out _ HBW5.out) (fun _ => ?_)
              clear hK K
              try simp only [Act.put, List.getElem_toArray, List.getElem_cons_zero, List.getElem_cons_succ, List.setIfInBounds_toArray, List.set_cons_zero, List.set_cons_succ]
              generalize w46.heap.size = bg at *
              generalize w46.alloc (.cells #[.int .i64 0, .slice none 0 0] 24) = w57 at *
              clear hbn
              have HTL := Lib.hid (tls_of HBW5.out HBG5.out.1 HBG5.out.2 HBN5.out.1 HBN5.out.2 hne HST5.out hc1 hc2 HCP5.out (N := N) (c := c) (xc := xc) (yc := yc) HCB.out)
              have HTI := Lib.hid (sti_of HBG5.out.1 HBN5.out.1 hne HSI5.out (.int .i64 N) (.slice (some ⟨g, 0, none⟩) l.length c) (.slice xa bs.length xc) (.slice ya C.length yc))
              obtain ⟨⟨z0, z1⟩, zf0, zf1⟩ := two_cells HBG5.out.1
              have HZN : Hid (((w57.setCell ⟨bg, 0, none⟩ (.int .i64 N)).setCell ⟨bg, 1, none⟩ (.slice (some ⟨g, 0, none⟩) l.length c)).heap[bn]? = some (.cells #[.slice none 0 0, .slice none 0 0] 28)) := (Below.heap_setCell _ ⟨bg, 1, none⟩ _ bn (fun h => hne h.symm)).trans ((Below.heap_setCell _ ⟨bg, 0, none⟩ _ bn (fun h => hne h.symm)).trans HBN5.out.1)
              obtain ⟨⟨y0, y1⟩, yf0, yf1⟩ := two_cells HZN.out
              have HB61 : Hid (Below W0.heap.size W0 ((w57.setCell ⟨bg, 0, none⟩ (.int .i64 N)).setCell ⟨bg, 1, none⟩ (.slice (some ⟨g, 0, none⟩) l.length c))) := (HBW5.out.setCell (p := ⟨bg, 0, none⟩) HBG5.out.2 _).setCell (p := ⟨bg, 1, none⟩) HBG5.out.2 _
              refine wpAnyH_ready (rs := [9]) (by kernel_rfl) (by simp) ?_
              refine AllReadyH.cons rfl (fun K hK => ?_) AllReadyH.nil
              go_simp
              refine hK.out _ _ (HSS.out _ HB61.out) (fun _ => ?_)
              clear hK K
              try simp only [Act.put, List.getElem_toArray, List.getElem_cons_zero, List.getElem_cons_succ, List.setIfInBounds_toArray, List.set_cons_zero, List.set_cons_succ]
              refine wpAnyH_ready (rs := [10]) (by kernel_rfl) (by simp) ?_
              refine AllReadyH.cons rfl (fun K hK => ?_) AllReadyH.nil
              go_simp
              refine hK.out _ _ (HSS.out _ HTL.out.be) (fun _ => ?_)
              clear hK K
              try simp only [Act.put, List.getElem_toArray, List.getElem_cons_zero, List.getElem_cons_succ, List.setIfInBounds_toArray, List.set_cons_zero, List.set_cons_succ]
              refine wpAnyH_ready (rs := [11]) (by kernel_rfl) (by simp) ?_
              refine AllReadyH.cons rfl (fun K hK => ?_) AllReadyH.nil
              go_simp
              refine hK.out _ _ (HSS.out _ HTL.out.be) (fun _ => ?_)
              clear hK K
              try simp only [Act.put, List.getElem_toArray, List.getElem_cons_zero, List.getElem_cons_succ, List.setIfInBounds_toArray, List.set_cons_zero, List.set_cons_succ]
              refine wpAnyH_done (by kernel_rfl) ?_ _
              go_wp2_with fail
              go_meet
              case rel => exact ⟨bg, bn, g, c, xa, xc, ya, Y, yc, gi, ci, rfl, rfl, rfl, HTL, HTI, hi1⟩
          · skip
            go_simp
            have hbn : Below w33.heap.size w33 (w33.alloc (.cells #[.int .i64 0, .slice none 0 0] 24)) := (Below.refl _ _).alloc (Nat.le_refl _) _
            have HBG4 : Hid ((w33.alloc (.cells #[.int .i64 0, .slice none 0 0] 24)).heap[w33.heap.size]? = some (.cells #[.int .i64 0, .slice none 0 0] 24) ∧ W0.heap.size ≤ w33.heap.size) := ⟨heap_top w33 _, HBW3.out.size⟩
            have HBW4 : Hid (Below W0.heap.size W0 (w33.alloc (.cells #[.int .i64 0, .slice none 0 0] 24))) := HBW3.out.trans (hbn.mono HBW3.out.size)
            have HST4 := Lib.hid (HST3.out.on hbn)
            have HBN4 : Hid ((w33.alloc (.cells #[.int .i64 0, .slice none 0 0] 24)).heap[bn]? = some (.cells #[.slice none 0 0, .slice none 0 0] 28) ∧ W0.heap.size ≤ bn) := ⟨(hbn.block _ (lt_of_block HBN3.out.1)).trans HBN3.out.1, HBN3.out.2⟩
            have HCP4 : Hid (∃ B, CpO (w33.alloc (.cells #[.int .i64 0, .slice none 0 0] 24)) B xa bs xc ya Y C yc) := HCP3.out.imp (fun _ h => h.on hbn)
            have hne : w33.heap.size ≠ bn := Nat.ne_of_gt (lt_of_block HBN3.out.1)
            refine hK.out _ _ (HSS.out _ HBW4.out) (fun _ => ?_)
            clear hK K
            try simp only [Act.put, List.getElem_toArray, List.getElem_cons_zero, List.getElem_cons_succ, List.setIfInBounds_toArray, List.set_cons_zero, List.set_cons_succ]
            generalize w33.heap.size = bg at *
            generalize w33.alloc (.cells #[.int .i64 0, .slice none 0 0] 24) = w47 at *
            clear hbn
            refine wpAnyH_ready (rs := [6]) (by kernel_rfl) (by simp) ?_
            refine AllReadyH.cons rfl (fun K hK => ?_) (AllReadyH.nil)
            · skip
              rw [if_pos (by rfl)]
              go_simp
              refine (HLI.out w47 HBW4.out).mono ?_
              rintro e w56 ⟨gi, ci, rfl, hi1, hi2, howni, hbn⟩
              have HSI5 : Hid (∃ B, w56.ownsRow B 3 1 (.slice (some ⟨gi, 0, none⟩) (ids.length + 1) ci) (ids.length + 1) (cellsI (ids ++ [-77]))) := ⟨_, howni⟩
              clear howni
              have HBW5 : Hid (Below W0.heap.size W0 w56) := HBW4.out.trans (hbn.mono HBW4.out.size)
              have HST5 := Lib.hid (HST4.out.on hbn)
              have HBN5 : Hid (w56.heap[bn]? = some (.cells #[.slice none 0 0, .slice none 0 0] 28) ∧ W0.heap.size ≤ bn) := ⟨(hbn.block _ (lt_of_block HBN4.out.1)).trans HBN4.out.1, HBN4.out.2⟩
              have HCP5 : Hid (∃ B, CpO w56 B xa bs xc ya Y C yc) := HCP4.out.imp (fun _ h => h.on hbn)
              have HBG5 : Hid (w56.heap[bg]? = some (.cells #[.int .i64 0, .slice none 0 0] 24) ∧ W0.heap.size ≤ bg) := ⟨(hbn.block _ (lt_of_block HBG4.out.1)).trans HBG4.out.1, HBG4.out.2⟩
              refine hK.out _ _ (HSS.out _ HBW5.out) (fun _ => ?_)
              clear hK K
              try simp only [Act.put, List.getElem_toArray, List.getElem_cons_zero, List.getElem_cons_succ, List.setIfInBounds_toArray, List.set_cons_zero, List.set_cons_succ]
              clear hbn
              have HTL := Lib.hid (tls_of HBW5.out HBG5.out.1 HBG5.out.2 HBN5.out.1 HBN5.out.2 hne HST5.out hc1 hc2 HCP5.out (N := N) (c := c) (xc := xc) (yc := yc) HCB.out)
              have HTI := Lib.hid (sti_of HBG5.out.1 HBN5.out.1 hne HSI5.out (.int .i64 N) (.slice (some ⟨g, 0, none⟩) l.length c) (.slice xa bs.length xc) (.slice ya C.length yc))
              obtain ⟨⟨z0, z1⟩, zf0, zf1⟩ := two_cells HBG5.out.1
              have HZN : Hid (((w56.setCell ⟨bg, 0, none⟩ (.int .i64 N)).setCell ⟨bg, 1, none⟩ (.slice (some ⟨g, 0, none⟩) l.length c)).heap[bn]? = some (.cells #[.slice none 0 0, .slice none 0 0] 28)) := (Below.heap_setCell _ ⟨bg, 1, none⟩ _ bn (fun h => hne h.symm)).trans ((Below.heap_setCell _ ⟨bg, 0, none⟩ _ bn (fun h => hne h.symm)).trans HBN5.out.1)
              obtain ⟨⟨y0, y1⟩, yf0, yf1⟩ := two_cells HZN.out
              have HB61 : Hid (Below W0.heap.size W0 ((w56.setCell ⟨bg, 0, none⟩ (.int .i64 N)).setCell ⟨bg, 1, none⟩ (.slice (some ⟨g, 0, none⟩) l.length c))) := (HBW5.out.setCell (p := ⟨bg, 0, none⟩) HBG5.out.2 _).setCell (p := ⟨bg, 1, none⟩) HBG5.out.2 _
              refine wpAnyH_ready (rs := [9]) (by kernel_rfl) (by simp) ?_
              refine AllReadyH.cons rfl (fun K hK => ?_) AllReadyH.nil
              go_simp
              refine hK.out _ _ (HSS.out _ HB61.out) (fun _ => ?_)
              clear hK K
              try simp only [Act.put, List.getElem_toArray, List.getElem_cons_zero, List.getElem_cons_succ, List.setIfInBounds_toArray, List.set_cons_zero, List.set_cons_succ]
              refine wpAnyH_ready (rs := [10]) (by kernel_rfl) (by simp) ?_
              refine AllReadyH.cons rfl (fun K hK => ?_) AllReadyH.nil
              go_simp
              refine hK.out _ _ (HSS.out _ HTL.out.be) (fun _ => ?_)
              clear hK K
              try simp only [Act.put, List.getElem_toArray, List.getElem_cons_zero, List.getElem_cons_succ, List.setIfInBounds_toArray, List.set_cons_zero, List.set_cons_succ]
              refine wpAnyH_ready (rs := [11]) (by kernel_rfl) (by simp) ?_
              refine AllReadyH.cons rfl (fun K hK => ?_) AllReadyH.nil
              go_simp
              refine hK.out _ _ (HSS.out _ HTL.out.be) (fun _ => ?_)
              clear hK K
              try simp only [Act.put, List.getElem_toArray, List.getElem_cons_zero, List.getElem_cons_succ, List.setIfInBounds_toArray, List.set_cons_zero, List.set_cons_succ]
              refine wpAnyH_done (by kernel_rfl) ?_ _
              go_wp2_with fail
              go_meet
              case rel => exact ⟨bg, bn, g, c, xa, xc, ya, Y, yc, gi, ci, rfl, rfl, rfl, HTL, HTI, hi1⟩
        · skip
          go_simp
          have hbn : Below w28.heap.size w28 (w28.alloc (.cells #[.int .i64 0, .slice none 0 0] 24)) := (Below.refl _ _).alloc (Nat.le_refl _) _
          have HBG3 : Hid ((w28.alloc (.cells #[.int .i64 0, .slice none 0 0] 24)).heap[w28.heap.size]? = some (.cells #[.int .i64 0, .slice none 0 0] 24) ∧ W0.heap.size ≤ w28.heap.size) := ⟨heap_top w28 _, HBW2.out.size⟩
          have HBW3 : Hid (Below W0.heap.size W0 (w28.alloc (.cells #[.int .i64 0, .slice none 0 0] 24))) := HBW2.out.trans (hbn.mono HBW2.out.size)
          have HST3 := Lib.hid (HST2.out.on hbn)
          have HBN3 : Hid ((w28.alloc (.cells #[.int .i64 0, .slice none 0 0] 24)).heap[bn]? = some (.cells #[.slice none 0 0, .slice none 0 0] 28) ∧ W0.heap.size ≤ bn) := ⟨(hbn.block _ (lt_of_block HBN2.out.1)).trans HBN2.out.1, HBN2.out.2⟩
          have hne : w28.heap.size ≠ bn := Nat.ne_of_gt (lt_of_block HBN2.out.1)
          refine hK.out _ _ (HSS.out _ HBW3.out) (fun _ => ?_)
          clear hK K
          try simp only [Act.put, List.getElem_toArray, List.getElem_cons_zero, List.getElem_cons_succ, List.setIfInBounds_toArray, List.set_cons_zero, List.set_cons_succ]
          generalize w28.heap.size = bg at *
          generalize w28.alloc (.cells #[.int .i64 0, .slice none 0 0] 24) = w37 at *
          clear hbn
          refine wpAnyH_ready (rs := [3]) (by kernel_rfl) (by simp) ?_
          refine AllReadyH.cons rfl (fun K hK => ?_) (AllReadyH.nil)
          · skip
            rw [if_pos (by rfl)]
            go_simp
            refine (HCN.out w37 HBW3.out).mono ?_
            rintro e w43 ⟨xa, xc, ya, Y, yc, rfl, hcpo, hbn⟩
            have HCP4 : Hid (∃ B, CpO w43 B xa bs xc ya Y C yc) := ⟨_, hcpo⟩
            clear hcpo
            have HBW4 : Hid (Below W0.heap.size W0 w43) := HBW3.out.trans (hbn.mono HBW3.out.size)
            have HST4 := Lib.hid (HST3.out.on hbn)
            have HBN4 : Hid (w43.heap[bn]? = some (.cells #[.slice none 0 0, .slice none 0 0] 28) ∧ W0.heap.size ≤ bn) := ⟨(hbn.block _ (lt_of_block HBN3.out.1)).trans HBN3.out.1, HBN3.out.2⟩
            have HBG4 : Hid (w43.heap[bg]? = some (.cells #[.int .i64 0, .slice none 0 0] 24) ∧ W0.heap.size ≤ bg) := ⟨(hbn.block _ (lt_of_block HBG3.out.1)).trans HBG3.out.1, HBG3.out.2⟩
            refine hK.out _ _ (HSS.out _ HBW4.out) (fun _ => ?_)
            clear hK K
            try simp only [Act.put, List.getElem_toArray, List.getElem_cons_zero, List.getElem_cons_succ, List.setIfInBounds_toArray, List.set_cons_zero, List.set_cons_succ]
            clear hbn
            refine wpAnyH_ready (rs := [6]) (by kernel_rfl) (by simp) ?_
            refine AllReadyH.cons rfl (fun K hK => ?_) (AllReadyH.nil)
            · skip
              rw [if_pos (by rfl)]
              go_simp
              refine (HLI.out w43 HBW4.out).mono ?_
              rintro e w56 ⟨gi, ci, rfl, hi1, hi2, howni, hbn⟩
              have HSI5 : Hid (∃ B, w56.ownsRow B 3 1 (.slice (some ⟨gi, 0, none⟩) (ids.length + 1) ci) (ids.length + 1) (cellsI (ids ++ [-77]))) := ⟨_, howni⟩
              clear howni
              have HBW5 : Hid (Below W0.heap.size W0 w56) := HBW4.out.trans (hbn.mono HBW4.out.size)
              have HST5 := Lib.hid (HST4.out.on hbn)
              have HBN5 : Hid (w56.heap[bn]? = some (.cells #[.slice none 0 0, .slice none 0 0] 28) ∧ W0.heap.size ≤ bn) := ⟨(hbn.block _ (lt_of_block HBN4.out.1)).trans HBN4.out.1, HBN4.out.2⟩
              have HBG5 : Hid (w56.heap[bg]? = some (.cells #[.int .i64 0, .slice none 0 0] 24) ∧ W0.heap.size ≤ bg) := ⟨(hbn.block _ (lt_of_block HBG4.out.1)).trans HBG4.out.1, HBG4.out.2⟩
              have HCP5 : Hid (∃ B, CpO w56 B xa bs xc ya Y C yc) := HCP4.out.imp (fun _ h => h.on hbn)
              refine hK.out _ _ (HSS.out _ HBW5.out) (fun _ => ?_)
              clear hK K
              try simp only [Act.put, List.getElem_toArray, List.getElem_cons_zero, List.getElem_cons_succ, List.setIfInBounds_toArray, List.set_cons_zero, List.set_cons_succ]
              clear hbn
              have HTL := Lib.hid (tls_of HBW5.out HBG5.out.1 HBG5.out.2 HBN5.out.1 HBN5.out.2 hne HST5.out hc1 hc2 HCP5.out (N := N) (c := c) (xc := xc) (yc := yc) HCB.out)
              have HTI := Lib.hid (sti_of HBG5.out.1 HBN5.out.1 hne HSI5.out (.int .i64 N) (.slice (some ⟨g, 0, none⟩) l.length c) (.slice xa bs.length xc) (.slice ya C.length yc))
              obtain ⟨⟨z0, z1⟩, zf0, zf1⟩ := two_cells HBG5.out.1
              have HZN : Hid (((w56.setCell ⟨bg, 0, none⟩ (.int .i64 N)).setCell ⟨bg, 1, none⟩ (.slice (some ⟨g, 0, none⟩) l.length c)).heap[bn]? = some (.cells #[.slice none 0 0, .slice none 0 0] 28)) := (Below.heap_setCell _ ⟨bg, 1, none⟩ _ bn (fun h => hne h.symm)).trans ((Below.heap_setCell _ ⟨bg, 0, none⟩ _ bn (fun h => hne h.symm)).trans HBN5.out.1)
              obtain ⟨⟨y0, y1⟩, yf0, yf1⟩ := two_cells HZN.out
              have HB61 : Hid (Below W0.heap.size W0 ((w56.setCell ⟨bg, 0, none⟩ (.int .i64 N)).setCell ⟨bg, 1, none⟩ (.slice (some ⟨g, 0, none⟩) l.length c))) := (HBW5.out.setCell (p := ⟨bg, 0, none⟩) HBG5.out.2 _).setCell (p := ⟨bg, 1, none⟩) HBG5.out.2 _
              refine wpAnyH_ready (rs := [9]) (by kernel_rfl) (by simp) ?_
              refine AllReadyH.cons rfl (fun K hK => ?_) AllReadyH.nil
              go_simp
              refine hK.out _ _ (HSS.out _ HB61.out) (fun _ => ?_)
              clear hK K
              try simp only [Act.put, List.getElem_toArray, List.getElem_cons_zero, List.getElem_cons_succ, List.setIfInBounds_toArray, List.set_cons_zero, List.set_cons_succ]
              refine wpAnyH_ready (rs := [10]) (by kernel_rfl) (by simp) ?_
              refine AllReadyH.cons rfl (fun K hK => ?_) AllReadyH.nil
              go_simp
              refine hK.out _ _ (HSS.out _ HTL.out.be) (fun _ => ?_)
              clear hK K
              try simp only [Act.put, List.getElem_toArray, List.getElem_cons_zero, List.getElem_cons_succ, List.setIfInBounds_toArray, List.set_cons_zero, List.set_cons_succ]
              refine wpAnyH_ready (rs := [11]) (by kernel_rfl) (by simp) ?_
              refine AllReadyH.cons rfl (fun K hK => ?_) AllReadyH.nil
              go_simp
              refine hK.out _ _ (HSS.out _ HTL.out.be) (fun _ => ?_)
              clear hK K
              try simp only [Act.put, List.getElem_toArray, List.getElem_cons_zero, List.getElem_cons_succ, List.setIfInBounds_toArray, List.set_cons_zero, List.set_cons_succ]
              refine wpAnyH_done (by kernel_rfl) ?_ _
              go_wp2_with fail
              go_meet
              case rel => exact ⟨bg, bn, g, c, xa, xc, ya, Y, yc, gi, ci, rfl, rfl, rfl, HTL, HTI, hi1⟩
    · skip
      go_simp
      have hbn : Below Wd.heap.size Wd (Wd.alloc (.cells #[.int .i64 0, .slice none 0 0] 24)) := (Below.refl _ _).alloc (Nat.le_refl _) _
      have HBG1 : Hid ((Wd.alloc (.cells #[.int .i64 0, .slice none 0 0] 24)).heap[Wd.heap.size]? = some (.cells #[.int .i64 0, .slice none 0 0] 24) ∧ W0.heap.size ≤ Wd.heap.size) := ⟨heap_top Wd _, HB00.out.size⟩
      have HBW1 : Hid (Below W0.heap.size W0 (Wd.alloc (.cells #[.int .i64 0, .slice none 0 0] 24))) := HB00.out.trans (hbn.mono HB00.out.size)
      refine hK.out _ _ (HSS.out _ HBW1.out) (fun _ => ?_)
      clear hK K
      try simp only [Act.put, List.getElem_toArray, List.getElem_cons_zero, List.getElem_cons_succ, List.setIfInBounds_toArray, List.set_cons_zero, List.set_cons_succ]
      generalize Wd.heap.size = bg at *
      generalize Wd.alloc (.cells #[.int .i64 0, .slice none 0 0] 24) = w17 at *
      clear hbn
      refine wpAnyH_ready (rs := [1, 8]) (by kernel_rfl) (by simp) ?_
      refine AllReadyH.cons rfl (fun K hK => ?_) (AllReadyH.cons rfl (fun K hK => ?_) (AllReadyH.nil))
      · skip
        rw [if_pos (by rfl)]
        go_simp
        refine (HLG.out w17 HBW1.out).mono ?_
        rintro e w21 ⟨g, c, rfl, hc1, hc2, hown, hbn⟩
        have HST2 := Lib.hid (still_own hown)
        have HBW2 : Hid (Below W0.heap.size W0 w21) := HBW1.out.trans (hbn.mono HBW1.out.size)
        have HBG2 : Hid (w21.heap[bg]? = some (.cells #[.int .i64 0, .slice none 0 0] 24) ∧ W0.heap.size ≤ bg) := ⟨(hbn.block _ (lt_of_block HBG1.out.1)).trans HBG1.out.1, HBG1.out.2⟩
        refine hK.out _ _ (HSS.out _ HBW2.out) (fun _ => ?_)
        clear hK K
        try simp only [Act.put, List.getElem_toArray, List.getElem_cons_zero, List.getElem_cons_succ, List.setIfInBounds_toArray, List.set_cons_zero, List.set_cons_succ]
        clear hbn
        refine wpAnyH_ready (rs := [3, 8]) (by kernel_rfl) (by simp) ?_
        refine AllReadyH.cons rfl (fun K hK => ?_) (AllReadyH.cons rfl (fun K hK => ?_) (AllReadyH.nil))
        · skip
          rw [if_pos (by rfl)]
          go_simp
          refine (HCN.out w21 HBW2.out).mono ?_
          rintro e w33 ⟨xa, xc, ya, Y, yc, rfl, hcpo, hbn⟩
          have HCP3 : Hid (∃ B, CpO w33 B xa bs xc ya Y C yc) := ⟨_, hcpo⟩
          clear hcpo
          have HBW3 : Hid (Below W0.heap.size W0 w33) := HBW2.out.trans (hbn.mono HBW2.out.size)
          have HBG3 : Hid (w33.heap[bg]? = some (.cells #[.int .i64 0, .slice none 0 0] 24) ∧ W0.heap.size ≤ bg) := ⟨(hbn.block _ (lt_of_block HBG2.out.1)).trans HBG2.out.1, HBG2.out.2⟩
          have HST3 := Lib.hid (HST2.out.on hbn)
          refine hK.out _ _ (HSS.out _ HBW3.out) (fun _ => ?_)
          clear hK K
          try simp only [Act.put, List.getElem_toArray, List.getElem_cons_zero, List.getElem_cons_succ, List.setIfInBounds_toArray, List.set_cons_zero, List.set_cons_succ]
          clear hbn
          refine wpAnyH_ready (rs := [6, 8]) (by kernel_rfl) (by simp) ?_
          refine AllReadyH.cons rfl (fun K hK => ?_) (AllReadyH.cons rfl (fun K hK => ?_) (AllReadyH.nil))
          · skip
            rw [if_pos (by rfl)]
            go_simp
            refine (HLI.out w33 HBW3.out).mono ?_
            rintro e w46 ⟨gi, ci, rfl, hi1, hi2, howni, hbn⟩
            have HSI4 : Hid (∃ B, w46.ownsRow B 3 1 (.slice (some ⟨gi, 0, none⟩) (ids.length + 1) ci) (ids.length + 1) (cellsI (ids ++ [-77]))) := ⟨_, howni⟩
            clear howni
            have HBW4 : Hid (Below W0.heap.size W0 w46) := HBW3.out.trans (hbn.mono HBW3.out.size)
            have HBG4 : Hid (w46.heap[bg]? = some (.cells #[.int .i64 0, .slice none 0 0] 24) ∧ W0.heap.size ≤ bg) := ⟨(hbn.block _ (lt_of_block HBG3.out.1)).trans HBG3.out.1, HBG3.out.2⟩
            have HST4 := Lib.hid (HST3.out.on hbn)
            have HCP4 : Hid (∃ B, CpO w46 B xa bs xc ya Y C yc) := HCP3.out.imp (fun _ h => h.on hbn)
            refine hK.out _ _ (HSS.out _ HBW4.out) (fun _ => ?_)
            clear hK K
            try simp only [Act.put, List.getElem_toArray, List.getElem_cons_zero, List.getElem_cons_succ, List.setIfInBounds_toArray, List.set_cons_zero, List.set_cons_succ]
            clear hbn
            refine wpAnyH_ready (rs := [8]) (by kernel_rfl) (by simp) ?_
            refine AllReadyH.cons rfl (fun K hK => ?_) (AllReadyH.nil)
            · skip
              go_simp
              have hbn : Below w46.heap.size w46 (w46.alloc (.cells #[.slice none 0 0, .slice none 0 0] 28)) := (Below.refl _ _).alloc (Nat.le_refl _) _
              have HBN5 : Hid ((w46.alloc (.cells #[.slice none 0 0, .slice none 0 0] 28)).heap[w46.heap.size]? = some (.cells #[.slice none 0 0, .slice none 0 0] 28) ∧ W0.heap.size ≤ w46.heap.size) := ⟨heap_top w46 _, HBW4.out.size⟩
              have HBW5 : Hid (Below W0.heap.size W0 (w46.alloc (.cells #[.slice none 0 0, .slice none 0 0] 28))) := HBW4.out.trans (hbn.mono HBW4.out.size)
              have HBG5 : Hid ((w46.alloc (.cells #[.slice none 0 0, .slice none 0 0] 28)).heap[bg]? = some (.cells #[.int .i64 0, .slice none 0 0] 24) ∧ W0.heap.size ≤ bg) := ⟨(hbn.block _ (lt_of_block HBG4.out.1)).trans HBG4.out.1, HBG4.out.2⟩
              have HST5 := Lib.hid (HST4.out.on hbn)
              have HCP5 : Hid (∃ B, CpO (w46.alloc (.cells #[.slice none 0 0, .slice none 0 0] 28)) B xa bs xc ya Y C yc) := HCP4.out.imp (fun _ h => h.on hbn)
              have HSI5 : Hid (∃ B, (w46.alloc (.cells #[.slice none 0 0, .slice none 0 0] 28)).ownsRow B 3 1 (.slice (some ⟨gi, 0, none⟩) (ids.length + 1) ci) (ids.length + 1) (cellsI (ids ++ [-77]))) := HSI4.out.imp (fun _ h => own_on h hbn)
              have hne : bg ≠ w46.heap.size := Nat.ne_of_lt (lt_of_block HBG4.out.1)
              refine hK.out _ _ (HSS.out _ HBW5.out) (fun _ => ?_)
              clear hK K
              try simp only [Act.put, List.getElem_toArray, List.getElem_cons_zero, List.getElem_cons_succ, List.setIfInBounds_toArray, List.set_cons_zero, List.set_cons_succ]
              generalize w46.heap.size = bn at *
              generalize w46.alloc (.cells #[.slice none 0 0, .slice none 0 0] 28) = w58 at *
              clear hbn
              have HTL := Lib.hid (tls_of HBW5.out HBG5.out.1 HBG5.out.2 HBN5.out.1 HBN5.out.2 hne HST5.out hc1 hc2 HCP5.out (N := N) (c := c) (xc := xc) (yc := yc) HCB.out)
              have HTI := Lib.hid (sti_of HBG5.out.1 HBN5.out.1 hne HSI5.out (.int .i64 N) (.slice (some ⟨g, 0, none⟩) l.length c) (.slice xa bs.length xc) (.slice ya C.length yc))
              obtain ⟨⟨z0, z1⟩, zf0, zf1⟩ := two_cells HBG5.out.1
              have HZN : Hid (((w58.setCell ⟨bg, 0, none⟩ (.int .i64 N)).setCell ⟨bg, 1, none⟩ (.slice (some ⟨g, 0, none⟩) l.length c)).heap[bn]? = some (.cells #[.slice none 0 0, .slice none 0 0] 28)) := (Below.heap_setCell _ ⟨bg, 1, none⟩ _ bn (fun h => hne h.symm)).trans ((Below.heap_setCell _ ⟨bg, 0, none⟩ _ bn (fun h => hne h.symm)).trans HBN5.out.1)
              obtain ⟨⟨y0, y1⟩, yf0, yf1⟩ := two_cells HZN.out
              have HB61 : Hid (Below W0.heap.size W0 ((w58.setCell ⟨bg, 0, none⟩ (.int .i64 N)).setCell ⟨bg, 1, none⟩ (.slice (some ⟨g, 0, none⟩) l.length c))) := (HBW5.out.setCell (p := ⟨bg, 0, none⟩) HBG5.out.2 _).setCell (p := ⟨bg, 1, none⟩) HBG5.out.2 _
              refine wpAnyH_ready (rs := [9]) (by kernel_rfl) (by simp) ?_
              refine AllReadyH.cons rfl (fun K hK => ?_) AllReadyH.nil
              go_simp
              refine hK.out _ _ (HSS.out _ HB61.out) (fun _ => ?_)
              clear hK K
              try simp only [Act.put, List.getElem_toArray, List.getElem_cons_zero, List.getElem_cons_succ, List.setIfInBounds_toArray, List.set_cons_zero, List.set_cons_succ]
              refine wpAnyH_ready (rs := [10]) (by kernel_rfl) (by simp) ?_
              refine AllReadyH.cons rfl (fun K hK => ?_) AllReadyH.nil
              go_simp
              refine hK.out _ _ (HSS.out _ HTL.out.be) (fun _ => ?_)
              clear hK K
              try simp only [Act.put, List.getElem_toArray, List.getElem_cons_zero, List.getElem_cons_succ, List.setIfInBounds_toArray, List.set_cons_zero, List.set_cons_succ]
              refine wpAnyH_ready (rs := [11]) (by kernel_rfl) (by simp) ?_
              refine AllReadyH.cons rfl (fun K hK => ?_) AllReadyH.nil
              go_simp
              refine hK.out _ _ (HSS.out _ HTL.out.be) (fun _ => ?_)
              clear hK K
              try simp only [Act.put, List.getElem_toArray, List.getElem_cons_zero, List.getElem_cons_succ, List.setIfInBounds_toArray, List.set_cons_zero, List.set_cons_succ]
              refine wpAnyH_done (by kernel_rfl) ?_ _
              go_wp2_with fail
              go_meet
              case rel => exact ⟨bg, bn, g, c, xa, xc, ya, Y, yc, gi, ci, rfl, rfl, rfl, HTL, HTI, hi1⟩
          · skip
            go_simp
            have hbn : Below w33.heap.size w33 (w33.alloc (.cells #[.slice none 0 0, .slice none 0 0] 28)) := (Below.refl _ _).alloc (Nat.le_refl _) _
            have HBN4 : Hid ((w33.alloc (.cells #[.slice none 0 0, .slice none 0 0] 28)).heap[w33.heap.size]? = some (.cells #[.slice none 0 0, .slice none 0 0] 28) ∧ W0.heap.size ≤ w33.heap.size) := ⟨heap_top w33 _, HBW3.out.size⟩
            have HBW4 : Hid (Below W0.heap.size W0 (w33.alloc (.cells #[.slice none 0 0, .slice none 0 0] 28))) := HBW3.out.trans (hbn.mono HBW3.out.size)
            have HBG4 : Hid ((w33.alloc (.cells #[.slice none 0 0, .slice none 0 0] 28)).heap[bg]? = some (.cells #[.int .i64 0, .slice none 0 0] 24) ∧ W0.heap.size ≤ bg) := ⟨(hbn.block _ (lt_of_block HBG3.out.1)).trans HBG3.out.1, HBG3.out.2⟩
            have HST4 := Lib.hid (HST3.out.on hbn)
            have HCP4 : Hid (∃ B, CpO (w33.alloc (.cells #[.slice none 0 0, .slice none 0 0] 28)) B xa bs xc ya Y C yc) := HCP3.out.imp (fun _ h => h.on hbn)
            have hne : bg ≠ w33.heap.size := Nat.ne_of_lt (lt_of_block HBG3.out.1)
            refine hK.out _ _ (HSS.out _ HBW4.out) (fun _ => ?_)
            clear hK K
            try simp only [Act.put, List.getElem_toArray, List.getElem_cons_zero, List.getElem_cons_succ, List.setIfInBounds_toArray, List.set_cons_zero, List.set_cons_succ]
            generalize w33.heap.size = bn at *
            generalize w33.alloc (.cells #[.slice none 0 0, .slice none 0 0] 28) = w48 at *
            clear hbn
            refine wpAnyH_ready (rs := [6]) (by kernel_rfl) (by simp) ?_
            refine AllReadyH.cons rfl (fun K hK => ?_) (AllReadyH.nil)
            · skip
              rw [if_pos (by rfl)]
              go_simp
              refine (HLI.out w48 HBW4.out).mono ?_
              rintro e w56 ⟨gi, ci, rfl, hi1, hi2, howni, hbn⟩
              have HSI5 : Hid (∃ B, w56.ownsRow B 3 1 (.slice (some ⟨gi, 0, none⟩) (ids.length + 1) ci) (ids.length + 1) (cellsI (ids ++ [-77]))) := ⟨_, howni⟩
              clear howni
              have HBW5 : Hid (Below W0.heap.size W0 w56) := HBW4.out.trans (hbn.mono HBW4.out.size)
              have HBG5 : Hid (w56.heap[bg]? = some (.cells #[.int .i64 0, .slice none 0 0] 24) ∧ W0.heap.size ≤ bg) := ⟨(hbn.block _ (lt_of_block HBG4.out.1)).trans HBG4.out.1, HBG4.out.2⟩
              have HST5 := Lib.hid (HST4.out.on hbn)
              have HCP5 : Hid (∃ B, CpO w56 B xa bs xc ya Y C yc) := HCP4.out.imp (fun _ h => h.on hbn)
              have HBN5 : Hid (w56.heap[bn]? = some (.cells #[.slice none 0 0, .slice none 0 0] 28) ∧ W0.heap.size ≤ bn) := ⟨(hbn.block _ (lt_of_block HBN4.out.1)).trans HBN4.out.1, HBN4.out.2⟩
              refine hK.out _ _ (HSS.out _ HBW5.out) (fun _ => ?_)
              clear hK K
              try simp only [Act.put, List.getElem_toArray, List.getElem_cons_zero, List.getElem_cons_succ, List.setIfInBounds_toArray, List.set_cons_zero, List.set_cons_succ]
              clear hbn
              have HTL := Lib.hid (tls_of HBW5.out HBG5.out.1 HBG5.out.2 HBN5.out.1 HBN5.out.2 hne HST5.out hc1 hc2 HCP5.out (N := N) (c := c) (xc := xc) (yc := yc) HCB.out)
              have HTI := Lib.hid (sti_of HBG5.out.1 HBN5.out.1 hne HSI5.out (.int .i64 N) (.slice (some ⟨g, 0, none⟩) l.length c) (.slice xa bs.length xc) (.slice ya C.length yc))
              obtain ⟨⟨z0, z1⟩, zf0, zf1⟩ := two_cells HBG5.out.1
              have HZN : Hid (((w56.setCell ⟨bg, 0, none⟩ (.int .i64 N)).setCell ⟨bg, 1, none⟩ (.slice (some ⟨g, 0, none⟩) l.length c)).heap[bn]? = some (.cells #[.slice none 0 0, .slice none 0 0] 28)) := (Below.heap_setCell _ ⟨bg, 1, none⟩ _ bn (fun h => hne h.symm)).trans ((Below.heap_setCell _ ⟨bg, 0, none⟩ _ bn (fun h => hne h.symm)).trans HBN5.out.1)
              obtain ⟨⟨y0, y1⟩, yf0, yf1⟩ := two_cells HZN.out
              have HB61 : Hid (Below W0.heap.size W0 ((w56.setCell ⟨bg, 0, none⟩ (.int .i64 N)).setCell ⟨bg, 1, none⟩ (.slice (some ⟨g, 0, none⟩) l.length c))) := (HBW5.out.setCell (p := ⟨bg, 0, none⟩) HBG5.out.2 _).setCell (p := ⟨bg, 1, none⟩) HBG5.out.2 _
              refine wpAnyH_ready (rs := [9]) (by kernel_rfl) (by simp) ?_
              refine AllReadyH.cons rfl (fun K hK => ?_) AllReadyH.nil
              go_simp
              refine hK.out _ _ (HSS.out _ HB61.out) (fun _ => ?_)
              clear hK K
              try simp only [Act.put, List.getElem_toArray, List.getElem_cons_zero, List.getElem_cons_succ, List.setIfInBounds_toArray, List.set_cons_zero, List.set_cons_succ]
              refine wpAnyH_ready (rs := [10]) (by kernel_rfl) (by simp) ?_
              refine AllReadyH.cons rfl (fun K hK => ?_) AllReadyH.nil
              go_simp
              refine hK.out _ _ (HSS.out _ HTL.out.be) (fun _ => ?_)
              clear hK K
              try simp only [Act.put, List.getElem_toArray, List.getElem_cons_zero, List.getElem_cons_succ, List.setIfInBounds_toArray, List.set_cons_zero, List.set_cons_succ]
              refine wpAnyH_ready (rs := [11]) (by kernel_rfl) (by simp) ?_
              refine AllReadyH.cons rfl (fun K hK => ?_) AllReadyH.nil
              go_simp
              refine hK.out _ _ (HSS.out _ HTL.out.be) (fun _ => ?_)
              clear hK K
              try simp only [Act.put, List.getElem_toArray, List.getElem_cons_zero, List.getElem_cons_succ, List.setIfInBounds_toArray, List.set_cons_zero, List.set_cons_succ]
              refine wpAnyH_done (by kernel_rfl) ?_ _
              go_wp2_with fail
              go_meet
              case rel => exact ⟨bg, bn, g, c, xa, xc, ya, Y, yc, gi, ci, rfl, rfl, rfl, HTL, HTI, hi1⟩
        · skip
          go_simp
          have hbn : Below w21.heap.size w21 (w21.alloc (.cells #[.slice none 0 0, .slice none 0 0] 28)) := (Below.refl _ _).alloc (Nat.le_refl _) _
          have HBN3 : Hid ((w21.alloc (.cells #[.slice none 0 0, .slice none 0 0] 28)).heap[w21.heap.size]? = some (.cells #[.slice none 0 0, .slice none 0 0] 28) ∧ W0.heap.size ≤ w21.heap.size) := ⟨heap_top w21 _, HBW2.out.size⟩
          have HBW3 : Hid (Below W0.heap.size W0 (w21.alloc (.cells #[.slice none 0 0, .slice none 0 0] 28))) := HBW2.out.trans (hbn.mono HBW2.out.size)
          have HBG3 : Hid ((w21.alloc (.cells #[.slice none 0 0, .slice none 0 0] 28)).heap[bg]? = some (.cells #[.int .i64 0, .slice none 0 0] 24) ∧ W0.heap.size ≤ bg) := ⟨(hbn.block _ (lt_of_block HBG2.out.1)).trans HBG2.out.1, HBG2.out.2⟩
          have HST3 := Lib.hid (HST2.out.on hbn)
          have hne : bg ≠ w21.heap.size := Nat.ne_of_lt (lt_of_block HBG2.out.1)
          refine hK.out _ _ (HSS.out _ HBW3.out) (fun _ => ?_)
          clear hK K
          try simp only [Act.put, List.getElem_toArray, List.getElem_cons_zero, List.getElem_cons_succ, List.setIfInBounds_toArray, List.set_cons_zero, List.set_cons_succ]
          generalize w21.heap.size = bn at *
          generalize w21.alloc (.cells #[.slice none 0 0, .slice none 0 0] 28) = w38 at *
          clear hbn
          refine wpAnyH_ready (rs := [3]) (by kernel_rfl) (by simp) ?_
          refine AllReadyH.cons rfl (fun K hK => ?_) (AllReadyH.nil)
          · skip
            rw [if_pos (by rfl)]
            go_simp
            refine (HCN.out w38 HBW3.out).mono ?_
            rintro e w43 ⟨xa, xc, ya, Y, yc, rfl, hcpo, hbn⟩
            have HCP4 : Hid (∃ B, CpO w43 B xa bs xc ya Y C yc) := ⟨_, hcpo⟩
            clear hcpo
            have HBW4 : Hid (Below W0.heap.size W0 w43) := HBW3.out.trans (hbn.mono HBW3.out.size)
            have HBG4 : Hid (w43.heap[bg]? = some (.cells #[.int .i64 0, .slice none 0 0] 24) ∧ W0.heap.size ≤ bg) := ⟨(hbn.block _ (lt_of_block HBG3.out.1)).trans HBG3.out.1, HBG3.out.2⟩
            have HST4 := Lib.hid (HST3.out.on hbn)
            have HBN4 : Hid (w43.heap[bn]? = some (.cells #[.slice none 0 0, .slice none 0 0] 28) ∧ W0.heap.size ≤ bn) := ⟨(hbn.block _ (lt_of_block HBN3.out.1)).trans HBN3.out.1, HBN3.out.2⟩
            refine hK.out _ _ (HSS.out _ HBW4.out) (fun _ => ?_)
            clear hK K
            try simp only [Act.put, List.getElem_toArray, List.getElem_cons_zero, List.getElem_cons_succ, List.setIfInBounds_toArray, List.set_cons_zero, List.set_cons_succ]
            clear hbn
            refine wpAnyH_ready (rs := [6]) (by kernel_rfl) (by simp) ?_
            refine AllReadyH.cons rfl (fun K hK => ?_) (AllReadyH.nil)
            · skip
              rw [if_pos (by rfl)]
              go_simp
              refine (HLI.out w43 HBW4.out).mono ?_
              rintro e w56 ⟨gi, ci, rfl, hi1, hi2, howni, hbn⟩
              have HSI5 : Hid (∃ B, w56.ownsRow B 3 1 (.slice (some ⟨gi, 0, none⟩) (ids.length + 1) ci) (ids.length + 1) (cellsI (ids ++ [-77]))) := ⟨_, howni⟩
              clear howni
              have HBW5 : Hid (Below W0.heap.size W0 w56) := HBW4.out.trans (hbn.mono HBW4.out.size)
              have HBG5 : Hid (w56.heap[bg]? = some (.cells #[.int .i64 0, .slice none 0 0] 24) ∧ W0.heap.size ≤ bg) := ⟨(hbn.block _ (lt_of_block HBG4.out.1)).trans HBG4.out.1, HBG4.out.2⟩
              have HST5 := Lib.hid (HST4.out.on hbn)
              have HBN5 : Hid (w56.heap[bn]? = some (.cells #[.slice none 0 0, .slice none 0 0] 28) ∧ W0.heap.size ≤ bn) := ⟨(hbn.block _ (lt_of_block HBN4.out.1)).trans HBN4.out.1, HBN4.out.2⟩
              have HCP5 : Hid (∃ B, CpO w56 B xa bs xc ya Y C yc) := HCP4.out.imp (fun _ h => h.on hbn)
              refine hK.out _ _ (HSS.out _ HBW5.out) (fun _ => ?_)
              clear hK K
              try simp only [Act.put, List.getElem_toArray, List.getElem_cons_zero, List.getElem_cons_succ, List.setIfInBounds_toArray, List.set_cons_zero, List.set_cons_succ]
              clear hbn
              have HTL := Lib.hid (tls_of HBW5.out HBG5.out.1 HBG5.out.2 HBN5.out.1 HBN5.out.2 hne HST5.out hc1 hc2 HCP5.out (N := N) (c := c) (xc := xc) (yc := yc) HCB.out)
              have HTI := Lib.hid (sti_of HBG5.out.1 HBN5.out.1 hne HSI5.out (.int .i64 N) (.slice (some ⟨g, 0, none⟩) l.length c) (.slice xa bs.length xc) (.slice ya C.length yc))
              obtain ⟨⟨z0, z1⟩, zf0, zf1⟩ := two_cells HBG5.out.1
              have HZN : Hid (((w56.setCell ⟨bg, 0, none⟩ (.int .i64 N)).setCell ⟨bg, 1, none⟩ (.slice (some ⟨g, 0, none⟩) l.length c)).heap[bn]? = some (.cells #[.slice none 0 0, .slice none 0 0] 28)) := (Below.heap_setCell _ ⟨bg, 1, none⟩ _ bn (fun h => hne h.symm)).trans ((Below.heap_setCell _ ⟨bg, 0, none⟩ _ bn (fun h => hne h.symm)).trans HBN5.out.1)
              obtain ⟨⟨y0, y1⟩, yf0, yf1⟩ := two_cells HZN.out
              have HB61 : Hid (Below W0.heap.size W0 ((w56.setCell ⟨bg, 0, none⟩ (.int .i64 N)).setCell ⟨bg, 1, none⟩ (.slice (some ⟨g, 0, none⟩) l.length c))) := (HBW5.out.setCell (p := ⟨bg, 0, none⟩) HBG5.out.2 _).setCell (p := ⟨bg, 1, none⟩) HBG5.out.2 _
              refine wpAnyH_ready (rs := [9]) (by kernel_rfl) (by simp) ?_
              refine AllReadyH.cons rfl (fun K hK => ?_) AllReadyH.nil
              go_simp
              refine hK.out _ _ (HSS.out _ HB61.out) (fun _ => ?_)
              clear hK K
              try simp only [Act.put, List.getElem_toArray, List.getElem_cons_zero, List.getElem_cons_succ, List.setIfInBounds_toArray, List.set_cons_zero, List.set_cons_succ]
              refine wpAnyH_ready (rs := [10]) (by kernel_rfl) (by simp) ?_
              refine AllReadyH.cons rfl (fun K hK => ?_) AllReadyH.nil
              go_simp
              refine hK.out _ _ (HSS.out _ HTL.out.be) (fun _ => ?_)
              clear hK K
              try simp only [Act.put, List.getElem_toArray, List.getElem_cons_zero, List.getElem_cons_succ, List.setIfInBounds_toArray, List.set_cons_zero, List.set_cons_succ]
              refine wpAnyH_ready (rs := [11]) (by kernel_rfl) (by simp) ?_
              refine AllReadyH.cons rfl (fun K hK => ?_) AllReadyH.nil
              go_simp
              refine hK.out _ _ (HSS.out _ HTL.out.be) (fun _ => ?_)
              clear hK K
              try simp only [Act.put, List.getElem_toArray, List.getElem_cons_zero, List.getElem_cons_succ, List.setIfInBounds_toArray, List.set_cons_zero, List.set_cons_succ]
              refine wpAnyH_done (by kernel_rfl) ?_ _
              go_wp2_with fail
              go_meet
              case rel => exact ⟨bg, bn, g, c, xa, xc, ya, Y, yc, gi, ci, rfl, rfl, rfl, HTL, HTI, hi1⟩
      · skip
        go_simp
        have hbn : Below w17.heap.size w17 (w17.alloc (.cells #[.slice none 0 0, .slice none 0 0] 28)) := (Below.refl _ _).alloc (Nat.le_refl _) _
        have HBN2 : Hid ((w17.alloc (.cells #[.slice none 0 0, .slice none 0 0] 28)).heap[w17.heap.size]? = some (.cells #[.slice none 0 0, .slice none 0 0] 28) ∧ W0.heap.size ≤ w17.heap.size) := ⟨heap_top w17 _, HBW1.out.size⟩
        have HBW2 : Hid (Below W0.heap.size W0 (w17.alloc (.cells #[.slice none 0 0, .slice none 0 0] 28))) := HBW1.out.trans (hbn.mono HBW1.out.size)
        have HBG2 : Hid ((w17.alloc (.cells #[.slice none 0 0, .slice none 0 0] 28)).heap[bg]? = some (.cells #[.int .i64 0, .slice none 0 0] 24) ∧ W0.heap.size ≤ bg) := ⟨(hbn.block _ (lt_of_block HBG1.out.1)).trans HBG1.out.1, HBG1.out.2⟩
        have hne : bg ≠ w17.heap.size := Nat.ne_of_lt (lt_of_block HBG1.out.1)
        refine hK.out _ _ (HSS.out _ HBW2.out) (fun _ => ?_)
        clear hK K
        try simp only [Act.put, List.getElem_toArray, List.getElem_cons_zero, List.getElem_cons_succ, List.setIfInBounds_toArray, List.set_cons_zero, List.set_cons_succ]
        generalize w17.heap.size = bn at *
        generalize w17.alloc (.cells #[.slice none 0 0, .slice none 0 0] 28) = w28 at *
        clear hbn
        refine wpAnyH_ready (rs := [1]) (by kernel_rfl) (by simp) ?_
        refine AllReadyH.cons rfl (fun K hK => ?_) (AllReadyH.nil)
        · skip
          rw [if_pos (by rfl)]
          go_simp
          refine (HLG.out w28 HBW2.out).mono ?_
          rintro e w31 ⟨g, c, rfl, hc1, hc2, hown, hbn⟩
          have HST3 := Lib.hid (still_own hown)
          have HBW3 : Hid (Below W0.heap.size W0 w31) := HBW2.out.trans (hbn.mono HBW2.out.size)
          have HBG3 : Hid (w31.heap[bg]? = some (.cells #[.int .i64 0, .slice none 0 0] 24) ∧ W0.heap.size ≤ bg) := ⟨(hbn.block _ (lt_of_block HBG2.out.1)).trans HBG2.out.1, HBG2.out.2⟩
          have HBN3 : Hid (w31.heap[bn]? = some (.cells #[.slice none 0 0, .slice none 0 0] 28) ∧ W0.heap.size ≤ bn) := ⟨(hbn.block _ (lt_of_block HBN2.out.1)).trans HBN2.out.1, HBN2.out.2⟩
          refine hK.out _ _ (HSS.out _ HBW3.out) (fun _ => ?_)
          clear hK K
          try simp only [Act.put, List.getElem_toArray, List.getElem_cons_zero, List.getElem_cons_succ, List.setIfInBounds_toArray, List.set_cons_zero, List.set_cons_succ]
          clear hbn
          refine wpAnyH_ready (rs := [3]) (by kernel_rfl) (by simp) ?_
          refine AllReadyH.cons rfl (fun K hK => ?_) (AllReadyH.nil)
          · skip
            rw [if_pos (by rfl)]
            go_simp
            refine (HCN.out w31 HBW3.out).mono ?_
            rintro e w43 ⟨xa, xc, ya, Y, yc, rfl, hcpo, hbn⟩
            have HCP4 : Hid (∃ B, CpO w43 B xa bs xc ya Y C yc) := ⟨_, hcpo⟩
            clear hcpo
            have HBW4 : Hid (Below W0.heap.size W0 w43) := HBW3.out.trans (hbn.mono HBW3.out.size)
            have HBG4 : Hid (w43.heap[bg]? = some (.cells #[.int .i64 0, .slice none 0 0] 24) ∧ W0.heap.size ≤ bg) := ⟨(hbn.block _ (lt_of_block HBG3.out.1)).trans HBG3.out.1, HBG3.out.2⟩
            have HBN4 : Hid (w43.heap[bn]? = some (.cells #[.slice none 0 0, .slice none 0 0] 28) ∧ W0.heap.size ≤ bn) := ⟨(hbn.block _ (lt_of_block HBN3.out.1)).trans HBN3.out.1, HBN3.out.2⟩
            have HST4 := Lib.hid (HST3.out.on hbn)
            refine hK.out _ _ (HSS.out _ HBW4.out) (fun _ => ?_)
            clear hK K
            try simp only [Act.put, List.getElem_toArray, List.getElem_cons_zero, List.getElem_cons_succ, List.setIfInBounds_toArray, List.set_cons_zero, List.set_cons_succ]
            clear hbn
            refine wpAnyH_ready (rs := [6]) (by kernel_rfl) (by simp) ?_
            refine AllReadyH.cons rfl (fun K hK => ?_) (AllReadyH.nil)
            · skip
              rw [if_pos (by rfl)]
              go_simp
              refine (HLI.out w43 HBW4.out).mono ?_
              rintro e w56 ⟨gi, ci, rfl, hi1, hi2, howni, hbn⟩
              have HSI5 : Hid (∃ B, w56.ownsRow B 3 1 (.slice (some ⟨gi, 0, none⟩) (ids.length + 1) ci) (ids.length + 1) (cellsI (ids ++ [-77]))) := ⟨_, howni⟩
              clear howni
              have HBW5 : Hid (Below W0.heap.size W0 w56) := HBW4.out.trans (hbn.mono HBW4.out.size)
              have HBG5 : Hid (w56.heap[bg]? = some (.cells #[.int .i64 0, .slice none 0 0] 24) ∧ W0.heap.size ≤ bg) := ⟨(hbn.block _ (lt_of_block HBG4.out.1)).trans HBG4.out.1, HBG4.out.2⟩
              have HBN5 : Hid (w56.heap[bn]? = some (.cells #[.slice none 0 0, .slice none 0 0] 28) ∧ W0.heap.size ≤ bn) := ⟨(hbn.block _ (lt_of_block HBN4.out.1)).trans HBN4.out.1, HBN4.out.2⟩
              have HST5 := Lib.hid (HST4.out.on hbn)
              have HCP5 : Hid (∃ B, CpO w56 B xa bs xc ya Y C yc) := HCP4.out.imp (fun _ h => h.on hbn)
              refine hK.out _ _ (HSS.out _ HBW5.out) (fun _ => ?_)
              clear hK K
              try simp only [Act.put, List.getElem_toArray, List.getElem_cons_zero, List.getElem_cons_succ, List.setIfInBounds_toArray, List.set_cons_zero, List.set_cons_succ]
              clear hbn
              have HTL := Lib.hid (tls_of HBW5.out HBG5.out.1 HBG5.out.2 HBN5.out.1 HBN5.out.2 hne HST5.out hc1 hc2 HCP5.out (N := N) (c := c) (xc := xc) (yc := yc) HCB.out)
              have HTI := Lib.hid (sti_of HBG5.out.1 HBN5.out.1 hne HSI5.out (.int .i64 N) (.slice (some ⟨g, 0, none⟩) l.length c) (.slice xa bs.length xc) (.slice ya C.length yc))
              obtain ⟨⟨z0, z1⟩, zf0, zf1⟩ := two_cells HBG5.out.1
              have HZN : Hid (((w56.setCell ⟨bg, 0, none⟩ (.int .i64 N)).setCell ⟨bg, 1, none⟩ (.slice (some ⟨g, 0, none⟩) l.length c)).heap[bn]? = some (.cells #[.slice none 0 0, .slice none 0 0] 28)) := (Below.heap_setCell _ ⟨bg, 1, none⟩ _ bn (fun h => hne h.symm)).trans ((Below.heap_setCell _ ⟨bg, 0, none⟩ _ bn (fun h => hne h.symm)).trans HBN5.out.1)
              obtain ⟨⟨y0, y1⟩, yf0, yf1⟩ := two_cells HZN.out
              have HB61 : Hid (Below W0.heap.size W0 ((w56.setCell ⟨bg, 0, none⟩ (.int .i64 N)).setCell ⟨bg, 1, none⟩ (.slice (some ⟨g, 0, none⟩) l.length c))) := (HBW5.out.setCell (p := ⟨bg, 0, none⟩) HBG5.out.2 _).setCell (p := ⟨bg, 1, none⟩) HBG5.out.2 _
              refine wpAnyH_ready (rs := [9]) (by kernel_rfl) (by simp) ?_
              refine AllReadyH.cons rfl (fun K hK => ?_) AllReadyH.nil
              go_simp
              refine hK.out _ _ (HSS.out _ HB61.out) (fun _ => ?_)
              clear hK K
              try simp only [Act.put, List.getElem_toArray, List.getElem_cons_zero, List.getElem_cons_succ, List.setIfInBounds_toArray, List.set_cons_zero, List.set_cons_succ]
              refine wpAnyH_ready (rs := [10]) (by kernel_rfl) (by simp) ?_
              refine AllReadyH.cons rfl (fun K hK => ?_) AllReadyH.nil
              go_simp
              refine hK.out _ _ (HSS.out _ HTL.out.be) (fun _ => ?_)
              clear hK K
              try simp only [Act.put, List.getElem_toArray, List.getElem_cons_zero, List.getElem_cons_succ, List.setIfInBounds_toArray, List.set_cons_zero, List.set_cons_succ]
              refine wpAnyH_ready (rs := [11]) (by kernel_rfl) (by simp) ?_
              refine AllReadyH.cons rfl (fun K hK => ?_) AllReadyH.nil
              go_simp
              refine hK.out _ _ (HSS.out _ HTL.out.be) (fun _ => ?_)
              clear hK K
              try simp only [Act.put, List.getElem_toArray, List.getElem_cons_zero, List.getElem_cons_succ, List.setIfInBounds_toArray, List.set_cons_zero, List.set_cons_succ]
              refine wpAnyH_done (by kernel_rfl) ?_ _
              go_wp2_with fail
              go_meet
              case rel => exact ⟨bg, bn, g, c, xa, xc, ya, Y, yc, gi, ci, rfl, rfl, rfl, HTL, HTI, hi1⟩
    · skip
      go_simp
      have hbn : Below Wd.heap.size Wd (Wd.alloc (.cells #[.slice none 0 0, .slice none 0 0] 28)) := (Below.refl _ _).alloc (Nat.le_refl _) _
      have HBN1 : Hid ((Wd.alloc (.cells #[.slice none 0 0, .slice none 0 0] 28)).heap[Wd.heap.size]? = some (.cells #[.slice none 0 0, .slice none 0 0] 28) ∧ W0.heap.size ≤ Wd.heap.size) := ⟨heap_top Wd _, HB00.out.size⟩
      have HBW1 : Hid (Below W0.heap.size W0 (Wd.alloc (.cells #[.slice none 0 0, .slice none 0 0] 28))) := HB00.out.trans (hbn.mono HB00.out.size)
      refine hK.out _ _ (HSS.out _ HBW1.out) (fun _ => ?_)
      clear hK K
      try simp only [Act.put, List.getElem_toArray, List.getElem_cons_zero, List.getElem_cons_succ, List.setIfInBounds_toArray, List.set_cons_zero, List.set_cons_succ]
      generalize Wd.heap.size = bn at *
      generalize Wd.alloc (.cells #[.slice none 0 0, .slice none 0 0] 28) = w18 at *
      clear hbn
      refine wpAnyH_ready (rs := [1, 7]) (by kernel_rfl) (by simp) ?_
      refine AllReadyH.cons rfl (fun K hK => ?_) (AllReadyH.cons rfl (fun K hK => ?_) (AllReadyH.nil))
      · skip
        rw [if_pos (by rfl)]
        go_simp
        refine (HLG.out w18 HBW1.out).mono ?_
        rintro e w21 ⟨g, c, rfl, hc1, hc2, hown, hbn⟩
        have HST2 := Lib.hid (still_own hown)
        have HBW2 : Hid (Below W0.heap.size W0 w21) := HBW1.out.trans (hbn.mono HBW1.out.size)
        have HBN2 : Hid (w21.heap[bn]? = some (.cells #[.slice none 0 0, .slice none 0 0] 28) ∧ W0.heap.size ≤ bn) := ⟨(hbn.block _ (lt_of_block HBN1.out.1)).trans HBN1.out.1, HBN1.out.2⟩
        refine hK.out _ _ (HSS.out _ HBW2.out) (fun _ => ?_)
        clear hK K
        try simp only [Act.put, List.getElem_toArray, List.getElem_cons_zero, List.getElem_cons_succ, List.setIfInBounds_toArray, List.set_cons_zero, List.set_cons_succ]
        clear hbn
        refine wpAnyH_ready (rs := [3, 7]) (by kernel_rfl) (by simp) ?_
        refine AllReadyH.cons rfl (fun K hK => ?_) (AllReadyH.cons rfl (fun K hK => ?_) (AllReadyH.nil))
        · skip
          rw [if_pos (by rfl)]
          go_simp
          refine (HCN.out w21 HBW2.out).mono ?_
          rintro e w33 ⟨xa, xc, ya, Y, yc, rfl, hcpo, hbn⟩
          have HCP3 : Hid (∃ B, CpO w33 B xa bs xc ya Y C yc) := ⟨_, hcpo⟩
          clear hcpo
          have HBW3 : Hid (Below W0.heap.size W0 w33) := HBW2.out.trans (hbn.mono HBW2.out.size)
          have HBN3 : Hid (w33.heap[bn]? = some (.cells #[.slice none 0 0, .slice none 0 0] 28) ∧ W0.heap.size ≤ bn) := ⟨(hbn.block _ (lt_of_block HBN2.out.1)).trans HBN2.out.1, HBN2.out.2⟩
          have HST3 := Lib.hid (HST2.out.on hbn)
          refine hK.out _ _ (HSS.out _ HBW3.out) (fun _ => ?_)
          clear hK K
          try simp only [Act.put, List.getElem_toArray, List.getElem_cons_zero, List.getElem_cons_succ, List.setIfInBounds_toArray, List.set_cons_zero, List.set_cons_succ]
          clear hbn
          refine wpAnyH_ready (rs := [6, 7]) (by kernel_rfl) (by simp) ?_
          refine AllReadyH.cons rfl (fun K hK => ?_) (AllReadyH.cons rfl (fun K hK => ?_) (AllReadyH.nil))
          · skip
            rw [if_pos (by rfl)]
            go_simp
            refine (HLI.out w33 HBW3.out).mono ?_
            rintro e w46 ⟨gi, ci, rfl, hi1, hi2, howni, hbn⟩
            have HSI4 : Hid (∃ B, w46.ownsRow B 3 1 (.slice (some ⟨gi, 0, none⟩) (ids.length + 1) ci) (ids.length + 1) (cellsI (ids ++ [-77]))) := ⟨_, howni⟩
            clear howni
            have HBW4 : Hid (Below W0.heap.size W0 w46) := HBW3.out.trans (hbn.mono HBW3.out.size)
            have HBN4 : Hid (w46.heap[bn]? = some (.cells #[.slice none 0 0, .slice none 0 0] 28) ∧ W0.heap.size ≤ bn) := ⟨(hbn.block _ (lt_of_block HBN3.out.1)).trans HBN3.out.1, HBN3.out.2⟩
            have HST4 := Lib.hid (HST3.out.on hbn)
            have HCP4 : Hid (∃ B, CpO w46 B xa bs xc ya Y C yc) := HCP3.out.imp (fun _ h => h.on hbn)
            refine hK.out _ _ (HSS.out _ HBW4.out) (fun _ => ?_)
            clear hK K
            try simp only [Act.put, List.getElem_toArray, List.getElem_cons_zero, List.getElem_cons_succ, List.setIfInBounds_toArray, List.set_cons_zero, List.set_cons_succ]
            clear hbn
            refine wpAnyH_ready (rs := [7]) (by kernel_rfl) (by simp) ?_
            refine AllReadyH.cons rfl (fun K hK => ?_) (AllReadyH.nil)
            · skip
              go_simp
              have hbn : Below w46.heap.size w46 (w46.alloc (.cells #[.int .i64 0, .slice none 0 0] 24)) := (Below.refl _ _).alloc (Nat.le_refl _) _
              have HBG5 : Hid ((w46.alloc (.cells #[.int .i64 0, .slice none 0 0] 24)).heap[w46.heap.size]? = some (.cells #[.int .i64 0, .slice none 0 0] 24) ∧ W0.heap.size ≤ w46.heap.size) := ⟨heap_top w46 _, HBW4.out.size⟩
              have HBW5 : Hid (Below W0.heap.size W0 (w46.alloc (.cells #[.int .i64 0, .slice none 0 0] 24))) := HBW4.out.trans (hbn.mono HBW4.out.size)
              have HBN5 : Hid ((w46.alloc (.cells #[.int .i64 0, .slice none 0 0] 24)).heap[bn]? = some (.cells #[.slice none 0 0, .slice none 0 0] 28) ∧ W0.heap.size ≤ bn) := ⟨(hbn.block _ (lt_of_block HBN4.out.1)).trans HBN4.out.1, HBN4.out.2⟩
              have HST5 := Lib.hid (HST4.out.on hbn)
              have HCP5 : Hid (∃ B, CpO (w46.alloc (.cells #[.int .i64 0, .slice none 0 0] 24)) B xa bs xc ya Y C yc) := HCP4.out.imp (fun _ h => h.on hbn)
              have HSI5 : Hid (∃ B, (w46.alloc (.cells #[.int .i64 0, .slice none 0 0] 24)).ownsRow B 3 1 (.slice (some ⟨gi, 0, none⟩) (ids.length + 1) ci) (ids.length + 1) (cellsI (ids ++ [-77]))) := HSI4.out.imp (fun _ h => own_on h hbn)
              have hne : w46.heap.size ≠ bn := Nat.ne_of_gt (lt_of_block HBN4.out.1)
              refine hK.out _ _ (HSS.out _ HBW5.out) (fun _ => ?_)
              clear hK K
              try simp only [Act.put, List.getElem_toArray, List.getElem_cons_zero, List.getElem_cons_succ, List.setIfInBounds_toArray, List.set_cons_zero, List.set_cons_succ]
              generalize w46.heap.size = bg at *
              generalize w46.alloc (.cells #[.int .i64 0, .slice none 0 0] 24) = w57 at *
              clear hbn
              have HTL := Lib.hid (tls_of HBW5.out HBG5.out.1 HBG5.out.2 HBN5.out.1 HBN5.out.2 hne HST5.out hc1 hc2 HCP5.out (N := N) (c := c) (xc := xc) (yc := yc) HCB.out)
              have HTI := Lib.hid (sti_of HBG5.out.1 HBN5.out.1 hne HSI5.out (.int .i64 N) (.slice (some ⟨g, 0, none⟩) l.length c) (.slice xa bs.length xc) (.slice ya C.length yc))
              obtain ⟨⟨z0, z1⟩, zf0, zf1⟩ := two_cells HBG5.out.1
              have HZN : Hid (((w57.setCell ⟨bg, 0, none⟩ (.int .i64 N)).setCell ⟨bg, 1, none⟩ (.slice (some ⟨g, 0, none⟩) l.length c)).heap[bn]? = some (.cells #[.slice none 0 0, .slice none 0 0] 28)) := (Below.heap_setCell _ ⟨bg, 1, none⟩ _ bn (fun h => hne h.symm)).trans ((Below.heap_setCell _ ⟨bg, 0, none⟩ _ bn (fun h => hne h.symm)).trans HBN5.out.1)
              obtain ⟨⟨y0, y1⟩, yf0, yf1⟩ := two_cells HZN.out
              have HB61 : Hid (Below W0.heap.size W0 ((w57.setCell ⟨bg, 0, none⟩ (.int .i64 N)).setCell ⟨bg, 1, none⟩ (.slice (some ⟨g, 0, none⟩) l.length c))) := (HBW5.out.setCell (p := ⟨bg, 0, none⟩) HBG5.out.2 _).setCell (p := ⟨bg, 1, none⟩) HBG5.out.2 _
              refine wpAnyH_ready (rs := [9]) (by kernel_rfl) (by simp) ?_
              refine AllReadyH.cons rfl (fun K hK => ?_) AllReadyH.nil
              go_simp
              refine hK.out _ _ (HSS.out _ HB61.out) (fun _ => ?_)
              clear hK K
              try simp only [Act.put, List.getElem_toArray, List.getElem_cons_zero, List.getElem_cons_succ, List.setIfInBounds_toArray, List.set_cons_zero, List.set_cons_succ]
              refine wpAnyH_ready (rs := [10]) (by kernel_rfl) (by simp) ?_
              refine AllReadyH.cons rfl (fun K hK => ?_) AllReadyH.nil
              go_simp
              refine hK.out _ _ (HSS.out _ HTL.out.be) (fun _ => ?_)
              clear hK K
              try simp only [Act.put, List.getElem_toArray, List.getElem_cons_zero, List.getElem_cons_succ, List.setIfInBounds_toArray, List.set_cons_zero, List.set_cons_succ]
              refine wpAnyH_ready (rs := [11]) (by kernel_rfl) (by simp) ?_
              refine AllReadyH.cons rfl (fun K hK => ?_) AllReadyH.nil
              go_simp
              refine hK.out _ _ (HSS.out _ HTL.out.be) (fun _ => ?_)
              clear hK K
              try simp only [Act.put, List.getElem_toArray, List.getElem_cons_zero, List.getElem_cons_succ, List.setIfInBounds_toArray, List.set_cons_zero, List.set_cons_succ]
              refine wpAnyH_done (by kernel_rfl) ?_ _
              go_wp2_with fail
              go_meet
              case rel => exact ⟨bg, bn, g, c, xa, xc, ya, Y, yc, gi, ci, rfl, rfl, rfl, HTL, HTI, hi1⟩
          · skip
            go_simp
            have hbn : Below w33.heap.size w33 (w33.alloc (.cells #[.int .i64 0, .slice none 0 0] 24)) := (Below.refl _ _).alloc (Nat.le_refl _) _
            have HBG4 : Hid ((w33.alloc (.cells #[.int .i64 0, .slice none 0 0] 24)).heap[w33.heap.size]? = some (.cells #[.int .i64 0, .slice none 0 0] 24) ∧ W0.heap.size ≤ w33.heap.size) := ⟨heap_top w33 _, HBW3.out.size⟩
            have HBW4 : Hid (Below W0.heap.size W0 (w33.alloc (.cells #[.int .i64 0, .slice none 0 0] 24))) := HBW3.out.trans (hbn.mono HBW3.out.size)
            have HBN4 : Hid ((w33.alloc (.cells #[.int .i64 0, .slice none 0 0] 24)).heap[bn]? = some (.cells #[.slice none 0 0, .slice none 0 0] 28) ∧ W0.heap.size ≤ bn) := ⟨(hbn.block _ (lt_of_block HBN3.out.1)).trans HBN3.out.1, HBN3.out.2⟩
            have HST4 := Lib.hid (HST3.out.on hbn)
            have HCP4 : Hid (∃ B, CpO (w33.alloc (.cells #[.int .i64 0, .slice none 0 0] 24)) B xa bs xc ya Y C yc) := HCP3.out.imp (fun _ h => h.on hbn)
            have hne : w33.heap.size ≠ bn := Nat.ne_of_gt (lt_of_block HBN3.out.1)
            refine hK.out _ _ (HSS.out _ HBW4.out) (fun _ => ?_)
            clear hK K
            try simp only [Act.put, List.getElem_toArray, List.getElem_cons_zero, List.getElem_cons_succ, List.setIfInBounds_toArray, List.set_cons_zero, List.set_cons_succ]
            generalize w33.heap.size = bg at *
            generalize w33.alloc (.cells #[.int .i64 0, .slice none 0 0] 24) = w47 at *
            clear hbn
            refine wpAnyH_ready (rs := [6]) (by kernel_rfl) (by simp) ?_
            refine AllReadyH.cons rfl (fun K hK => ?_) (AllReadyH.nil)
            · skip
              rw [if_pos (by rfl)]
              go_simp
              refine (HLI.out w47 HBW4.out).mono ?_
              rintro e w56 ⟨gi, ci, rfl, hi1, hi2, howni, hbn⟩
              have HSI5 : Hid (∃ B, w56.ownsRow B 3 1 (.slice (some ⟨gi, 0, none⟩) (ids.length + 1) ci) (ids.length + 1) (cellsI (ids ++ [-77]))) := ⟨_, howni⟩
              clear howni
              have HBW5 : Hid (Below W0.heap.size W0 w56) := HBW4.out.trans (hbn.mono HBW4.out.size)
              have HBN5 : Hid (w56.heap[bn]? = some (.cells #[.slice none 0 0, .slice none 0 0] 28) ∧ W0.heap.size ≤ bn) := ⟨(hbn.block _ (lt_of_block HBN4.out.1)).trans HBN4.out.1, HBN4.out.2⟩
              have HST5 := Lib.hid (HST4.out.on hbn)
              have HCP5 : Hid (∃ B, CpO w56 B xa bs xc ya Y C yc) := HCP4.out.imp (fun _ h => h.on hbn)
              have HBG5 : Hid (w56.heap[bg]? = some (.cells #[.int .i64 0, .slice none 0 0] 24) ∧ W0.heap.size ≤ bg) := ⟨(hbn.block _ (lt_of_block HBG4.out.1)).trans HBG4.out.1, HBG4.out.2⟩
              refine hK.out _ _ (HSS.out _ HBW5.out) (fun _ => ?_)
              clear hK K
              try simp only [Act.put, List.getElem_toArray, List.getElem_cons_zero, List.getElem_cons_succ, List.setIfInBounds_toArray, List.set_cons_zero, List.set_cons_succ]
              clear hbn
              have HTL := Lib.hid (tls_of HBW5.out HBG5.out.1 HBG5.out.2 HBN5.out.1 HBN5.out.2 hne HST5.out hc1 hc2 HCP5.out (N := N) (c := c) (xc := xc) (yc := yc) HCB.out)
              have HTI := Lib.hid (sti_of HBG5.out.1 HBN5.out.1 hne HSI5.out (.int .i64 N) (.slice (some ⟨g, 0, none⟩) l.length c) (.slice xa bs.length xc) (.slice ya C.length yc))
              obtain ⟨⟨z0, z1⟩, zf0, zf1⟩ := two_cells HBG5.out.1
              have HZN : Hid (((w56.setCell ⟨bg, 0, none⟩ (.int .i64 N)).setCell ⟨bg, 1, none⟩ (.slice (some ⟨g, 0, none⟩) l.length c)).heap[bn]? = some (.cells #[.slice none 0 0, .slice none 0 0] 28)) := (Below.heap_setCell _ ⟨bg, 1, none⟩ _ bn (fun h => hne h.symm)).trans ((Below.heap_setCell _ ⟨bg, 0, none⟩ _ bn (fun h => hne h.symm)).trans HBN5.out.1)
              obtain ⟨⟨y0, y1⟩, yf0, yf1⟩ := two_cells HZN.out
              have HB61 : Hid (Below W0.heap.size W0 ((w56.setCell ⟨bg, 0, none⟩ (.int .i64 N)).setCell ⟨bg, 1, none⟩ (.slice (some ⟨g, 0, none⟩) l.length c))) := (HBW5.out.setCell (p := ⟨bg, 0, none⟩) HBG5.out.2 _).setCell (p := ⟨bg, 1, none⟩) HBG5.out.2 _
              refine wpAnyH_ready (rs := [9]) (by kernel_rfl) (by simp) ?_
              refine AllReadyH.cons rfl (fun K hK => ?_) AllReadyH.nil
              go_simp
              refine hK.out _ _ (HSS.out _ HB61.out) (fun _ => ?_)
              clear hK K
              try simp only [Act.put, List.getElem_toArray, List.getElem_cons_zero, List.getElem_cons_succ, List.setIfInBounds_toArray, List.set_cons_zero, List.set_cons_succ]
              refine wpAnyH_ready (rs := [10]) (by kernel_rfl) (by simp) ?_
              refine AllReadyH.cons rfl (fun K hK => ?_) AllReadyH.nil
              go_simp
              refine hK.out _ _ (HSS.out _ HTL.out.be) (fun _ => ?_)
              clear hK K
              try simp only [Act.put, List.getElem_toArray, List.getElem_cons_zero, List.getElem_cons_succ, List.setIfInBounds_toArray, List.set_cons_zero, List.set_cons_succ]
              refine wpAnyH_ready (rs := [11]) (by kernel_rfl) (by simp) ?_
              refine AllReadyH.cons rfl (fun K hK => ?_) AllReadyH.nil
              go_simp
              refine hK.out _ _ (HSS.out _ HTL.out.be) (fun _ => ?_)
              clear hK K
              try simp only [Act.put, List.getElem_toArray, List.getElem_cons_zero, List.getElem_cons_succ, List.setIfInBounds_toArray, List.set_cons_zero, List.set_cons_succ]
              refine wpAnyH_done (by kernel_rfl) ?_ _
              go_wp2_with fail
              go_meet
              case rel => exact ⟨bg, bn, g, c, xa, xc, ya, Y, yc, gi, ci, rfl, rfl, rfl, HTL, HTI, hi1⟩
        · skip
          go_simp
          have hbn : Below w21.heap.size w21 (w21.alloc (.cells #[.int .i64 0, .slice none 0 0] 24)) := (Below.refl _ _).alloc (Nat.le_refl _) _
          have HBG3 : Hid ((w21.alloc (.cells #[.int .i64 0, .slice none 0 0] 24)).heap[w21.heap.size]? = some (.cells #[.int .i64 0, .slice none 0 0] 24) ∧ W0.heap.size ≤ w21.heap.size) := ⟨heap_top w21 _, HBW2.out.size⟩
          have HBW3 : Hid (Below W0.heap.size W0 (w21.alloc (.cells #[.int .i64 0, .slice none 0 0] 24))) := HBW2.out.trans (hbn.mono HBW2.out.size)
          have HBN3 : Hid ((w21.alloc (.cells #[.int .i64 0, .slice none 0 0] 24)).heap[bn]? = some (.cells #[.slice none 0 0, .slice none 0 0] 28) ∧ W0.heap.size ≤ bn) := ⟨(hbn.block _ (lt_of_block HBN2.out.1)).trans HBN2.out.1, HBN2.out.2⟩
          have HST3 := Lib.hid (HST2.out.on hbn)
          have hne : w21.heap.size ≠ bn := Nat.ne_of_gt (lt_of_block HBN2.out.1)
          refine hK.out _ _ (HSS.out _ HBW3.out) (fun _ => ?_)
          clear hK K
          try simp only [Act.put, List.getElem_toArray, List.getElem_cons_zero, List.getElem_cons_succ, List.setIfInBounds_toArray, List.set_cons_zero, List.set_cons_succ]
          generalize w21.heap.size = bg at *
          generalize w21.alloc (.cells #[.int .i64 0, .slice none 0 0] 24) = w37 at *
          clear hbn
          refine wpAnyH_ready (rs := [3]) (by kernel_rfl) (by simp) ?_
          refine AllReadyH.cons rfl (fun K hK => ?_) (AllReadyH.nil)
          · skip
            rw [if_pos (by rfl)]
            go_simp
            refine (HCN.out w37 HBW3.out).mono ?_
            rintro e w43 ⟨xa, xc, ya, Y, yc, rfl, hcpo, hbn⟩
            have HCP4 : Hid (∃ B, CpO w43 B xa bs xc ya Y C yc) := ⟨_, hcpo⟩
            clear hcpo
            have HBW4 : Hid (Below W0.heap.size W0 w43) := HBW3.out.trans (hbn.mono HBW3.out.size)
            have HBN4 : Hid (w43.heap[bn]? = some (.cells #[.slice none 0 0, .slice none 0 0] 28) ∧ W0.heap.size ≤ bn) := ⟨(hbn.block _ (lt_of_block HBN3.out.1)).trans HBN3.out.1, HBN3.out.2⟩
            have HST4 := Lib.hid (HST3.out.on hbn)
            have HBG4 : Hid (w43.heap[bg]? = some (.cells #[.int .i64 0, .slice none 0 0] 24) ∧ W0.heap.size ≤ bg) := ⟨(hbn.block _ (lt_of_block HBG3.out.1)).trans HBG3.out.1, HBG3.out.2⟩
            refine hK.out _ _ (HSS.out _ HBW4.out) (fun _ => ?_)
            clear hK K
            try simp only [Act.put, List.getElem_toArray, List.getElem_cons_zero, List.getElem_cons_succ, List.setIfInBounds_toArray, List.set_cons_zero, List.set_cons_succ]
            clear hbn
            refine wpAnyH_ready (rs := [6]) (by kernel_rfl) (by simp) ?_
            refine AllReadyH.cons rfl (fun K hK => ?_) (AllReadyH.nil)
            · skip
              rw [if_pos (by rfl)]
              go_simp
              refine (HLI.out w43 HBW4.out).mono ?_
              rintro e w56 ⟨gi, ci, rfl, hi1, hi2, howni, hbn⟩
              have HSI5 : Hid (∃ B, w56.ownsRow B 3 1 (.slice (some ⟨gi, 0, none⟩) (ids.length + 1) ci) (ids.length + 1) (cellsI (ids ++ [-77]))) := ⟨_, howni⟩
              clear howni
              have HBW5 : Hid (Below W0.heap.size W0 w56) := HBW4.out.trans (hbn.mono HBW4.out.size)
              have HBN5 : Hid (w56.heap[bn]? = some (.cells #[.slice none 0 0, .slice none 0 0] 28) ∧ W0.heap.size ≤ bn) := ⟨(hbn.block _ (lt_of_block HBN4.out.1)).trans HBN4.out.1, HBN4.out.2⟩
              have HST5 := Lib.hid (HST4.out.on hbn)
              have HBG5 : Hid (w56.heap[bg]? = some (.cells #[.int .i64 0, .slice none 0 0] 24) ∧ W0.heap.size ≤ bg) := ⟨(hbn.block _ (lt_of_block HBG4.out.1)).trans HBG4.out.1, HBG4.out.2⟩
              have HCP5 : Hid (∃ B, CpO w56 B xa bs xc ya Y C yc) := HCP4.out.imp (fun _ h => h.on hbn)
              refine hK.out _ _ (HSS.out _ HBW5.out) (fun _ => ?_)
              clear hK K
              try simp only [Act.put, List.getElem_toArray, List.getElem_cons_zero, List.getElem_cons_succ, List.setIfInBounds_toArray, List.set_cons_zero, List.set_cons_succ]
              clear hbn
              have HTL := Lib.hid (tls_of HBW5.out HBG5.out.1 HBG5.out.2 HBN5.out.1 HBN5.out.2 hne HST5.out hc1 hc2 HCP5.out (N := N) (c := c) (xc := xc) (yc := yc) HCB.out)
              have HTI := Lib.hid (sti_of HBG5.out.1 HBN5.out.1 hne HSI5.out (.int .i64 N) (.slice (some ⟨g, 0, none⟩) l.length c) (.slice xa bs.length xc) (.slice ya C.length yc))
              obtain ⟨⟨z0, z1⟩, zf0, zf1⟩ := two_cells HBG5.out.1
              have HZN : Hid (((w56.setCell ⟨bg, 0, none⟩ (.int .i64 N)).setCell ⟨bg, 1, none⟩ (.slice (some ⟨g, 0, none⟩) l.length c)).heap[bn]? = some (.cells #[.slice none 0 0, .slice none 0 0] 28)) := (Below.heap_setCell _ ⟨bg, 1, none⟩ _ bn (fun h => hne h.symm)).trans ((Below.heap_setCell _ ⟨bg, 0, none⟩ _ bn (fun h => hne h.symm)).trans HBN5.out.1)
              obtain ⟨⟨y0, y1⟩, yf0, yf1⟩ := two_cells HZN.out
              have HB61 : Hid (Below W0.heap.size W0 ((w56.setCell ⟨bg, 0, none⟩ (.int .i64 N)).setCell ⟨bg, 1, none⟩ (.slice (some ⟨g, 0, none⟩) l.length c))) := (HBW5.out.setCell (p := ⟨bg, 0, none⟩) HBG5.out.2 _).setCell (p := ⟨bg, 1, none⟩) HBG5.out.2 _
              refine wpAnyH_ready (rs := [9]) (by kernel_rfl) (by simp) ?_
              refine AllReadyH.cons rfl (fun K hK => ?_) AllReadyH.nil
              go_simp
              refine hK.out _ _ (HSS.out _ HB61.out) (fun _ => ?_)
              clear hK K
              try simp only [Act.put, List.getElem_toArray, List.getElem_cons_zero, List.getElem_cons_succ, List.setIfInBounds_toArray, List.set_cons_zero, List.set_cons_succ]
              refine wpAnyH_ready (rs := [10]) (by kernel_rfl) (by simp) ?_
              refine AllReadyH.cons rfl (fun K hK => ?_) AllReadyH.nil
              go_simp
              refine hK.out _ _ (HSS.out _ HTL.out.be) (fun _ => ?_)
              clear hK K
              try simp only [Act.put, List.getElem_toArray, List.getElem_cons_zero, List.getElem_cons_succ, List.setIfInBounds_toArray, List.set_cons_zero, List.set_cons_succ]
              refine wpAnyH_ready (rs := [11]) (by kernel_rfl) (by simp) ?_
              refine AllReadyH.cons rfl (fun K hK => ?_) AllReadyH.nil
              go_simp
              refine hK.out _ _ (HSS.out _ HTL.out.be) (fun _ => ?_)
              clear hK K
              try simp only [Act.put, List.getElem_toArray, List.getElem_cons_zero, List.getElem_cons_succ, List.setIfInBounds_toArray, List.set_cons_zero, List.set_cons_succ]
              refine wpAnyH_done (by kernel_rfl) ?_ _
              go_wp2_with fail
              go_meet
              case rel => exact ⟨bg, bn, g, c, xa, xc, ya, Y, yc, gi, ci, rfl, rfl, rfl, HTL, HTI, hi1⟩
      · skip
        go_simp
        have hbn : Below w18.heap.size w18 (w18.alloc (.cells #[.int .i64 0, .slice none 0 0] 24)) := (Below.refl _ _).alloc (Nat.le_refl _) _
        have HBG2 : Hid ((w18.alloc (.cells #[.int .i64 0, .slice none 0 0] 24)).heap[w18.heap.size]? = some (.cells #[.int .i64 0, .slice none 0 0] 24) ∧ W0.heap.size ≤ w18.heap.size) := ⟨heap_top w18 _, HBW1.out.size⟩
        have HBW2 : Hid (Below W0.heap.size W0 (w18.alloc (.cells #[.int .i64 0, .slice none 0 0] 24))) := HBW1.out.trans (hbn.mono HBW1.out.size)
        have HBN2 : Hid ((w18.alloc (.cells #[.int .i64 0, .slice none 0 0] 24)).heap[bn]? = some (.cells #[.slice none 0 0, .slice none 0 0] 28) ∧ W0.heap.size ≤ bn) := ⟨(hbn.block _ (lt_of_block HBN1.out.1)).trans HBN1.out.1, HBN1.out.2⟩
        have hne : w18.heap.size ≠ bn := Nat.ne_of_gt (lt_of_block HBN1.out.1)
        refine hK.out _ _ (HSS.out _ HBW2.out) (fun _ => ?_)
        clear hK K
        try simp only [Act.put, List.getElem_toArray, List.getElem_cons_zero, List.getElem_cons_succ, List.setIfInBounds_toArray, List.set_cons_zero, List.set_cons_succ]
        generalize w18.heap.size = bg at *
        generalize w18.alloc (.cells #[.int .i64 0, .slice none 0 0] 24) = w27 at *
        clear hbn
        refine wpAnyH_ready (rs := [1]) (by kernel_rfl) (by simp) ?_
        refine AllReadyH.cons rfl (fun K hK => ?_) (AllReadyH.nil)
        · skip
          rw [if_pos (by rfl)]
          go_simp
          refine (HLG.out w27 HBW2.out).mono ?_
          rintro e w31 ⟨g, c, rfl, hc1, hc2, hown, hbn⟩
          have HST3 := Lib.hid (still_own hown)
          have HBW3 : Hid (Below W0.heap.size W0 w31) := HBW2.out.trans (hbn.mono HBW2.out.size)
          have HBN3 : Hid (w31.heap[bn]? = some (.cells #[.slice none 0 0, .slice none 0 0] 28) ∧ W0.heap.size ≤ bn) := ⟨(hbn.block _ (lt_of_block HBN2.out.1)).trans HBN2.out.1, HBN2.out.2⟩
          have HBG3 : Hid (w31.heap[bg]? = some (.cells #[.int .i64 0, .slice none 0 0] 24) ∧ W0.heap.size ≤ bg) := ⟨(hbn.block _ (lt_of_block HBG2.out.1)).trans HBG2.out.1, HBG2.out.2⟩
          refine hK.out _ _ (HSS.out _ HBW3.out) (fun _ => ?_)
          clear hK K
          try simp only [Act.put, List.getElem_toArray, List.getElem_cons_zero, List.getElem_cons_succ, List.setIfInBounds_toArray, List.set_cons_zero, List.set_cons_succ]
          clear hbn
          refine wpAnyH_ready (rs := [3]) (by kernel_rfl) (by simp) ?_
          refine AllReadyH.cons rfl (fun K hK => ?_) (AllReadyH.nil)
          · skip
            rw [if_pos (by rfl)]
            go_simp
            refine (HCN.out w31 HBW3.out).mono ?_
            rintro e w43 ⟨xa, xc, ya, Y, yc, rfl, hcpo, hbn⟩
            have HCP4 : Hid (∃ B, CpO w43 B xa bs xc ya Y C yc) := ⟨_, hcpo⟩
            clear hcpo
            have HBW4 : Hid (Below W0.heap.size W0 w43) := HBW3.out.trans (hbn.mono HBW3.out.size)
            have HBN4 : Hid (w43.heap[bn]? = some (.cells #[.slice none 0 0, .slice none 0 0] 28) ∧ W0.heap.size ≤ bn) := ⟨(hbn.block _ (lt_of_block HBN3.out.1)).trans HBN3.out.1, HBN3.out.2⟩
            have HBG4 : Hid (w43.heap[bg]? = some (.cells #[.int .i64 0, .slice none 0 0] 24) ∧ W0.heap.size ≤ bg) := ⟨(hbn.block _ (lt_of_block HBG3.out.1)).trans HBG3.out.1, HBG3.out.2⟩
            have HST4 := Lib.hid (HST3.out.on hbn)
            refine hK.out _ _ (HSS.out _ HBW4.out) (fun _ => ?_)
            clear hK K
            try simp only [Act.put, List.getElem_toArray, List.getElem_cons_zero, List.getElem_cons_succ, List.setIfInBounds_toArray, List.set_cons_zero, List.set_cons_succ]
            clear hbn
            refine wpAnyH_ready (rs := [6]) (by kernel_rfl) (by simp) ?_
            refine AllReadyH.cons rfl (fun K hK => ?_) (AllReadyH.nil)
            · skip
              rw [if_pos (by rfl)]
              go_simp
              refine (HLI.out w43 HBW4.out).mono ?_
              rintro e w56 ⟨gi, ci, rfl, hi1, hi2, howni, hbn⟩
              have HSI5 : Hid (∃ B, w56.ownsRow B 3 1 (.slice (some ⟨gi, 0, none⟩) (ids.length + 1) ci) (ids.length + 1) (cellsI (ids ++ [-77]))) := ⟨_, howni⟩
              clear howni
              have HBW5 : Hid (Below W0.heap.size W0 w56) := HBW4.out.trans (hbn.mono HBW4.out.size)
              have HBN5 : Hid (w56.heap[bn]? = some (.cells #[.slice none 0 0, .slice none 0 0] 28) ∧ W0.heap.size ≤ bn) := ⟨(hbn.block _ (lt_of_block HBN4.out.1)).trans HBN4.out.1, HBN4.out.2⟩
              have HBG5 : Hid (w56.heap[bg]? = some (.cells #[.int .i64 0, .slice none 0 0] 24) ∧ W0.heap.size ≤ bg) := ⟨(hbn.block _ (lt_of_block HBG4.out.1)).trans HBG4.out.1, HBG4.out.2⟩
              have HST5 := Lib.hid (HST4.out.on hbn)
              have HCP5 : Hid (∃ B, CpO w56 B xa bs xc ya Y C yc) := HCP4.out.imp (fun _ h => h.on hbn)
              refine hK.out _ _ (HSS.out _ HBW5.out) (fun _ => ?_)
              clear hK K
              try simp only [Act.put, List.getElem_toArray, List.getElem_cons_zero, List.getElem_cons_succ, List.setIfInBounds_toArray, List.set_cons_zero, List.set_cons_succ]
              clear hbn
              have HTL := Lib.hid (tls_of HBW5.out HBG5.out.1 HBG5.out.2 HBN5.out.1 HBN5.out.2 hne HST5.out hc1 hc2 HCP5.out (N := N) (c := c) (xc := xc) (yc := yc) HCB.out)
              have HTI := Lib.hid (sti_of HBG5.out.1 HBN5.out.1 hne HSI5.out (.int .i64 N) (.slice (some ⟨g, 0, none⟩) l.length c) (.slice xa bs.length xc) (.slice ya C.length yc))
              obtain ⟨⟨z0, z1⟩, zf0, zf1⟩ := two_cells HBG5.out.1
              have HZN : Hid (((w56.setCell ⟨bg, 0, none⟩ (.int .i64 N)).setCell ⟨bg, 1, none⟩ (.slice (some ⟨g, 0, none⟩) l.length c)).heap[bn]? = some (.cells #[.slice none 0 0, .slice none 0 0] 28)) := (Below.heap_setCell _ ⟨bg, 1, none⟩ _ bn (fun h => hne h.symm)).trans ((Below.heap_setCell _ ⟨bg, 0, none⟩ _ bn (fun h => hne h.symm)).trans HBN5.out.1)
              obtain ⟨⟨y0, y1⟩, yf0, yf1⟩ := two_cells HZN.out
              have HB61 : Hid (Below W0.heap.size W0 ((w56.setCell ⟨bg, 0, none⟩ (.int .i64 N)).setCell ⟨bg, 1, none⟩ (.slice (some ⟨g, 0, none⟩) l.length c))) := (HBW5.out.setCell (p := ⟨bg, 0, none⟩) HBG5.out.2 _).setCell (p := ⟨bg, 1, none⟩) HBG5.out.2 _
              refine wpAnyH_ready (rs := [9]) (by kernel_rfl) (by simp) ?_
              refine AllReadyH.cons rfl (fun K hK => ?_) AllReadyH.nil
              go_simp
              refine hK.out _ _ (HSS.out _ HB61.out) (fun _ => ?_)
              clear hK K
              try simp only [Act.put, List.getElem_toArray, List.getElem_cons_zero, List.getElem_cons_succ, List.setIfInBounds_toArray, List.set_cons_zero, List.set_cons_succ]
              refine wpAnyH_ready (rs := [10]) (by kernel_rfl) (by simp) ?_
              refine AllReadyH.cons rfl (fun K hK => ?_) AllReadyH.nil
              go_simp
              refine hK.out _ _ (HSS.out _ HTL.out.be) (fun _ => ?_)
              clear hK K
              try simp only [Act.put, List.getElem_toArray, List.getElem_cons_zero, List.getElem_cons_succ, List.setIfInBounds_toArray, List.set_cons_zero, List.set_cons_succ]
              refine wpAnyH_ready (rs := [11]) (by kernel_rfl) (by simp) ?_
              refine AllReadyH.cons rfl (fun K hK => ?_) AllReadyH.nil
              go_simp
              refine hK.out _ _ (HSS.out _ HTL.out.be) (fun _ => ?_)
              clear hK K
              try simp only [Act.put, List.getElem_toArray, List.getElem_cons_zero, List.getElem_cons_succ, List.setIfInBounds_toArray, List.set_cons_zero, List.set_cons_succ]
              refine wpAnyH_done (by kernel_rfl) ?_ _
              go_wp2_with fail
              go_meet
              case rel => exact ⟨bg, bn, g, c, xa, xc, ya, Y, yc, gi, ci, rfl, rfl, rfl, HTL, HTI, hi1⟩
  case rest =>
    obtain ⟨bg, bn, g, c, xa, xc, ya, Y, yc, gi, ci, rfl, rfl, rfl, HTL, HTI, hci⟩ := hcut
    have HB2 : Hid (Below W.heap.size W wc) := HB1.out.trans (HTL.out.be.mono HB1.out.size)
    have HXC : Hid (∀ wr, Below wc.heap.size wc wr → (wr.cell? ⟨bg, 0, none⟩ = some (.int .i64 N) ∧ wr.cell? ⟨bg, 1, none⟩ = some (.slice (some ⟨g, 0, none⟩) l.length c)) ∧ (wr.cell? ⟨bn, 0, none⟩ = some (.slice xa bs.length xc) ∧ wr.cell? ⟨bn, 1, none⟩ = some (.slice ya C.length yc)) ∧ (wr.cell? ⟨p, 0, none⟩ = some (.int .i64 N) ∧ wr.cell? ⟨p, 1, none⟩ = some (.slice a l.length cap) ∧ wr.cell? ⟨p + 1, 0, none⟩ = some (.slice ba bs.length bc) ∧ wr.cell? ⟨p + 1, 1, none⟩ = some (.slice ca C.length cc)) ∧ wr.cell? ⟨p + 1 + 1, 0, none⟩ = some (.int .i64 lv) ∧ wr.cell? ⟨p + 1 + 1, 1, none⟩ = some (.slice da ids.length dc)) := fun wr hb => by
      have hbw : Below W.heap.size W wr := HB2.out.trans (hb.mono HB2.out.size)
      exact ⟨(two_cells ((hb.block _ (lt_of_block HTL.out.bg)).trans HTL.out.bg)).1, (two_cells ((hb.block _ (lt_of_block HTL.out.bn)).trans HTL.out.bn)).1, (HGN0.out.on hbw).cells, (two_cells ((hbw.block _ (lt_of_block HG2.out)).trans HG2.out)).1⟩
    have HTS : Hid (∀ wr, Below wc.heap.size wc wr → Still wr g l ∧ Ints wr xa bs ∧ Rws wr ya Y ∧ StillI wr gi ids) := fun wr hb => ⟨HTL.out.still.on hb, HTL.out.ints.on hb, HTL.out.rws.on hb, HTI.out.on hb⟩
    have HGS : Hid (∀ wr, Below wc.heap.size wc wr → GN wr p N a l cap ba bs bc ca C cc ∧ Ints wr da ids) := fun wr hb => ⟨HGN0.out.on (HB2.out.trans (hb.mono HB2.out.size)), HID0.out.on (HB2.out.trans (hb.mono HB2.out.size))⟩
    have HEQ := Lib.hid HTL.out.eq
    have HLE := Lib.hid HTL.out.len
    have hlc := HTL.out.c1
    have hcm := HTL.out.c2
    clear HSS HLG HCN HLI HGN1 HID1 HG21 HB00 HCB g0 g1 g2 g3 g4
    obtain ⟨e1, HE1⟩ := named (stE N l bs (csl C) ids)
    obtain ⟨e2, HE2⟩ := named (atE N l bs (csl C) lv)
    obtain ⟨D2, HD2⟩ := named (ouV N l bs (csl C) lv)
    have hD2 : D2.length ≤ 8192 := by rw [← HD2.out]; exact ou_len
    have HBc : Hid (Below wc.heap.size wc wc) := Below.refl _ _
    obtain ⟨s1, s2, s3, s4⟩ := HTS.out wc HBc.out
    have HK1 := Lib.hid (stale_any N (some ⟨g, 0, none⟩) l c xa bs xc ya Y yc (some ⟨gi, 0, none⟩) ids ci wc hl hbl s1.arcs s2 s3 hdl s4.ints)
    rw [HEQ.out, HLE.out] at HK1
    rw [HE1.out] at HK1
    clear s1 s2 s3 s4
    obtain ⟨⟨q0, q1⟩, ⟨q2, q3⟩, ⟨q4, q5, q6, q7⟩, q8, q9⟩ := HXC.out wc HBc.out
    go_wp2_with fail
    refine HK1.out.mono ?_
    rintro e x1 ⟨hok1, hno1, hb1⟩
    have HX1 : Hid (Below wc.heap.size wc x1) := HBc.out.trans (hb1.mono HBc.out.size)
    clear HK1 hb1 q0 q1 q2 q3 q4 q5 q6 q7 q8 q9
    obtain ⟨s1, s4⟩ := HGS.out x1 HX1.out
    have HK2 := Lib.hid (rstale_any N a l cap ba bs bc ca C cc da ids dc x1 hl hbl s1.arcs s1.ints s1.rws hdl s4)
    rw [HE1.out] at HK2
    clear s1 s4
    have b1 : (e1 != e1) = false := by simp
    have b2 : (e2 != e2) = false := by simp
    by_cases h1 : e1 = 0
    · subst h1
      obtain ⟨gs, vs, rfl, hrw1⟩ := hok1 rfl
      have hC5 : C.length ≤ 5 := by
        have h0 : nsE N l bs (csl C) = 0 := by
          have := HE1.out
          unfold stE at this
          split at this
          · rename_i h3; exact absurd this h3
          · rename_i h3; simpa using h3
        have hNR := nsE_zero.1 h0
        have := hNR.2.2.1
        have hcl : C.length = bs.length := by have := hNR.2.2.2.1; rw [csl_len] at this; exact this
        omega
      have hn8 : N.toNat ≤ 1024 := by
        have h0 : nsE N l bs (csl C) = 0 := by
          have := HE1.out
          unfold stE at this
          split at this
          · rename_i h3; exact absurd this h3
          · rename_i h3; simpa using h3
        have := (chk_zero (nsE_zero.1 h0).1).2.1
        omega
      have HR1 := Lib.hid hrw1
      clear hok1 hno1 hrw1
      obtain ⟨⟨q0, q1⟩, ⟨q2, q3⟩, ⟨q4, q5, q6, q7⟩, q8, q9⟩ := HXC.out x1 HX1.out
      go_wp2_with fail
      refine HK2.out.mono ?_
      rintro e x2 ⟨hok2, hno2, hb2⟩
      obtain ⟨av, cv, U, rfl, htc⟩ := hok2 (by simp)
      have HX2 : Hid (Below wc.heap.size wc x2) := HX1.out.trans (hb2.mono HX1.out.size)
      have HR12 := Lib.hid (HR1.out.on hb2)
      have HU2 := Lib.hid (htc.rws hn8)
      have HUE : Hid (∀ j, j < C.length → (cl U j).xs = ints (tcL N.toNat (cl C j).xs l ids)) := fun j hj => (htc.2.2 j hj).2
      have HUL := Lib.hid htc.2.1
      clear hok2 hno2 hb2 HK2 htc HR1 q0 q1 q2 q3 q4 q5 q6 q7 q8 q9
      obtain ⟨s1, s2, s3, s4⟩ := HTS.out x2 HX2.out
      have HK3 := Lib.hid (outer_any N (some ⟨g, 0, none⟩) l c xa bs xc ya Y yc lv x2 hl hbl s1.arcs s2 s3)
      rw [HEQ.out, HLE.out] at HK3
      rw [HE2.out, HD2.out] at HK3
      clear s1 s2 s3 s4
      obtain ⟨⟨q0, q1⟩, ⟨q2, q3⟩, ⟨q4, q5, q6, q7⟩, q8, q9⟩ := HXC.out x2 HX2.out
      go_wp2_with fail
      refine HK3.out.mono ?_
      rintro e x3 ⟨v3, rfl, hr3, hb3⟩
      have HX3 : Hid (Below wc.heap.size wc x3) := HX2.out.trans (hb3.mono HX2.out.size)
      have HI3 := Lib.hid hr3.ints
      have HR13 := Lib.hid (HR12.out.on hb3)
      have HU3 := Lib.hid (HU2.out.on hb3)
      clear HR12 HU2
      clear HK3 hb3 hr3 q0 q1 q2 q3 q4 q5 q6 q7 q8 q9
      obtain ⟨s1, s4⟩ := HGS.out x3 HX3.out
      have HK4 := Lib.hid (router_any N a l cap ba bs bc ca C cc lv x3 hl hbl s1.arcs s1.ints s1.rws)
      rw [HE2.out, HD2.out] at HK4
      clear s1 s4
      obtain ⟨⟨q0, q1⟩, ⟨q2, q3⟩, ⟨q4, q5, q6, q7⟩, q8, q9⟩ := HXC.out x3 HX3.out
      go_wp2_with fail
      refine HK4.out.mono ?_
      rintro e x4 ⟨v4, c4, rfl, hi4, hb4⟩
      have HX4 : Hid (Below wc.heap.size wc x4) := HX3.out.trans (hb4.mono HX3.out.size)
      have HI4 := Lib.hid hi4
      have HI34 := Lib.hid (HI3.out.on hb4)
      have HR14 := Lib.hid (HR13.out.on hb4)
      have HU4 := Lib.hid (HU3.out.on hb4)
      clear HR13 HU3
      clear HK4 hb4 hi4 q0 q1 q2 q3 q4 q5 q6 q7 q8 q9
      have HSI := Lib.hid (sameInts_any v3 v4 D2.length c4 (ints D2) x4 (by rw [ints_len]; omega) HI34.out HI4.out)
      rw [ints_len] at HSI
      have b0 : ((C.length : Int) != (C.length : Int)) = false := by simp
      go_wp2_with fail
      refine HSI.out.mono ?_
      rintro e x5 ⟨rfl, hb5⟩
      have HX5 : Hid (Below wc.heap.size wc x5) := HX4.out.trans (hb5.mono HX4.out.size)
      have HR15 := Lib.hid (HR14.out.on hb5)
      have HU5 := Lib.hid (HU4.out.on hb5)
      clear HSI hb5 HR14 HU4 HI3 HI4
      go_wp2_with fail
      go_loopw [18] (fun i wr => ∃ (k : Nat), k ≤ C.length ∧ i = .int .i64 k ∧ Hid (Below x5.heap.size x5 wr)) (fun i _ => C.length - (intOf i).toNat)
      case atStart => exact ⟨0, Nat.zero_le _, rfl, Below.refl _ _⟩
      case round =>
        obtain ⟨k, hk, rfl, HBR⟩ := hrel
        by_cases hlk : k < C.length
        · have hlk' : (k : Int) < C.length := by omega
          have hk0 : (0 : Int) ≤ k := by omega
          have hRr := HR15.out.on HBR.out
          have hUr := HU5.out.on HBR.out
          obtain ⟨b1', o1', hg1'⟩ := hRr.get
          obtain ⟨e1', hbl1', hcell1⟩ := hg1' (by rw [stC_len]; omega)
          injection e1' with e1'
          injection e1' with e1a e1b e1c
          subst e1a
          subst e1b
          obtain ⟨b2', o2', hg2'⟩ := hUr.get
          obtain ⟨rfl, hbl2', hcell2⟩ := hg2' (by rw [HUL.out]; omega)
          have d1 := hcell1 k (by rw [stC_len]; exact hlk)
          have d2 := hcell2 k (by rw [HUL.out]; exact hlk)
          have i1 := (hRr.2 k (by rw [stC_len]; exact hlk)).1
          have i2 := (hUr.2 k (by rw [HUL.out]; exact hlk)).1
          unfold Cl.val at d1 d2
          rw [stC_at hlk, csl_at] at d1 i1
          rw [HUE.out k hlk] at d2 i2
          simp only at d1 i1
          rw [ints_len] at d1 d2
          obtain ⟨T, HT⟩ := named (tcL N.toNat (cl C k).xs l ids)
          have hT8 : T.length ≤ 1024 := by
            rw [← HT.out]
            have := cho_len (tcP (cl C k).xs l ids ids.length) N.toNat
            unfold tcL
            omega
          rw [HT.out] at d1 d2 i1 i2
          obtain ⟨ua, uc, HUA, HUC⟩ : ∃ ua uc, Hid ((cl U k).a = ua) ∧ Hid ((cl U k).c = uc) := ⟨_, _, rfl, rfl⟩
          rw [HUA.out, HUC.out] at d2
          rw [HUA.out] at i2
          rw [Nat.zero_add] at d1
          generalize vs k = va at *
          have HI1 := Lib.hid i1
          have HI2 := Lib.hid i2
          have HSM : Hid (Calls Try.prog 19 #[.slice va T.length T.length, .slice ua T.length uc] wr.drew fun e w' => e = .returned (.bool true) ∧ Below wr.heap.size wr w') := by
            have hbd : Below wr.heap.size wr wr.drew := (Below.refl _ _).drew
            have := sameInts_any va ua T.length uc (ints T) wr.drew (by rw [ints_len]; omega) (HI1.out.on hbd) (HI2.out.on hbd)
            rw [ints_len] at this
            exact this.mono (fun e w' h => ⟨h.1, hbd.trans h.2⟩)
          have DD1 := Lib.hid d1
          have DD2 := Lib.hid d2
          clear i1 i2 hcell1 hcell2 hg1' hg2' hRr hUr e1c
          go_wp2_with fail
          go_region_held3 (fun w' => w'.cell? ⟨gs, k, none⟩ = some (.slice va T.length T.length) ∧ w'.cell? ⟨b2', o2' + k, none⟩ = some (.slice ua T.length uc)) (go_keep) ((go_at_call 19; refine HSM.out.mono ?_; rintro e w3 ⟨rfl, hb3⟩; have f1 := (hb3.cell (p := ⟨gs, k, none⟩) hbl1').trans DD1.out; have f2 := (hb3.cell (p := ⟨b2', o2' + k, none⟩) hbl2').trans DD2.out; have HB4 : Hid (Below x5.heap.size x5 w3) := HBR.out.trans (hb3.mono HBR.out.size); clear hb3 HSM))
          go_wp2_with fail
          exact ⟨⟨k + 1, by omega, by simp, HB4⟩, by simp [intOf]; omega⟩
        · have hlk' : ¬ (k : Int) < C.length := by omega
          have HX6 : Hid (Below wc.heap.size wc wr) := HX5.out.trans (HBR.out.mono HX5.out.size)
          obtain ⟨⟨q0, q1⟩, ⟨q2, q3⟩, ⟨q4, q5, q6, q7⟩, q8, q9⟩ := HXC.out wr HX6.out
          have HKG := Lib.hid (kept_any N g c a l cap wr hlen hlc hcm (HTS.out wr HX6.out).1 (HGS.out wr HX6.out).1.arcs)
          go_wp2_with fail
          refine HKG.out.mono ?_
          rintro e y6 ⟨rfl, hb15⟩
          have HY6 : Hid (Below wc.heap.size wc y6) := HX6.out.trans (hb15.mono HX6.out.size)
          clear HKG hb15 q0 q1 q2 q3 q4 q5 q6 q7 q8 q9
          obtain ⟨⟨q0, q1⟩, ⟨q2, q3⟩, ⟨q4, q5, q6, q7⟩, q8, q9⟩ := HXC.out y6 HY6.out
          obtain ⟨s1, s2, s3, s5⟩ := HTS.out y6 HY6.out
          have s4 := (HGS.out y6 HY6.out).1
          have HSN := Lib.hid (sameNest_any xa ba bs xc bc ya ca Y C yc cc y6 hbl (by have := HRB.out.1; rw [HLE.out]; omega) HLE.out.symm HEQ.out.symm s2 s3 s4.ints s4.rws)
          rw [HLE.out] at HSN
          clear s1 s2 s3 s4 s5
          go_wp2_with fail
          refine HSN.out.mono ?_
          rintro e y7 ⟨rfl, hb16⟩
          have HY7 : Hid (Below wc.heap.size wc y7) := HY6.out.trans (hb16.mono HY6.out.size)
          clear HSN hb16 q0 q1 q2 q3 q4 q5 q6 q7 q8 q9
          obtain ⟨⟨q0, q1⟩, ⟨q2, q3⟩, ⟨q4, q5, q6, q7⟩, q8, q9⟩ := HXC.out y7 HY7.out
          have HKI := Lib.hid (keptI_any gi ci da ids dc y7 hdlen hci (HTS.out y7 HY7.out).2.2.2 (HGS.out y7 HY7.out).2)
          go_wp2_with fail
          refine HKI.out.mono ?_
          rintro e y9 ⟨rfl, hb18⟩
          have HY9 : Hid (Below wc.heap.size wc y9) := HY7.out.trans (hb18.mono HY7.out.size)
          clear HKI hb18 q0 q1 q2 q3 q4 q5 q6 q7 q8 q9
          go_wp2_with fail
          refine (works_any y9).mono ?_
          rintro e y8 ⟨rfl, hb17⟩
          have HY8 : Hid (Below wc.heap.size wc y8) := HY9.out.trans (hb17.mono HY9.out.size)
          clear hb17
          go_wp2_with fail
          go_ret
          exact ⟨rfl, HEND.out _ (HB2.out.trans (HY8.out.mono HB2.out.size))⟩
    · have hs1 : e1 ≠ 0 := h1
      obtain rfl := hno1 h1
      clear hok1 hno1
      obtain ⟨⟨q0, q1⟩, ⟨q2, q3⟩, ⟨q4, q5, q6, q7⟩, q8, q9⟩ := HXC.out x1 HX1.out
      go_wp2_with fail
      refine HK2.out.mono ?_
      rintro e x2 ⟨hok2, hno2, hb2⟩
      obtain rfl := hno2 h1
      have HX2 : Hid (Below wc.heap.size wc x2) := HX1.out.trans (hb2.mono HX1.out.size)
      clear hok2 hno2 hb2 HK2 q0 q1 q2 q3 q4 q5 q6 q7 q8 q9
      obtain ⟨s1, s2, s3, s4⟩ := HTS.out x2 HX2.out
      have HK3 := Lib.hid (outer_any N (some ⟨g, 0, none⟩) l c xa bs xc ya Y yc lv x2 hl hbl s1.arcs s2 s3)
      rw [HEQ.out, HLE.out] at HK3
      rw [HE2.out, HD2.out] at HK3
      clear s1 s2 s3 s4
      obtain ⟨⟨q0, q1⟩, ⟨q2, q3⟩, ⟨q4, q5, q6, q7⟩, q8, q9⟩ := HXC.out x2 HX2.out
      go_wp2_with fail
      refine HK3.out.mono ?_
      rintro e x3 ⟨v3, rfl, hr3, hb3⟩
      have HX3 : Hid (Below wc.heap.size wc x3) := HX2.out.trans (hb3.mono HX2.out.size)
      have HI3 := Lib.hid hr3.ints
      clear HK3 hb3 hr3 q0 q1 q2 q3 q4 q5 q6 q7 q8 q9
      obtain ⟨s1, s4⟩ := HGS.out x3 HX3.out
      have HK4 := Lib.hid (router_any N a l cap ba bs bc ca C cc lv x3 hl hbl s1.arcs s1.ints s1.rws)
      rw [HE2.out, HD2.out] at HK4
      clear s1 s4
      obtain ⟨⟨q0, q1⟩, ⟨q2, q3⟩, ⟨q4, q5, q6, q7⟩, q8, q9⟩ := HXC.out x3 HX3.out
      go_wp2_with fail
      refine HK4.out.mono ?_
      rintro e x4 ⟨v4, c4, rfl, hi4, hb4⟩
      have HX4 : Hid (Below wc.heap.size wc x4) := HX3.out.trans (hb4.mono HX3.out.size)
      have HI4 := Lib.hid hi4
      have HI34 := Lib.hid (HI3.out.on hb4)
      clear HK4 hb4 hi4 q0 q1 q2 q3 q4 q5 q6 q7 q8 q9
      have HSI := Lib.hid (sameInts_any v3 v4 D2.length c4 (ints D2) x4 (by rw [ints_len]; omega) HI34.out HI4.out)
      rw [ints_len] at HSI
      go_wp2_with fail
      refine HSI.out.mono ?_
      rintro e x5 ⟨rfl, hb5⟩
      have HX5 : Hid (Below wc.heap.size wc x5) := HX4.out.trans (hb5.mono HX4.out.size)
      clear HSI hb5 HI3 HI4
      go_wp2_with fail
      go_loopw [18] (fun i wr => i = .int .i64 0 ∧ wr = x5) (fun _ _ => 0)
      case atStart => exact ⟨rfl, rfl⟩
      case round =>
        obtain ⟨rfl, rfl⟩ := hrel
        obtain ⟨⟨q0, q1⟩, ⟨q2, q3⟩, ⟨q4, q5, q6, q7⟩, q8, q9⟩ := HXC.out wr HX5.out
        have HKG := Lib.hid (kept_any N g c a l cap wr hlen hlc hcm (HTS.out wr HX5.out).1 (HGS.out wr HX5.out).1.arcs)
        go_wp2_with fail
        refine HKG.out.mono ?_
        rintro e y6 ⟨rfl, hb15⟩
        have HY6 : Hid (Below wc.heap.size wc y6) := HX5.out.trans (hb15.mono HX5.out.size)
        clear HKG hb15 q0 q1 q2 q3 q4 q5 q6 q7 q8 q9
        obtain ⟨⟨q0, q1⟩, ⟨q2, q3⟩, ⟨q4, q5, q6, q7⟩, q8, q9⟩ := HXC.out y6 HY6.out
        obtain ⟨s1, s2, s3, s5⟩ := HTS.out y6 HY6.out
        have s4 := (HGS.out y6 HY6.out).1
        have HSN := Lib.hid (sameNest_any xa ba bs xc bc ya ca Y C yc cc y6 hbl (by have := HRB.out.1; rw [HLE.out]; omega) HLE.out.symm HEQ.out.symm s2 s3 s4.ints s4.rws)
        rw [HLE.out] at HSN
        clear s1 s2 s3 s4 s5
        go_wp2_with fail
        refine HSN.out.mono ?_
        rintro e y7 ⟨rfl, hb16⟩
        have HY7 : Hid (Below wc.heap.size wc y7) := HY6.out.trans (hb16.mono HY6.out.size)
        clear HSN hb16 q0 q1 q2 q3 q4 q5 q6 q7 q8 q9
        obtain ⟨⟨q0, q1⟩, ⟨q2, q3⟩, ⟨q4, q5, q6, q7⟩, q8, q9⟩ := HXC.out y7 HY7.out
        have HKI := Lib.hid (keptI_any gi ci da ids dc y7 hdlen hci (HTS.out y7 HY7.out).2.2.2 (HGS.out y7 HY7.out).2)
        go_wp2_with fail
        refine HKI.out.mono ?_
        rintro e y9 ⟨rfl, hb18⟩
        have HY9 : Hid (Below wc.heap.size wc y9) := HY7.out.trans (hb18.mono HY7.out.size)
        clear HKI hb18 q0 q1 q2 q3 q4 q5 q6 q7 q8 q9
        go_wp2_with fail
        refine (works_any y9).mono ?_
        rintro e y8 ⟨rfl, hb17⟩
        have HY8 : Hid (Below wc.heap.size wc y8) := HY9.out.trans (hb17.mono HY9.out.size)
        clear hb17
        go_wp2_with fail
        go_ret
        exact ⟨rfl, HEND.out _ (HB2.out.trans (HY8.out.mono HB2.out.size))⟩
end Go.Proofs.Ytpmjbeiclmllmaa
